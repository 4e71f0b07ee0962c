/-
  Writing: the contents of a block, a block, a file. Plain mathematics.
-/
import Derived.Test.YtddnlimkaagpdaaDoorSo
namespace Go.Proofs.YtddnlimkaagpdaaDoor.Sm

def frl (s : List UInt8) : List UInt8 := Vm.vb s.length ++ s
def frs (r : R) : List UInt8 := r.flatMap frl
def recsB (l : List R) : List UInt8 := l.flatMap frs
def conts (l : List R) : List UInt8 := Vm.vb l.length ++ recsB l
def sealed (c : List UInt8) : List UInt8 := c ++ Cm.four (Cm.sum Cm.tab c)
def blkw (l : List R) : List UInt8 := 255 :: 83 :: esc (sealed (conts l))
/-- So many blocks of three records. -/
def wch : Nat → List R → List UInt8
  | 0, _ => []
  | k + 1, l => if l = [] then [] else blkw (l.take 3) ++ wch k (l.drop 3)
def wr (l : List R) : List UInt8 := hd ++ wch l.length l
/-- May a record be written? -/
def okR (r : R) : Bool := decide (r.length = 2) && r.all fun s => decide (s.length ≤ 1000)
def wrS (l : List R) : List UInt8 × Nat := if l.all okR then (wr l, 0) else ([], 10)
theorem wrS_ok {l : List R} (h : l.all okR = true) : wrS l = (wr l, 0) := if_pos h
theorem wrS_err {l : List R} (h : l.all okR = false) : wrS l = ([], 10) := if_neg (by simp [h])
theorem frs_snoc (r : R) (k : Nat) (s : List UInt8) (h : r[k]? = some s) : frs (r.take (k + 1)) = frs (r.take k) ++ frl s := by
  rw [List.take_add_one, h]; simp [frs]
theorem recsB_snoc (l : List R) (k : Nat) (r : R) (h : l[k]? = some r) : recsB (l.take (k + 1)) = recsB (l.take k) ++ frs r := by
  rw [List.take_add_one, h]; simp [recsB]
theorem recsB_app (l m : List R) : recsB (l ++ m) = recsB l ++ recsB m := by simp [recsB]
theorem okR_iff {r : R} : okR r = true ↔ r.length = 2 ∧ ∀ s ∈ r, s.length ≤ 1000 := by simp [okR]
theorem vb_three (n : Nat) (h : n ≤ 1000000) : (Vm.vb n).length ≤ 3 := vb_small n h
theorem frs_len : ∀ r : R, (∀ s ∈ r, s.length ≤ 1000) → (frs r).length ≤ 1003 * r.length
  | [], _ => by simp [frs]
  | s :: r, h => by
    have ih := frs_len r (fun x hx => h x (List.mem_cons_of_mem _ hx))
    have h1 := h s (List.mem_cons_self ..)
    have h2 := vb_three s.length (by omega)
    have e : frs (s :: r) = frl s ++ frs r := rfl
    rw [e, List.length_append, List.length_cons, frl, List.length_append]
    omega
theorem recsB_len : ∀ l : List R, l.all okR = true → (recsB l).length ≤ 2006 * l.length
  | [], _ => by simp [recsB]
  | r :: l, h => by
    rw [List.all_cons, Bool.and_eq_true] at h
    have ih := recsB_len l h.2
    obtain ⟨h1, h2⟩ := okR_iff.1 h.1
    have h3 := frs_len r h2
    have e : recsB (r :: l) = frs r ++ recsB l := rfl
    rw [e, List.length_append, List.length_cons]
    omega
theorem frs_take_len (r : R) (k : Nat) : (frs (r.take k)).length ≤ (frs r).length := by
  have h := congrArg List.length (congrArg frs (List.take_append_drop k r))
  have e : ∀ a b : R, frs (a ++ b) = frs a ++ frs b := fun a b => by simp [frs]
  rw [e, List.length_append] at h
  omega
theorem recsB_take_len (l : List R) (k : Nat) : (recsB (l.take k)).length ≤ (recsB l).length := by
  have h := congrArg List.length (congrArg recsB (List.take_append_drop k l))
  rw [recsB_app, List.length_append] at h
  omega
theorem blkw_len (l : List R) (h : l.all okR = true) (hl : l.length ≤ 100) : (blkw l).length ≤ 401300 := by
  have h1 := recsB_len l h
  have h2 := vb_three l.length (by omega)
  have h3 := esc_len (sealed (conts l))
  have h4 : (sealed (conts l)).length = (conts l).length + 4 := by simp [sealed, Cm.four_len]
  have h5 : (conts l).length = (Vm.vb l.length).length + (recsB l).length := by simp [conts]
  unfold blkw
  rw [List.length_cons, List.length_cons]
  omega
theorem blkw_len3 (l : List R) (h : l.all okR = true) (hl : l.length ≤ 3) : (blkw l).length ≤ 12100 := by
  have h1 := recsB_len l h
  have h2 := vb_three l.length (by omega)
  have h3 := esc_len (sealed (conts l))
  have h4 : (sealed (conts l)).length = (conts l).length + 4 := by simp [sealed, Cm.four_len]
  have h5 : (conts l).length = (Vm.vb l.length).length + (recsB l).length := by simp [conts]
  unfold blkw
  rw [List.length_cons, List.length_cons]
  omega
theorem wch_nil (k : Nat) : wch k [] = [] := by cases k <;> rfl
theorem wch_step {k : Nat} {l : List R} (h : l ≠ []) : wch (k + 1) l = blkw (l.take 3) ++ wch k (l.drop 3) := by rw [wch, if_neg h]
theorem wch_more : ∀ (k m : Nat) (l : List R), l.length ≤ k → l.length ≤ m → wch k l = wch m l
  | 0, m, l, h1, h2 => by
    obtain rfl : l = [] := List.eq_nil_of_length_eq_zero (by omega)
    rw [wch_nil, wch_nil]
  | k + 1, m, l, h1, h2 => by
    by_cases h : l = []
    · subst h; rw [wch_nil, wch_nil]
    · have hp : 0 < l.length := List.length_pos_iff.2 h
      obtain ⟨j, rfl⟩ : ∃ j, m = j + 1 := ⟨m - 1, by omega⟩
      rw [wch_step h, wch_step h, wch_more k j _ (by rw [List.length_drop]; omega) (by rw [List.length_drop]; omega)]
theorem all_take_drop {l : List R} (k : Nat) : l.all okR = true ↔ (l.take k).all okR = true ∧ (l.drop k).all okR = true := by
  conv => lhs; rw [← List.take_append_drop k l]
  rw [List.all_append, Bool.and_eq_true]
end Go.Proofs.YtddnlimkaagpdaaDoor.Sm
