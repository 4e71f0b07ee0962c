/-
  Joined: SqSn SqSo SqSp SqSq SqUp.
-/
import Derived.Test.YtknmhdkomjjneaaGreatDoorJW9
import Derived.Test.YtknmhdkomjjneaaGreatDoorJW6
/-
  The contents of a block, and which blocks are right. Plain mathematics.
-/

namespace Go.Proofs.YtknmhdkomjjneaaGreatDoor.Sq.Sm

theorem tk_app (l r : List UInt8) (a s : Nat) (h : Vm.tk l = (a, s, 0)) : Vm.tk (l ++ r) = (a, s, 0) := by
  have h1 := Vm.tk_only l (by rw [h])
  rw [h] at h1
  obtain ⟨h1, h2, h3⟩ := h1
  dsimp only at h1 h2 h3
  have h4 := Vm.tk_back a (l.drop s ++ r) h1
  rw [← List.append_assoc, ← h2, ← h3] at h4
  exact h4
theorem tk_take (l : List UInt8) (m : Nat) (hm : 10 ≤ m) (a s : Nat) (h : Vm.tk l = (a, s, 0)) : Vm.tk (l.take m) = (a, s, 0) := by
  have h1 := Vm.tk_only l (by rw [h])
  have h0 := Vm.tk_size l
  rw [h] at h1 h0
  obtain ⟨h1, h2, h3⟩ := h1
  dsimp only at h1 h2 h3 h0
  have h4 := Vm.tk_back a ((l.drop s).take (m - s)) h1
  have h5 : Vm.vb a ++ (l.drop s).take (m - s) = l.take m := by
    have e1 : (Vm.vb a).take m = Vm.vb a := List.take_of_length_le (by omega)
    conv => rhs; rw [h2, List.take_append, e1, ← h3]
  rw [h5, ← h3] at h4
  exact h4
theorem frameS_inv {l t : List UInt8} {s : Nat} (h : frameS l 1000 = (t, s, 0)) : ∃ a k, Vm.tk l = (a, k, 0) ∧ a ≤ 1000 ∧ k ≤ 10 ∧ k + a ≤ l.length ∧ t = (l.take (k + a)).drop k ∧ s = k + a ∧ 1 ≤ k := by
  rcases tk_cases l with ⟨a, k, htk, ha, hs, hs10⟩ | ⟨x, htk, hx⟩
  · by_cases h1 : (1000 : Int) < 0 ∨ (1000 : Int) < (a : Int)
    · rw [frameS_large l 1000 a k htk h1] at h; simp at h
    · by_cases h2 : l.length - k < a
      · rw [frameS_short l 1000 a k htk h1 h2] at h; simp at h
      · rw [frameS_ok l 1000 a k htk h1 h2] at h
        simp only [Prod.mk.injEq, and_true] at h
        have h3 := Vm.tk_only l (by rw [htk])
        rw [htk] at h3
        have h4 := Vm.vb_pos a
        have h5 : k = (Vm.vb a).length := h3.2.2
        exact ⟨a, k, htk, by omega, hs10, by omega, h.1.symm, h.2.symm, by omega⟩
  · rw [frameS_err l 1000 x htk hx] at h
    simp at h
    omega
theorem frameS_mk {l : List UInt8} {a k : Nat} (h : Vm.tk l = (a, k, 0)) (ha : a ≤ 1000) (hl : k + a ≤ l.length) : frameS l 1000 = ((l.take (k + a)).drop k, k + a, 0) :=
  frameS_ok l 1000 a k h (by omega) (by omega)
theorem frameS_app {l t : List UInt8} {s : Nat} (r : List UInt8) (h : frameS l 1000 = (t, s, 0)) : frameS (l ++ r) 1000 = (t, s, 0) := by
  obtain ⟨a, k, h1, h2, h3, h4, rfl, rfl, _⟩ := frameS_inv h
  rw [frameS_mk (tk_app l r a k h1) h2 (by simp; omega), List.take_append_of_le_length h4]
theorem frameS_take {l t : List UInt8} {s : Nat} (m : Nat) (hm : 1010 ≤ m) (h : frameS l 1000 = (t, s, 0)) : frameS (l.take m) 1000 = (t, s, 0) := by
  obtain ⟨a, k, h1, h2, h3, h4, rfl, rfl, _⟩ := frameS_inv h
  rw [frameS_mk (tk_take l m (by omega) a k h1) h2 (by rw [List.length_take]; omega), List.take_take, Nat.min_eq_left (by omega)]
theorem frameS_cut (l : List UInt8) (m : Nat) (hm : 1010 ≤ m) : (frameS (l.take m) 1000).2.2 = 0 ↔ (frameS l 1000).2.2 = 0 := by
  constructor
  · intro h
    rcases h1 : frameS (l.take m) 1000 with ⟨a, s, x⟩
    rw [h1] at h
    dsimp only at h
    subst h
    have := frameS_app (l.drop m) h1
    rw [List.take_append_drop] at this
    rw [this]
  · intro h
    rcases h1 : frameS l 1000 with ⟨a, s, x⟩
    rw [h1] at h
    dsimp only at h
    subst h
    rw [frameS_take m hm h1]

def ok3 {α : Type} (p : α × Nat × Nat) : Option (α × Nat) := if p.2.2 = 0 then some (p.1, p.2.1) else none
theorem ok3_some {α : Type} {p : α × Nat × Nat} {a : α} {s : Nat} : ok3 p = some (a, s) ↔ p = (a, s, 0) := by
  obtain ⟨x, y, z⟩ := p
  unfold ok3
  dsimp only
  split
  · rename_i h; subst h; simp
  · rename_i h; simp [h]
def rec1 (l : List UInt8) : Option (R × Nat) := (ok3 (frameS l 1000)).bind fun p => (ok3 (frameS (l.drop p.2) 1000)).map fun q => ([p.1, q.1], p.2 + q.2)
def recN : Nat → List UInt8 → Option (List R × List UInt8)
  | 0, l => some ([], l)
  | k + 1, l => (rec1 l).bind fun p => (recN k (l.drop p.2)).map fun q => (p.1 :: q.1, q.2)
def cont (l : List UInt8) : Option (List R) := (ok3 (Vm.tk l)).bind fun p => if 1 ≤ p.1 ∧ p.1 ≤ 100 then (recN p.1 (l.drop p.2)).bind fun q => if q.2 = [] then some q.1 else none else none
theorem cont_inv {l : List UInt8} {rs : List R} (h : cont l = some rs) : ∃ n s, Vm.tk l = (n, s, 0) ∧ 1 ≤ n ∧ n ≤ 100 ∧ recN n (l.drop s) = some (rs, []) ∧ s ≤ l.length := by
  unfold cont at h
  obtain ⟨⟨n, s⟩, h1, h2⟩ := Option.bind_eq_some_iff.1 h
  have g1 := ok3_some.1 h1
  dsimp only at h2
  split at h2
  · rename_i h3
    obtain ⟨⟨q, z⟩, h4, h5⟩ := Option.bind_eq_some_iff.1 h2
    dsimp only at h5
    split at h5
    · rename_i h6
      injection h5 with h5
      subst h5 h6
      have h0 := Vm.tk_size l
      rw [g1] at h0
      exact ⟨n, s, g1, h3.1, h3.2, h4, h0.1⟩
    · cases h5
  · cases h2
theorem cont_mk {l : List UInt8} {rs : List R} {n s : Nat} (h1 : Vm.tk l = (n, s, 0)) (h2 : 1 ≤ n) (h3 : n ≤ 100) (h4 : recN n (l.drop s) = some (rs, [])) : cont l = some rs := by
  unfold cont
  rw [ok3_some.2 h1]
  dsimp only [Option.bind_some]
  rw [if_pos ⟨h2, h3⟩, h4]
  rfl
def opn (l : List UInt8) : Option (List UInt8) := if (Cm.openS Cm.tab l).2 = 0 then some (Cm.openS Cm.tab l).1 else none
theorem opn_some {l c : List UInt8} (h : opn l = some c) : Cm.openS Cm.tab l = (c, 0) := by
  unfold opn at h
  split at h
  · rename_i h1
    exact Prod.ext (Option.some.inj h) h1
  · cases h
theorem opn_take {l c : List UInt8} (h : opn l = some c) : 4 ≤ l.length ∧ c = l.take (l.length - 4) := by
  have h1 := opn_some h
  by_cases h4 : l.length < 4
  · rw [openS_short Cm.tab l Cm.tab_len h4] at h1; simp at h1
  · by_cases h3 : l.drop (l.length - 4) = Cm.four (Cm.sum Cm.tab (l.take (l.length - 4)))
    · rw [openS_ok Cm.tab l Cm.tab_len h4 h3] at h1
      simp only [Prod.mk.injEq] at h1
      exact ⟨by omega, h1.1.symm⟩
    · rw [openS_no Cm.tab l Cm.tab_len h4 h3] at h1; simp at h1
def blk (x : List UInt8) : Option (List R) := if x.take 2 = [255, 83] then (une (x.drop 2)).bind fun s => (opn s).bind cont else none
theorem blk_mk (e : List UInt8) : blk (255 :: 83 :: e) = (une e).bind fun s => (opn s).bind cont := by unfold blk; rw [if_pos (show List.take 2 (255 :: 83 :: e) = [255, 83] from rfl)]; rfl
end Go.Proofs.YtknmhdkomjjneaaGreatDoor.Sq.Sm

/-
  The blocks of a file, one behind another: which are right, how far, and which begin between two places. Plain mathematics.
-/

namespace Go.Proofs.YtknmhdkomjjneaaGreatDoor.Sq.Sm

def segs (b : List UInt8) (t : Nat) : Nat → Nat → List (Nat × Nat)
  | 0, _ => []
  | k + 1, f => if f < t then (f, nxt b (f + 1)) :: segs b t k (nxt b (f + 1)) else []
def sg (b : List UInt8) (f t : Nat) : List (Nat × Nat) := segs b t (t - f) f
theorem nxt_gt (b : List UInt8) (f : Nat) : f + 1 ≤ nxt b (f + 1) := by unfold nxt; omega
theorem segs_more (b : List UInt8) (t : Nat) : ∀ (k m f : Nat), t - f ≤ k → t - f ≤ m → segs b t k f = segs b t m f
  | 0, m, f, h1, h2 => by
    cases m with
    | zero => rfl
    | succ m => rw [segs, segs, if_neg (by omega)]
  | k + 1, m, f, h1, h2 => by
    cases m with
    | zero => rw [segs, segs, if_neg (by omega)]
    | succ m =>
      rw [segs, segs]
      split
      · have := nxt_gt b f
        rw [segs_more b t k m _ (by omega) (by omega)]
      · rfl
theorem sg_step {b : List UInt8} {f t : Nat} (h : f < t) : sg b f t = (f, nxt b (f + 1)) :: sg b (nxt b (f + 1)) t := by
  have := nxt_gt b f
  unfold sg
  rw [show t - f = (t - f - 1) + 1 by omega, segs, if_pos h, segs_more b t (t - f - 1) (t - nxt b (f + 1)) _ (by omega) (by omega)]
theorem sg_end {b : List UInt8} {f t : Nat} (h : t ≤ f) : sg b f t = [] := by unfold sg; rw [show t - f = 0 by omega, segs]
def val (b : List UInt8) (p : Nat × Nat) : Option (List R) := blk ((b.take p.2).drop p.1)
def pcs (b : List UInt8) (L : List (Nat × Nat)) : List (Nat × List R) := L.map fun p => (p.1, (val b p).getD [])
def run (b : List UInt8) : List (Nat × Nat) → List (Nat × List R) × Nat
  | [] => ([], b.length)
  | p :: L => match val b p with
    | some l => ((p.1, l) :: (run b L).1, (run b L).2)
    | none => ([], p.1)
def hd : List UInt8 := [84, 83, 81, 49]
def ps (b : List UInt8) : List (Nat × List R) × Nat := if b.take 4 = hd then run b (sg b 4 b.length) else ([], 0)
def er (b : List UInt8) : Nat := if b.take 4 = hd ∧ (ps b).2 = b.length then 0 else 3
theorem run_some {b : List UInt8} {p : Nat × Nat} {l : List R} (L : List (Nat × Nat)) (h : val b p = some l) : run b (p :: L) = ((p.1, l) :: (run b L).1, (run b L).2) := by rw [run, h]
theorem run_none {b : List UInt8} {p : Nat × Nat} (L : List (Nat × Nat)) (h : val b p = none) : run b (p :: L) = ([], p.1) := by rw [run, h]
theorem run_app (b : List UInt8) : ∀ q L, (∀ p ∈ q, (val b p).isSome = true) → run b (q ++ L) = (pcs b q ++ (run b L).1, (run b L).2)
  | [], L, _ => rfl
  | p :: q, L, h => by
    obtain ⟨l, hl⟩ := Option.isSome_iff_exists.1 (h p (List.mem_cons_self ..))
    rw [List.cons_append, run_some _ hl, run_app b q L (fun x hx => h x (List.mem_cons_of_mem _ hx))]
    simp [pcs, hl]
theorem run_all (b : List UInt8) (q : List (Nat × Nat)) (h : ∀ p ∈ q, (val b p).isSome = true) : run b q = (pcs b q, b.length) := by
  have := run_app b q [] h
  rw [List.append_nil] at this
  rw [this]
  simp [run]
theorem run_stop (b : List UInt8) (q r : List (Nat × Nat)) (x : Nat × Nat) (h : ∀ p ∈ q, (val b p).isSome = true) (hx : val b x = none) : run b (q ++ x :: r) = (pcs b q, x.1) := by
  rw [run_app b q _ h, run_none _ hx]
  simp
theorem ps_head {b : List UInt8} (h : b.take 4 = hd) : ps b = run b (sg b 4 b.length) := if_pos h
theorem ps_not {b : List UInt8} (h : b.take 4 ≠ hd) : ps b = ([], 0) := if_neg h
theorem er_not {b : List UInt8} (h : b.take 4 ≠ hd) : er b = 3 := if_neg fun e => h e.1
def Ch (b : List UInt8) : Nat → Nat → List (Nat × Nat) → Prop
  | f, g, [] => f = g
  | f, g, p :: L => p.1 = f ∧ p.2 = nxt b (f + 1) ∧ (val b p).isSome = true ∧ f < b.length ∧ Ch b p.2 g L
theorem ch_sg {b : List UInt8} : ∀ {L : List (Nat × Nat)} {f : Nat}, Ch b f b.length L → sg b f b.length = L
  | [], f, h => sg_end (by have : f = b.length := h; omega)
  | p :: L, f, h => by
    obtain ⟨rfl, h2, h3, h4, h5⟩ := h
    rw [sg_step h4, ← h2, ch_sg h5]
theorem ch_some {b : List UInt8} : ∀ {L : List (Nat × Nat)} {f g : Nat}, Ch b f g L → ∀ p ∈ L, (val b p).isSome = true
  | [], f, g, h, p, hp => by cases hp
  | q :: L, f, g, h, p, hp => by
    obtain ⟨_, _, h3, _, h5⟩ := h
    rcases List.mem_cons.1 hp with rfl | hp
    · exact h3
    · exact ch_some h5 p hp
end Go.Proofs.YtknmhdkomjjneaaGreatDoor.Sq.Sm

/-
  Writing: the contents of a block, a block, a file. Plain mathematics.
-/

namespace Go.Proofs.YtknmhdkomjjneaaGreatDoor.Sq.Sm

def frl (s : List UInt8) : List UInt8 := Vm.vb s.length ++ s
def frs (r : R) : List UInt8 := r.flatMap frl
def recsB (l : List R) : List UInt8 := l.flatMap frs
def conts (l : List R) : List UInt8 := Vm.vb l.length ++ recsB l
def sealed (c : List UInt8) : List UInt8 := c ++ Cm.four (Cm.sum Cm.tab c)
def blkw (l : List R) : List UInt8 := 255 :: 83 :: esc (sealed (conts l))
def wch : Nat → List R → List UInt8
  | 0, _ => []
  | k + 1, l => if l = [] then [] else blkw (l.take 3) ++ wch k (l.drop 3)
def wr (l : List R) : List UInt8 := hd ++ wch l.length l
def okR (r : R) : Bool := decide (r.length = 2) && r.all fun s => decide (s.length ≤ 1000)
def wrS (l : List R) : List UInt8 × Nat := if l.all okR then (wr l, 0) else ([], 10)
theorem wrS_ok {l : List R} (h : l.all okR = true) : wrS l = (wr l, 0) := if_pos h
theorem wrS_err {l : List R} (h : l.all okR = false) : wrS l = ([], 10) := if_neg (by simp [h])
theorem frs_snoc (r : R) (k : Nat) (s : List UInt8) (h : r[k]? = some s) : frs (r.take (k + 1)) = frs (r.take k) ++ frl s := by
  rw [List.take_add_one, h]; simp [frs]
theorem recsB_snoc (l : List R) (k : Nat) (r : R) (h : l[k]? = some r) : recsB (l.take (k + 1)) = recsB (l.take k) ++ frs r := by
  rw [List.take_add_one, h]; simp [recsB]
theorem recsB_app (l m : List R) : recsB (l ++ m) = recsB l ++ recsB m := by simp [recsB]
theorem okR_iff {r : R} : okR r = true ↔ r.length = 2 ∧ ∀ s ∈ r, s.length ≤ 1000 := by simp [okR]
theorem vb_three (n : Nat) (h : n ≤ 1000000) : (Vm.vb n).length ≤ 3 := vb_small n h
theorem frs_len : ∀ r : R, (∀ s ∈ r, s.length ≤ 1000) → (frs r).length ≤ 1003 * r.length
  | [], _ => by simp [frs]
  | s :: r, h => by
    have ih := frs_len r (fun x hx => h x (List.mem_cons_of_mem _ hx))
    have h1 := h s (List.mem_cons_self ..)
    have h2 := vb_three s.length (by omega)
    have e : frs (s :: r) = frl s ++ frs r := rfl
    rw [e, List.length_append, List.length_cons, frl, List.length_append]
    omega
theorem recsB_len : ∀ l : List R, l.all okR = true → (recsB l).length ≤ 2006 * l.length
  | [], _ => by simp [recsB]
  | r :: l, h => by
    rw [List.all_cons, Bool.and_eq_true] at h
    have ih := recsB_len l h.2
    obtain ⟨h1, h2⟩ := okR_iff.1 h.1
    have h3 := frs_len r h2
    have e : recsB (r :: l) = frs r ++ recsB l := rfl
    rw [e, List.length_append, List.length_cons]
    omega
theorem frs_take_len (r : R) (k : Nat) : (frs (r.take k)).length ≤ (frs r).length := by
  have h := congrArg List.length (congrArg frs (List.take_append_drop k r))
  have e : ∀ a b : R, frs (a ++ b) = frs a ++ frs b := fun a b => by simp [frs]
  rw [e, List.length_append] at h
  omega
theorem recsB_take_len (l : List R) (k : Nat) : (recsB (l.take k)).length ≤ (recsB l).length := by
  have h := congrArg List.length (congrArg recsB (List.take_append_drop k l))
  rw [recsB_app, List.length_append] at h
  omega
theorem blkw_len3 (l : List R) (h : l.all okR = true) (hl : l.length ≤ 3) : (blkw l).length ≤ 12100 := by
  have h1 := recsB_len l h
  have h2 := vb_three l.length (by omega)
  have h3 := esc_len (sealed (conts l))
  have h4 : (sealed (conts l)).length = (conts l).length + 4 := by simp [sealed, Cm.four_len]
  have h5 : (conts l).length = (Vm.vb l.length).length + (recsB l).length := by simp [conts]
  unfold blkw
  rw [List.length_cons, List.length_cons]
  omega
theorem wch_nil (k : Nat) : wch k [] = [] := by cases k <;> rfl
theorem wch_step {k : Nat} {l : List R} (h : l ≠ []) : wch (k + 1) l = blkw (l.take 3) ++ wch k (l.drop 3) := by rw [wch, if_neg h]
theorem wch_more : ∀ (k m : Nat) (l : List R), l.length ≤ k → l.length ≤ m → wch k l = wch m l
  | 0, m, l, h1, h2 => by
    obtain rfl : l = [] := List.eq_nil_of_length_eq_zero (by omega)
    rw [wch_nil, wch_nil]
  | k + 1, m, l, h1, h2 => by
    by_cases h : l = []
    · subst h; rw [wch_nil, wch_nil]
    · have hp : 0 < l.length := List.length_pos_iff.2 h
      obtain ⟨j, rfl⟩ : ∃ j, m = j + 1 := ⟨m - 1, by omega⟩
      rw [wch_step h, wch_step h, wch_more k j _ (by rw [List.length_drop]; omega) (by rw [List.length_drop]; omega)]
theorem all_take_drop {l : List R} (k : Nat) : l.all okR = true ↔ (l.take k).all okR = true ∧ (l.drop k).all okR = true := by
  conv => lhs; rw [← List.take_append_drop k l]
  rw [List.all_append, Bool.and_eq_true]
end Go.Proofs.YtknmhdkomjjneaaGreatDoor.Sq.Sm

/-
  What was written is read. Plain mathematics.
-/

namespace Go.Proofs.YtknmhdkomjjneaaGreatDoor.Sq.Sm

theorem frameS_frl (s y : List UInt8) (h : s.length ≤ 1000) : frameS (frl s ++ y) 1000 = (s, (frl s).length, 0) := by
  have h1 : Vm.tk (frl s ++ y) = (s.length, (Vm.vb s.length).length, 0) := by
    unfold frl
    rw [List.append_assoc]
    exact Vm.tk_back s.length (s ++ y) (by omega)
  rw [frameS_mk h1 h (by unfold frl; simp)]
  have h2 : (frl s).length = (Vm.vb s.length).length + s.length := by unfold frl; rw [List.length_append]
  rw [← h2, List.take_left' rfl]
  unfold frl
  rw [List.drop_left' rfl]
theorem rec1_frs (r : R) (y : List UInt8) (h : okR r = true) : rec1 (frs r ++ y) = some (r, (frs r).length) := by
  obtain ⟨h2, hs⟩ := okR_iff.1 h
  match r, h2 with
  | [s, t], _ =>
    have hs1 := hs s (by simp)
    have ht1 := hs t (by simp)
    have e : frs [s, t] ++ y = frl s ++ (frl t ++ y) := by simp [frs]
    have e2 : (frs [s, t]).length = (frl s).length + (frl t).length := by simp [frs]
    unfold rec1
    rw [e, e2, ok3_some.2 (frameS_frl s _ hs1)]
    dsimp only [Option.bind_some]
    rw [List.drop_left' rfl, ok3_some.2 (frameS_frl t y ht1)]
    rfl
theorem recN_recsB : ∀ (l : List R) (x : List UInt8), l.all okR = true → recN l.length (recsB l ++ x) = some (l, x)
  | [], x, _ => rfl
  | r :: l, x, h => by
    rw [List.all_cons, Bool.and_eq_true] at h
    have ih := recN_recsB l x h.2
    have e : recsB (r :: l) ++ x = frs r ++ (recsB l ++ x) := by simp [recsB]
    rw [List.length_cons, recN, e, rec1_frs r _ h.1]
    dsimp only [Option.bind_some]
    rw [List.drop_left' rfl, ih]
    rfl
theorem cont_conts (l : List R) (h : l.all okR = true) (h1 : 1 ≤ l.length) (h2 : l.length ≤ 100) : cont (conts l) = some l := by
  have ht : Vm.tk (conts l) = (l.length, (Vm.vb l.length).length, 0) := Vm.tk_back l.length (recsB l) (by omega)
  refine cont_mk ht h1 h2 ?_
  unfold conts
  rw [List.drop_left' rfl]
  have := recN_recsB l [] h
  rwa [List.append_nil] at this
theorem opn_sealed (c : List UInt8) : opn (sealed c) = some c := by
  unfold opn sealed
  rw [Cm.open_seal Cm.tab Cm.tab_len]
  rfl
theorem blk_blkw (l : List R) (h : l.all okR = true) (h1 : 1 ≤ l.length) (h2 : l.length ≤ 100) : blk (blkw l) = some l := by
  unfold blkw
  rw [blk_mk, une_back]
  dsimp only [Option.bind_some]
  rw [opn_sealed]
  dsimp only [Option.bind_some]
  exact cont_conts l h h1 h2
theorem wch_head (k : Nat) (l : List R) : wch k l = [] ∨ isM (wch k l) 0 := by
  cases k with
  | zero => exact .inl rfl
  | succ k =>
    by_cases h : l = []
    · subst h; exact .inl (wch_nil _)
    · rw [wch_step h]; exact .inr ⟨rfl, rfl⟩
theorem nxt_block (pre s Y : List UInt8) (hY : Y = [] ∨ isM Y 0) : nxt (pre ++ ((255 :: 83 :: esc s) ++ Y)) (pre.length + 1) = pre.length + (255 :: 83 :: esc s).length := by
  have e : (pre ++ ((255 :: 83 :: esc s) ++ Y)).drop (pre.length + 1) = 83 :: (esc s ++ Y) := by
    rw [← List.drop_drop, List.drop_left' rfl]; rfl
  unfold nxt
  rw [e, mark_step (by simp), mark_esc s Y hY]
  simp; omega
theorem val_block (pre X Y : List UInt8) : val (pre ++ (X ++ Y)) (pre.length, pre.length + X.length) = blk X := by
  unfold val
  dsimp only
  congr 1
  rw [← List.append_assoc, List.take_left' (by rw [List.length_append]), List.drop_left' rfl]
theorem ch_wr : ∀ (k : Nat) (pre : List UInt8) (l : List R), l.length ≤ k → l.all okR = true →
    ∃ L, Ch (pre ++ wch k l) pre.length (pre ++ wch k l).length L ∧ Tm.all (pcs (pre ++ wch k l) L) = l ∧ L.length = (l.length + 2) / 3
  | 0, pre, l, h, hok => by
    obtain rfl : l = [] := List.eq_nil_of_length_eq_zero (by omega)
    exact ⟨[], by simp [wch, Ch], rfl, rfl⟩
  | k + 1, pre, l, h, hok => by
    by_cases hl : l = []
    · subst hl
      exact ⟨[], by rw [wch_nil, List.append_nil]; rfl, rfl, rfl⟩
    · have hp : 0 < l.length := List.length_pos_iff.2 hl
      rw [wch_step hl]
      obtain ⟨ok1, ok2⟩ := (all_take_drop 3).1 hok
      obtain ⟨L, h1, h2, h3⟩ := ch_wr k (pre ++ blkw (l.take 3)) (l.drop 3) (by rw [List.length_drop]; omega) ok2
      rw [List.append_assoc] at h1 h2
      have hv : val (pre ++ (blkw (l.take 3) ++ wch k (l.drop 3))) (pre.length, pre.length + (blkw (l.take 3)).length) = some (l.take 3) := by
        rw [val_block]
        exact blk_blkw _ ok1 (by rw [List.length_take]; omega) (by rw [List.length_take]; omega)
      refine ⟨(pre.length, pre.length + (blkw (l.take 3)).length) :: L, ⟨rfl, ?_, by rw [hv]; rfl, by simp [blkw], ?_⟩, ?_, ?_⟩
      · exact (nxt_block pre (sealed (conts (l.take 3))) _ (wch_head _ _)).symm
      · rw [List.length_append] at h1
        exact h1
      · have e : Tm.all (pcs (pre ++ (blkw (l.take 3) ++ wch k (l.drop 3))) ((pre.length, pre.length + (blkw (l.take 3)).length) :: L)) = ((val (pre ++ (blkw (l.take 3) ++ wch k (l.drop 3))) (pre.length, pre.length + (blkw (l.take 3)).length)).getD []) ++ Tm.all (pcs (pre ++ (blkw (l.take 3) ++ wch k (l.drop 3))) L) := rfl
        rw [e, hv, h2]
        exact List.take_append_drop 3 l
      · rw [List.length_cons, h3, List.length_drop]
        omega
theorem wr_take (l : List R) : (wr l).take 4 = hd := by unfold wr; exact List.take_left' rfl
theorem ps_wr (l : List R) (hok : l.all okR = true) : ∃ L, Ch (wr l) 4 (wr l).length L ∧ ps (wr l) = (pcs (wr l) L, (wr l).length) ∧ Tm.all (pcs (wr l) L) = l ∧ L.length = (l.length + 2) / 3 ∧ er (wr l) = 0 := by
  obtain ⟨L, h1, h2, h3⟩ := ch_wr l.length hd l (Nat.le_refl _) hok
  have h4 : Ch (wr l) 4 (wr l).length L := h1
  have h5 : ps (wr l) = (pcs (wr l) L, (wr l).length) := by
    rw [ps_head (wr_take l), ch_sg h4, run_all _ _ (ch_some h4)]
  exact ⟨L, h4, h5, h2, h3, by unfold er; rw [if_pos ⟨wr_take l, by rw [h5]⟩]⟩
end Go.Proofs.YtknmhdkomjjneaaGreatDoor.Sq.Sm

/-
  Where the pieces of a file stand; how long what was written is. Plain mathematics.
-/

namespace Go.Proofs.YtknmhdkomjjneaaGreatDoor.Sq.Sm

def plc (L : List (Nat × Nat)) (g i : Nat) : Nat := match L[i]? with
  | some p => p.1
  | none => g
theorem wrS_zero {l : List R} (h : (wrS l).2 = 0) : l.all okR = true := by
  by_cases e : l.all okR = true
  · exact e
  · rw [wrS_err (by simpa using e)] at h; cases h
end Go.Proofs.YtknmhdkomjjneaaGreatDoor.Sq.Sm
