/-
  Joined: SqSn SqSo.
-/
import Derived.Test.YtknmhdkomjjneaaGreatDoorJ13
import Derived.Test.YtknmhdkomjjneaaGreatDoorJ6
/-
  The contents of a block, and which blocks are right. Plain mathematics.
-/

namespace Go.Proofs.YtknmhdkomjjneaaGreatDoor.Sq.Sm

theorem tk_app (l r : List UInt8) (a s : Nat) (h : Vm.tk l = (a, s, 0)) : Vm.tk (l ++ r) = (a, s, 0) := by
  have h1 := Vm.tk_only l (by rw [h])
  rw [h] at h1
  obtain ⟨h1, h2, h3⟩ := h1
  dsimp only at h1 h2 h3
  have h4 := Vm.tk_back a (l.drop s ++ r) h1
  rw [← List.append_assoc, ← h2, ← h3] at h4
  exact h4
theorem tk_take (l : List UInt8) (m : Nat) (hm : 10 ≤ m) (a s : Nat) (h : Vm.tk l = (a, s, 0)) : Vm.tk (l.take m) = (a, s, 0) := by
  have h1 := Vm.tk_only l (by rw [h])
  have h0 := Vm.tk_size l
  rw [h] at h1 h0
  obtain ⟨h1, h2, h3⟩ := h1
  dsimp only at h1 h2 h3 h0
  have h4 := Vm.tk_back a ((l.drop s).take (m - s)) h1
  have h5 : Vm.vb a ++ (l.drop s).take (m - s) = l.take m := by
    have e1 : (Vm.vb a).take m = Vm.vb a := List.take_of_length_le (by omega)
    conv => rhs; rw [h2, List.take_append, e1, ← h3]
  rw [h5, ← h3] at h4
  exact h4
theorem frameS_inv {l t : List UInt8} {s : Nat} (h : frameS l 1000 = (t, s, 0)) : ∃ a k, Vm.tk l = (a, k, 0) ∧ a ≤ 1000 ∧ k ≤ 10 ∧ k + a ≤ l.length ∧ t = (l.take (k + a)).drop k ∧ s = k + a ∧ 1 ≤ k := by
  rcases tk_cases l with ⟨a, k, htk, ha, hs, hs10⟩ | ⟨x, htk, hx⟩
  · by_cases h1 : (1000 : Int) < 0 ∨ (1000 : Int) < (a : Int)
    · rw [frameS_large l 1000 a k htk h1] at h; simp at h
    · by_cases h2 : l.length - k < a
      · rw [frameS_short l 1000 a k htk h1 h2] at h; simp at h
      · rw [frameS_ok l 1000 a k htk h1 h2] at h
        simp only [Prod.mk.injEq, and_true] at h
        have h3 := Vm.tk_only l (by rw [htk])
        rw [htk] at h3
        have h4 := Vm.vb_pos a
        have h5 : k = (Vm.vb a).length := h3.2.2
        exact ⟨a, k, htk, by omega, hs10, by omega, h.1.symm, h.2.symm, by omega⟩
  · rw [frameS_err l 1000 x htk hx] at h
    simp at h
    omega
theorem frameS_mk {l : List UInt8} {a k : Nat} (h : Vm.tk l = (a, k, 0)) (ha : a ≤ 1000) (hl : k + a ≤ l.length) : frameS l 1000 = ((l.take (k + a)).drop k, k + a, 0) :=
  frameS_ok l 1000 a k h (by omega) (by omega)
theorem frameS_app {l t : List UInt8} {s : Nat} (r : List UInt8) (h : frameS l 1000 = (t, s, 0)) : frameS (l ++ r) 1000 = (t, s, 0) := by
  obtain ⟨a, k, h1, h2, h3, h4, rfl, rfl, _⟩ := frameS_inv h
  rw [frameS_mk (tk_app l r a k h1) h2 (by simp; omega), List.take_append_of_le_length h4]
theorem frameS_take {l t : List UInt8} {s : Nat} (m : Nat) (hm : 1010 ≤ m) (h : frameS l 1000 = (t, s, 0)) : frameS (l.take m) 1000 = (t, s, 0) := by
  obtain ⟨a, k, h1, h2, h3, h4, rfl, rfl, _⟩ := frameS_inv h
  rw [frameS_mk (tk_take l m (by omega) a k h1) h2 (by rw [List.length_take]; omega), List.take_take, Nat.min_eq_left (by omega)]
theorem frameS_cut (l : List UInt8) (m : Nat) (hm : 1010 ≤ m) : (frameS (l.take m) 1000).2.2 = 0 ↔ (frameS l 1000).2.2 = 0 := by
  constructor
  · intro h
    rcases h1 : frameS (l.take m) 1000 with ⟨a, s, x⟩
    rw [h1] at h
    dsimp only at h
    subst h
    have := frameS_app (l.drop m) h1
    rw [List.take_append_drop] at this
    rw [this]
  · intro h
    rcases h1 : frameS l 1000 with ⟨a, s, x⟩
    rw [h1] at h
    dsimp only at h
    subst h
    rw [frameS_take m hm h1]

/-- Is it right? -/
def ok3 {α : Type} (p : α × Nat × Nat) : Option (α × Nat) := if p.2.2 = 0 then some (p.1, p.2.1) else none
theorem ok3_some {α : Type} {p : α × Nat × Nat} {a : α} {s : Nat} : ok3 p = some (a, s) ↔ p = (a, s, 0) := by
  obtain ⟨x, y, z⟩ := p
  unfold ok3
  dsimp only
  split
  · rename_i h; subst h; simp
  · rename_i h; simp [h]
/-- A record of two frames, and how long it is. -/
def rec1 (l : List UInt8) : Option (R × Nat) := (ok3 (frameS l 1000)).bind fun p => (ok3 (frameS (l.drop p.2) 1000)).map fun q => ([p.1, q.1], p.2 + q.2)
/-- So many records, and what is left. -/
def recN : Nat → List UInt8 → Option (List R × List UInt8)
  | 0, l => some ([], l)
  | k + 1, l => (rec1 l).bind fun p => (recN k (l.drop p.2)).map fun q => (p.1 :: q.1, q.2)
/-- The records that contents are. -/
def cont (l : List UInt8) : Option (List R) := (ok3 (Vm.tk l)).bind fun p => if 1 ≤ p.1 ∧ p.1 ≤ 100 then (recN p.1 (l.drop p.2)).bind fun q => if q.2 = [] then some q.1 else none else none
theorem cont_inv {l : List UInt8} {rs : List R} (h : cont l = some rs) : ∃ n s, Vm.tk l = (n, s, 0) ∧ 1 ≤ n ∧ n ≤ 100 ∧ recN n (l.drop s) = some (rs, []) ∧ s ≤ l.length := by
  unfold cont at h
  obtain ⟨⟨n, s⟩, h1, h2⟩ := Option.bind_eq_some_iff.1 h
  have g1 := ok3_some.1 h1
  dsimp only at h2
  split at h2
  · rename_i h3
    obtain ⟨⟨q, z⟩, h4, h5⟩ := Option.bind_eq_some_iff.1 h2
    dsimp only at h5
    split at h5
    · rename_i h6
      injection h5 with h5
      subst h5 h6
      have h0 := Vm.tk_size l
      rw [g1] at h0
      exact ⟨n, s, g1, h3.1, h3.2, h4, h0.1⟩
    · cases h5
  · cases h2
theorem cont_mk {l : List UInt8} {rs : List R} {n s : Nat} (h1 : Vm.tk l = (n, s, 0)) (h2 : 1 ≤ n) (h3 : n ≤ 100) (h4 : recN n (l.drop s) = some (rs, [])) : cont l = some rs := by
  unfold cont
  rw [ok3_some.2 h1]
  dsimp only [Option.bind_some]
  rw [if_pos ⟨h2, h3⟩, h4]
  rfl
/-- Sealed bytes, opened. -/
def opn (l : List UInt8) : Option (List UInt8) := if (Cm.openS Cm.tab l).2 = 0 then some (Cm.openS Cm.tab l).1 else none
theorem opn_some {l c : List UInt8} (h : opn l = some c) : Cm.openS Cm.tab l = (c, 0) := by
  unfold opn at h
  split at h
  · rename_i h1
    exact Prod.ext (Option.some.inj h) h1
  · cases h
theorem opn_take {l c : List UInt8} (h : opn l = some c) : 4 ≤ l.length ∧ c = l.take (l.length - 4) := by
  have h1 := opn_some h
  by_cases h4 : l.length < 4
  · rw [openS_short Cm.tab l Cm.tab_len h4] at h1; simp at h1
  · by_cases h3 : l.drop (l.length - 4) = Cm.four (Cm.sum Cm.tab (l.take (l.length - 4)))
    · rw [openS_ok Cm.tab l Cm.tab_len h4 h3] at h1
      simp only [Prod.mk.injEq] at h1
      exact ⟨by omega, h1.1.symm⟩
    · rw [openS_no Cm.tab l Cm.tab_len h4 h3] at h1; simp at h1
/-- The records of a block: what stands from a place up to the next marker. -/
def blk (x : List UInt8) : Option (List R) := if x.take 2 = [255, 83] then (une (x.drop 2)).bind fun s => (opn s).bind cont else none
end Go.Proofs.YtknmhdkomjjneaaGreatDoor.Sq.Sm

/-
  The blocks of a file, one behind another: which are right, how far, and which begin between two places. Plain mathematics.
-/

namespace Go.Proofs.YtknmhdkomjjneaaGreatDoor.Sq.Sm

/-- What is stored from place f on, marker by marker, below t: where each begins and ends. -/
def segs (b : List UInt8) (t : Nat) : Nat → Nat → List (Nat × Nat)
  | 0, _ => []
  | k + 1, f => if f < t then (f, nxt b (f + 1)) :: segs b t k (nxt b (f + 1)) else []
def sg (b : List UInt8) (f t : Nat) : List (Nat × Nat) := segs b t (t - f) f
theorem nxt_gt (b : List UInt8) (f : Nat) : f + 1 ≤ nxt b (f + 1) := by unfold nxt; omega
theorem segs_more (b : List UInt8) (t : Nat) : ∀ (k m f : Nat), t - f ≤ k → t - f ≤ m → segs b t k f = segs b t m f
  | 0, m, f, h1, h2 => by
    cases m with
    | zero => rfl
    | succ m => rw [segs, segs, if_neg (by omega)]
  | k + 1, m, f, h1, h2 => by
    cases m with
    | zero => rw [segs, segs, if_neg (by omega)]
    | succ m =>
      rw [segs, segs]
      split
      · have := nxt_gt b f
        rw [segs_more b t k m _ (by omega) (by omega)]
      · rfl
theorem sg_step {b : List UInt8} {f t : Nat} (h : f < t) : sg b f t = (f, nxt b (f + 1)) :: sg b (nxt b (f + 1)) t := by
  have := nxt_gt b f
  unfold sg
  rw [show t - f = (t - f - 1) + 1 by omega, segs, if_pos h, segs_more b t (t - f - 1) (t - nxt b (f + 1)) _ (by omega) (by omega)]
theorem sg_end {b : List UInt8} {f t : Nat} (h : t ≤ f) : sg b f t = [] := by unfold sg; rw [show t - f = 0 by omega, segs]
/-- The records of a block. -/
def val (b : List UInt8) (p : Nat × Nat) : Option (List R) := blk ((b.take p.2).drop p.1)
/-- The pieces of blocks. -/
def pcs (b : List UInt8) (L : List (Nat × Nat)) : List (Nat × List R) := L.map fun p => (p.1, (val b p).getD [])
/-- The blocks as far as they are right. -/
def run (b : List UInt8) : List (Nat × Nat) → List (Nat × List R) × Nat
  | [] => ([], b.length)
  | p :: L => match val b p with
    | some l => ((p.1, l) :: (run b L).1, (run b L).2)
    | none => ([], p.1)
def hd : List UInt8 := [84, 83, 81, 49]
/-- The pieces of a file, and how far it is right. -/
def ps (b : List UInt8) : List (Nat × List R) × Nat := if b.take 4 = hd then run b (sg b 4 b.length) else ([], 0)
def er (b : List UInt8) : Nat := if b.take 4 = hd ∧ (ps b).2 = b.length then 0 else 3
theorem run_some {b : List UInt8} {p : Nat × Nat} {l : List R} (L : List (Nat × Nat)) (h : val b p = some l) : run b (p :: L) = ((p.1, l) :: (run b L).1, (run b L).2) := by rw [run, h]
theorem run_none {b : List UInt8} {p : Nat × Nat} (L : List (Nat × Nat)) (h : val b p = none) : run b (p :: L) = ([], p.1) := by rw [run, h]
theorem run_app (b : List UInt8) : ∀ q L, (∀ p ∈ q, (val b p).isSome = true) → run b (q ++ L) = (pcs b q ++ (run b L).1, (run b L).2)
  | [], L, _ => rfl
  | p :: q, L, h => by
    obtain ⟨l, hl⟩ := Option.isSome_iff_exists.1 (h p (List.mem_cons_self ..))
    rw [List.cons_append, run_some _ hl, run_app b q L (fun x hx => h x (List.mem_cons_of_mem _ hx))]
    simp [pcs, hl]
theorem run_all (b : List UInt8) (q : List (Nat × Nat)) (h : ∀ p ∈ q, (val b p).isSome = true) : run b q = (pcs b q, b.length) := by
  have := run_app b q [] h
  rw [List.append_nil] at this
  rw [this]
  simp [run]
theorem run_stop (b : List UInt8) (q r : List (Nat × Nat)) (x : Nat × Nat) (h : ∀ p ∈ q, (val b p).isSome = true) (hx : val b x = none) : run b (q ++ x :: r) = (pcs b q, x.1) := by
  rw [run_app b q _ h, run_none _ hx]
  simp
theorem ps_head {b : List UInt8} (h : b.take 4 = hd) : ps b = run b (sg b 4 b.length) := if_pos h
theorem ps_not {b : List UInt8} (h : b.take 4 ≠ hd) : ps b = ([], 0) := if_neg h
theorem er_not {b : List UInt8} (h : b.take 4 ≠ hd) : er b = 3 := if_neg fun e => h e.1
end Go.Proofs.YtknmhdkomjjneaaGreatDoor.Sq.Sm
