/-
  The contents of a block, and which blocks are right. Plain mathematics.
-/
import Derived.Test.YtddnlimkaagpdaaDoorSm
import Derived.Test.YtddnlimkaagpdaaDoorCy
namespace Go.Proofs.YtddnlimkaagpdaaDoor.Sm

theorem tk_app (l r : List UInt8) (a s : Nat) (h : Vm.tk l = (a, s, 0)) : Vm.tk (l ++ r) = (a, s, 0) := by
  have h1 := Vm.tk_only l (by rw [h])
  rw [h] at h1
  obtain ⟨h1, h2, h3⟩ := h1
  dsimp only at h1 h2 h3
  have h4 := Vm.tk_back a (l.drop s ++ r) h1
  rw [← List.append_assoc, ← h2, ← h3] at h4
  exact h4
theorem tk_take (l : List UInt8) (m : Nat) (hm : 10 ≤ m) (a s : Nat) (h : Vm.tk l = (a, s, 0)) : Vm.tk (l.take m) = (a, s, 0) := by
  have h1 := Vm.tk_only l (by rw [h])
  have h0 := Vm.tk_size l
  rw [h] at h1 h0
  obtain ⟨h1, h2, h3⟩ := h1
  dsimp only at h1 h2 h3 h0
  have h4 := Vm.tk_back a ((l.drop s).take (m - s)) h1
  have h5 : Vm.vb a ++ (l.drop s).take (m - s) = l.take m := by
    have e1 : (Vm.vb a).take m = Vm.vb a := List.take_of_length_le (by omega)
    conv => rhs; rw [h2, List.take_append, e1, ← h3]
  rw [h5, ← h3] at h4
  exact h4
/-- The first ten bytes tell. -/
theorem tk_ten (l : List UInt8) (m : Nat) (hm : 10 ≤ m) : (Vm.tk (l.take m)).2.2 = 0 ↔ (Vm.tk l).2.2 = 0 := by
  constructor
  · intro h
    rcases h1 : Vm.tk (l.take m) with ⟨a, s, x⟩
    rw [h1] at h
    dsimp only at h
    subst h
    have := tk_app (l.take m) (l.drop m) a s h1
    rw [List.take_append_drop] at this
    rw [this]
  · intro h
    rcases h1 : Vm.tk l with ⟨a, s, x⟩
    rw [h1] at h
    dsimp only at h
    subst h
    rw [tk_take l m hm a s h1]

theorem frameS_inv {l t : List UInt8} {s : Nat} (h : frameS l 1000 = (t, s, 0)) : ∃ a k, Vm.tk l = (a, k, 0) ∧ a ≤ 1000 ∧ k ≤ 10 ∧ k + a ≤ l.length ∧ t = (l.take (k + a)).drop k ∧ s = k + a ∧ 1 ≤ k := by
  rcases tk_cases l with ⟨a, k, htk, ha, hs, hs10⟩ | ⟨x, htk, hx⟩
  · by_cases h1 : (1000 : Int) < 0 ∨ (1000 : Int) < (a : Int)
    · rw [frameS_large l 1000 a k htk h1] at h; simp at h
    · by_cases h2 : l.length - k < a
      · rw [frameS_short l 1000 a k htk h1 h2] at h; simp at h
      · rw [frameS_ok l 1000 a k htk h1 h2] at h
        simp only [Prod.mk.injEq, and_true] at h
        have h3 := Vm.tk_only l (by rw [htk])
        rw [htk] at h3
        have h4 := Vm.vb_pos a
        have h5 : k = (Vm.vb a).length := h3.2.2
        exact ⟨a, k, htk, by omega, hs10, by omega, h.1.symm, h.2.symm, by omega⟩
  · rw [frameS_err l 1000 x htk hx] at h
    simp at h
    omega
theorem frameS_mk {l : List UInt8} {a k : Nat} (h : Vm.tk l = (a, k, 0)) (ha : a ≤ 1000) (hl : k + a ≤ l.length) : frameS l 1000 = ((l.take (k + a)).drop k, k + a, 0) :=
  frameS_ok l 1000 a k h (by omega) (by omega)
theorem frameS_app {l t : List UInt8} {s : Nat} (r : List UInt8) (h : frameS l 1000 = (t, s, 0)) : frameS (l ++ r) 1000 = (t, s, 0) := by
  obtain ⟨a, k, h1, h2, h3, h4, rfl, rfl, _⟩ := frameS_inv h
  rw [frameS_mk (tk_app l r a k h1) h2 (by simp; omega), List.take_append_of_le_length h4]
theorem frameS_take {l t : List UInt8} {s : Nat} (m : Nat) (hm : 1010 ≤ m) (h : frameS l 1000 = (t, s, 0)) : frameS (l.take m) 1000 = (t, s, 0) := by
  obtain ⟨a, k, h1, h2, h3, h4, rfl, rfl, _⟩ := frameS_inv h
  rw [frameS_mk (tk_take l m (by omega) a k h1) h2 (by rw [List.length_take]; omega), List.take_take, Nat.min_eq_left (by omega)]
theorem frameS_cut (l : List UInt8) (m : Nat) (hm : 1010 ≤ m) : (frameS (l.take m) 1000).2.2 = 0 ↔ (frameS l 1000).2.2 = 0 := by
  constructor
  · intro h
    rcases h1 : frameS (l.take m) 1000 with ⟨a, s, x⟩
    rw [h1] at h
    dsimp only at h
    subst h
    have := frameS_app (l.drop m) h1
    rw [List.take_append_drop] at this
    rw [this]
  · intro h
    rcases h1 : frameS l 1000 with ⟨a, s, x⟩
    rw [h1] at h
    dsimp only at h
    subst h
    rw [frameS_take m hm h1]

/-- Is it right? -/
def ok3 {α : Type} (p : α × Nat × Nat) : Option (α × Nat) := if p.2.2 = 0 then some (p.1, p.2.1) else none
theorem ok3_some {α : Type} {p : α × Nat × Nat} {a : α} {s : Nat} : ok3 p = some (a, s) ↔ p = (a, s, 0) := by
  obtain ⟨x, y, z⟩ := p
  unfold ok3
  dsimp only
  split
  · rename_i h; subst h; simp
  · rename_i h; simp [h]
/-- A record of two frames, and how long it is. -/
def rec1 (l : List UInt8) : Option (R × Nat) := (ok3 (frameS l 1000)).bind fun p => (ok3 (frameS (l.drop p.2) 1000)).map fun q => ([p.1, q.1], p.2 + q.2)
/-- So many records, and what is left. -/
def recN : Nat → List UInt8 → Option (List R × List UInt8)
  | 0, l => some ([], l)
  | k + 1, l => (rec1 l).bind fun p => (recN k (l.drop p.2)).map fun q => (p.1 :: q.1, q.2)
/-- The records that contents are. -/
def cont (l : List UInt8) : Option (List R) := (ok3 (Vm.tk l)).bind fun p => if 1 ≤ p.1 ∧ p.1 ≤ 100 then (recN p.1 (l.drop p.2)).bind fun q => if q.2 = [] then some q.1 else none else none
theorem rec1_inv {l : List UInt8} {r : R} {s : Nat} (h : rec1 l = some (r, s)) : ∃ t k u m, frameS l 1000 = (t, k, 0) ∧ frameS (l.drop k) 1000 = (u, m, 0) ∧ r = [t, u] ∧ s = k + m ∧ s ≤ l.length ∧ t.length ≤ 1000 ∧ u.length ≤ 1000 ∧ 1 ≤ k ∧ t.length + u.length + 2 ≤ s := by
  unfold rec1 at h
  obtain ⟨⟨t, k⟩, h1, h2⟩ := Option.bind_eq_some_iff.1 h
  obtain ⟨⟨u, m⟩, h3, h4⟩ := Option.map_eq_some_iff.1 h2
  have g1 := ok3_some.1 h1
  have g2 := ok3_some.1 h3
  simp only [Prod.mk.injEq] at h4
  obtain ⟨a, p, q1, q2, q3, q4, q5, q6, q7⟩ := frameS_inv g1
  obtain ⟨a', p', r1, r2, r3, r4, r5, r6, r7⟩ := frameS_inv g2
  dsimp only at r4
  rw [List.length_drop] at r4
  have e1 : t.length = a := by rw [q5, List.length_drop, List.length_take]; omega
  have e2 : u.length = a' := by
    rw [r5, List.length_drop, List.length_take, List.length_drop]
    dsimp only
    omega
  exact ⟨t, k, u, m, g1, g2, h4.1.symm, h4.2.symm, by omega, by omega, by omega, by omega, by omega⟩
theorem rec1_app {l : List UInt8} {r : R} {s : Nat} (x : List UInt8) (h : rec1 l = some (r, s)) : rec1 (l ++ x) = some (r, s) := by
  obtain ⟨t, k, u, m, h1, h2, rfl, rfl, h5, _⟩ := rec1_inv h
  have h3 := frameS_app x h2
  unfold rec1
  rw [ok3_some.2 (frameS_app x h1)]
  dsimp only [Option.bind_some]
  rw [List.drop_append_of_le_length (by omega), ok3_some.2 h3]
  rfl
theorem recN_app : ∀ (n : Nat) (l x y : List UInt8) (rs : List R), recN n l = some (rs, y) → recN n (l ++ x) = some (rs, y ++ x)
  | 0, l, x, y, rs, h => by simp only [recN, Option.some.injEq, Prod.mk.injEq] at h ⊢; obtain ⟨rfl, rfl⟩ := h; exact ⟨rfl, rfl⟩
  | n + 1, l, x, y, rs, h => by
    simp only [recN] at h ⊢
    obtain ⟨⟨r, s⟩, h1, h2⟩ := Option.bind_eq_some_iff.1 h
    obtain ⟨⟨q, z⟩, h3, h4⟩ := Option.map_eq_some_iff.1 h2
    simp only [Prod.mk.injEq] at h4
    obtain ⟨rfl, rfl⟩ := h4
    obtain ⟨t, k, u, m, g1, g2, g3, g4, g5, _⟩ := rec1_inv h1
    dsimp only at h3
    have ih := recN_app n (l.drop s) x z q h3
    rw [rec1_app x h1]
    dsimp only [Option.bind_some]
    rw [List.drop_append_of_le_length g5, ih]
    rfl
theorem recN_len : ∀ (n : Nat) (l y : List UInt8) (rs : List R), recN n l = some (rs, y) → rs.length = n ∧ y.length ≤ l.length ∧ (∀ r ∈ rs, r.length = 2 ∧ ∀ s ∈ r, s.length ≤ 1000)
  | 0, l, y, rs, h => by simp only [recN, Option.some.injEq, Prod.mk.injEq] at h; obtain ⟨rfl, rfl⟩ := h; exact ⟨rfl, Nat.le_refl _, fun r hr => by cases hr⟩
  | n + 1, l, y, rs, h => by
    simp only [recN] at h
    obtain ⟨⟨r, s⟩, h1, h2⟩ := Option.bind_eq_some_iff.1 h
    obtain ⟨⟨q, z⟩, h3, h4⟩ := Option.map_eq_some_iff.1 h2
    simp only [Prod.mk.injEq] at h4
    obtain ⟨rfl, rfl⟩ := h4
    dsimp only at h3
    have ih := recN_len n _ z q h3
    obtain ⟨t, k, u, m, g1, g2, rfl, g4, g5, g6, g7, _⟩ := rec1_inv h1
    rw [List.length_drop] at ih
    refine ⟨by simp [ih.1], by omega, fun r hr => ?_⟩
    rcases List.mem_cons.1 hr with rfl | hr
    · exact ⟨rfl, fun s hs => by simp at hs; rcases hs with rfl | rfl <;> assumption⟩
    · exact ih.2.2 r hr
theorem cont_inv {l : List UInt8} {rs : List R} (h : cont l = some rs) : ∃ n s, Vm.tk l = (n, s, 0) ∧ 1 ≤ n ∧ n ≤ 100 ∧ recN n (l.drop s) = some (rs, []) ∧ s ≤ l.length := by
  unfold cont at h
  obtain ⟨⟨n, s⟩, h1, h2⟩ := Option.bind_eq_some_iff.1 h
  have g1 := ok3_some.1 h1
  dsimp only at h2
  split at h2
  · rename_i h3
    obtain ⟨⟨q, z⟩, h4, h5⟩ := Option.bind_eq_some_iff.1 h2
    dsimp only at h5
    split at h5
    · rename_i h6
      injection h5 with h5
      subst h5 h6
      have h0 := Vm.tk_size l
      rw [g1] at h0
      exact ⟨n, s, g1, h3.1, h3.2, h4, h0.1⟩
    · cases h5
  · cases h2
theorem cont_mk {l : List UInt8} {rs : List R} {n s : Nat} (h1 : Vm.tk l = (n, s, 0)) (h2 : 1 ≤ n) (h3 : n ≤ 100) (h4 : recN n (l.drop s) = some (rs, [])) : cont l = some rs := by
  unfold cont
  rw [ok3_some.2 h1]
  dsimp only [Option.bind_some]
  rw [if_pos ⟨h2, h3⟩, h4]
  rfl
theorem cont_more {l r : List UInt8} {rs : List R} (h : cont l = some rs) (hr : r ≠ []) : cont (l ++ r) = none := by
  obtain ⟨n, s, h1, h2, h3, h4, h5⟩ := cont_inv h
  unfold cont
  rw [ok3_some.2 (tk_app l r n s h1)]
  dsimp only [Option.bind_some]
  rw [if_pos ⟨h2, h3⟩, List.drop_append_of_le_length h5, recN_app n _ r [] rs h4]
  dsimp only [Option.bind_some]
  rw [if_neg (by simpa using hr)]
theorem cont_less {l r : List UInt8} {rs : List R} (h : cont (l ++ r) = some rs) (hr : r ≠ []) : cont l = none := by
  rcases h1 : cont l with _ | ys
  · rfl
  · rw [cont_more h1 hr] at h; cases h
theorem cont_len {l : List UInt8} {rs : List R} (h : cont l = some rs) : 1 ≤ rs.length ∧ rs.length ≤ 100 ∧ ∀ r ∈ rs, r.length = 2 ∧ ∀ s ∈ r, s.length ≤ 1000 := by
  obtain ⟨n, s, h1, h2, h3, h4, h5⟩ := cont_inv h
  have := recN_len n _ _ _ h4
  exact ⟨by omega, by omega, this.2.2⟩

/-- Sealed bytes, opened. -/
def opn (l : List UInt8) : Option (List UInt8) := if (Cm.openS Cm.tab l).2 = 0 then some (Cm.openS Cm.tab l).1 else none
theorem opn_some {l c : List UInt8} (h : opn l = some c) : Cm.openS Cm.tab l = (c, 0) := by
  unfold opn at h
  split at h
  · rename_i h1
    exact Prod.ext (Option.some.inj h) h1
  · cases h
theorem opn_take {l c : List UInt8} (h : opn l = some c) : 4 ≤ l.length ∧ c = l.take (l.length - 4) := by
  have h1 := opn_some h
  by_cases h4 : l.length < 4
  · rw [openS_short Cm.tab l Cm.tab_len h4] at h1; simp at h1
  · by_cases h3 : l.drop (l.length - 4) = Cm.four (Cm.sum Cm.tab (l.take (l.length - 4)))
    · rw [openS_ok Cm.tab l Cm.tab_len h4 h3] at h1
      simp only [Prod.mk.injEq] at h1
      exact ⟨by omega, h1.1.symm⟩
    · rw [openS_no Cm.tab l Cm.tab_len h4 h3] at h1; simp at h1
/-- The records of a block: what stands from a place up to the next marker. -/
def blk (x : List UInt8) : Option (List R) := if x.take 2 = [255, 83] then (une (x.drop 2)).bind fun s => (opn s).bind cont else none
theorem blk_mk (e : List UInt8) : blk (255 :: 83 :: e) = (une e).bind fun s => (opn s).bind cont := by unfold blk; rw [if_pos (show List.take 2 (255 :: 83 :: e) = [255, 83] from rfl)]; rfl
theorem blk_inv {x : List UInt8} {rs : List R} (h : blk x = some rs) : ∃ e s c, x = 255 :: 83 :: e ∧ une e = some s ∧ opn s = some c ∧ cont c = some rs := by
  unfold blk at h
  split at h
  · rename_i h1
    obtain ⟨s, h2, h3⟩ := Option.bind_eq_some_iff.1 h
    obtain ⟨c, h4, h5⟩ := Option.bind_eq_some_iff.1 h3
    refine ⟨x.drop 2, s, c, ?_, h2, h4, h5⟩
    have := List.take_append_drop 2 x
    rw [h1] at this
    exact this.symm
  · cases h
end Go.Proofs.YtddnlimkaagpdaaDoor.Sm
