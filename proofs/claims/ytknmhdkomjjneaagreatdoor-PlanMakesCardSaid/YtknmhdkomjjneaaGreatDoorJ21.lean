/-
  Joined: SqSn SqSo SqSp SqUp SqUs SqUr.
-/
import Derived.Test.YtknmhdkomjjneaaGreatDoorJ20
import Derived.Test.YtknmhdkomjjneaaGreatDoorJ6
import Derived.Test.YtknmhdkomjjneaaGreatDoorJ1
/-
  The contents of a block, and which blocks are right. Plain mathematics.
-/

namespace Go.Proofs.YtknmhdkomjjneaaGreatDoor.Sq.Sm

theorem tk_app (l r : List UInt8) (a s : Nat) (h : Vm.tk l = (a, s, 0)) : Vm.tk (l ++ r) = (a, s, 0) := by
  have h1 := Vm.tk_only l (by rw [h])
  rw [h] at h1
  obtain ⟨h1, h2, h3⟩ := h1
  dsimp only at h1 h2 h3
  have h4 := Vm.tk_back a (l.drop s ++ r) h1
  rw [← List.append_assoc, ← h2, ← h3] at h4
  exact h4
theorem tk_take (l : List UInt8) (m : Nat) (hm : 10 ≤ m) (a s : Nat) (h : Vm.tk l = (a, s, 0)) : Vm.tk (l.take m) = (a, s, 0) := by
  have h1 := Vm.tk_only l (by rw [h])
  have h0 := Vm.tk_size l
  rw [h] at h1 h0
  obtain ⟨h1, h2, h3⟩ := h1
  dsimp only at h1 h2 h3 h0
  have h4 := Vm.tk_back a ((l.drop s).take (m - s)) h1
  have h5 : Vm.vb a ++ (l.drop s).take (m - s) = l.take m := by
    have e1 : (Vm.vb a).take m = Vm.vb a := List.take_of_length_le (by omega)
    conv => rhs; rw [h2, List.take_append, e1, ← h3]
  rw [h5, ← h3] at h4
  exact h4
/-- The first ten bytes tell. -/
theorem tk_ten (l : List UInt8) (m : Nat) (hm : 10 ≤ m) : (Vm.tk (l.take m)).2.2 = 0 ↔ (Vm.tk l).2.2 = 0 := by
  constructor
  · intro h
    rcases h1 : Vm.tk (l.take m) with ⟨a, s, x⟩
    rw [h1] at h
    dsimp only at h
    subst h
    have := tk_app (l.take m) (l.drop m) a s h1
    rw [List.take_append_drop] at this
    rw [this]
  · intro h
    rcases h1 : Vm.tk l with ⟨a, s, x⟩
    rw [h1] at h
    dsimp only at h
    subst h
    rw [tk_take l m hm a s h1]

theorem frameS_inv {l t : List UInt8} {s : Nat} (h : frameS l 1000 = (t, s, 0)) : ∃ a k, Vm.tk l = (a, k, 0) ∧ a ≤ 1000 ∧ k ≤ 10 ∧ k + a ≤ l.length ∧ t = (l.take (k + a)).drop k ∧ s = k + a ∧ 1 ≤ k := by
  rcases tk_cases l with ⟨a, k, htk, ha, hs, hs10⟩ | ⟨x, htk, hx⟩
  · by_cases h1 : (1000 : Int) < 0 ∨ (1000 : Int) < (a : Int)
    · rw [frameS_large l 1000 a k htk h1] at h; simp at h
    · by_cases h2 : l.length - k < a
      · rw [frameS_short l 1000 a k htk h1 h2] at h; simp at h
      · rw [frameS_ok l 1000 a k htk h1 h2] at h
        simp only [Prod.mk.injEq, and_true] at h
        have h3 := Vm.tk_only l (by rw [htk])
        rw [htk] at h3
        have h4 := Vm.vb_pos a
        have h5 : k = (Vm.vb a).length := h3.2.2
        exact ⟨a, k, htk, by omega, hs10, by omega, h.1.symm, h.2.symm, by omega⟩
  · rw [frameS_err l 1000 x htk hx] at h
    simp at h
    omega
theorem frameS_mk {l : List UInt8} {a k : Nat} (h : Vm.tk l = (a, k, 0)) (ha : a ≤ 1000) (hl : k + a ≤ l.length) : frameS l 1000 = ((l.take (k + a)).drop k, k + a, 0) :=
  frameS_ok l 1000 a k h (by omega) (by omega)
theorem frameS_app {l t : List UInt8} {s : Nat} (r : List UInt8) (h : frameS l 1000 = (t, s, 0)) : frameS (l ++ r) 1000 = (t, s, 0) := by
  obtain ⟨a, k, h1, h2, h3, h4, rfl, rfl, _⟩ := frameS_inv h
  rw [frameS_mk (tk_app l r a k h1) h2 (by simp; omega), List.take_append_of_le_length h4]
theorem frameS_take {l t : List UInt8} {s : Nat} (m : Nat) (hm : 1010 ≤ m) (h : frameS l 1000 = (t, s, 0)) : frameS (l.take m) 1000 = (t, s, 0) := by
  obtain ⟨a, k, h1, h2, h3, h4, rfl, rfl, _⟩ := frameS_inv h
  rw [frameS_mk (tk_take l m (by omega) a k h1) h2 (by rw [List.length_take]; omega), List.take_take, Nat.min_eq_left (by omega)]
theorem frameS_cut (l : List UInt8) (m : Nat) (hm : 1010 ≤ m) : (frameS (l.take m) 1000).2.2 = 0 ↔ (frameS l 1000).2.2 = 0 := by
  constructor
  · intro h
    rcases h1 : frameS (l.take m) 1000 with ⟨a, s, x⟩
    rw [h1] at h
    dsimp only at h
    subst h
    have := frameS_app (l.drop m) h1
    rw [List.take_append_drop] at this
    rw [this]
  · intro h
    rcases h1 : frameS l 1000 with ⟨a, s, x⟩
    rw [h1] at h
    dsimp only at h
    subst h
    rw [frameS_take m hm h1]

/-- Is it right? -/
def ok3 {α : Type} (p : α × Nat × Nat) : Option (α × Nat) := if p.2.2 = 0 then some (p.1, p.2.1) else none
theorem ok3_some {α : Type} {p : α × Nat × Nat} {a : α} {s : Nat} : ok3 p = some (a, s) ↔ p = (a, s, 0) := by
  obtain ⟨x, y, z⟩ := p
  unfold ok3
  dsimp only
  split
  · rename_i h; subst h; simp
  · rename_i h; simp [h]
/-- A record of two frames, and how long it is. -/
def rec1 (l : List UInt8) : Option (R × Nat) := (ok3 (frameS l 1000)).bind fun p => (ok3 (frameS (l.drop p.2) 1000)).map fun q => ([p.1, q.1], p.2 + q.2)
/-- So many records, and what is left. -/
def recN : Nat → List UInt8 → Option (List R × List UInt8)
  | 0, l => some ([], l)
  | k + 1, l => (rec1 l).bind fun p => (recN k (l.drop p.2)).map fun q => (p.1 :: q.1, q.2)
/-- The records that contents are. -/
def cont (l : List UInt8) : Option (List R) := (ok3 (Vm.tk l)).bind fun p => if 1 ≤ p.1 ∧ p.1 ≤ 100 then (recN p.1 (l.drop p.2)).bind fun q => if q.2 = [] then some q.1 else none else none
theorem rec1_inv {l : List UInt8} {r : R} {s : Nat} (h : rec1 l = some (r, s)) : ∃ t k u m, frameS l 1000 = (t, k, 0) ∧ frameS (l.drop k) 1000 = (u, m, 0) ∧ r = [t, u] ∧ s = k + m ∧ s ≤ l.length ∧ t.length ≤ 1000 ∧ u.length ≤ 1000 ∧ 1 ≤ k ∧ t.length + u.length + 2 ≤ s := by
  unfold rec1 at h
  obtain ⟨⟨t, k⟩, h1, h2⟩ := Option.bind_eq_some_iff.1 h
  obtain ⟨⟨u, m⟩, h3, h4⟩ := Option.map_eq_some_iff.1 h2
  have g1 := ok3_some.1 h1
  have g2 := ok3_some.1 h3
  simp only [Prod.mk.injEq] at h4
  obtain ⟨a, p, q1, q2, q3, q4, q5, q6, q7⟩ := frameS_inv g1
  obtain ⟨a', p', r1, r2, r3, r4, r5, r6, r7⟩ := frameS_inv g2
  dsimp only at r4
  rw [List.length_drop] at r4
  have e1 : t.length = a := by rw [q5, List.length_drop, List.length_take]; omega
  have e2 : u.length = a' := by
    rw [r5, List.length_drop, List.length_take, List.length_drop]
    dsimp only
    omega
  exact ⟨t, k, u, m, g1, g2, h4.1.symm, h4.2.symm, by omega, by omega, by omega, by omega, by omega⟩
theorem recN_len : ∀ (n : Nat) (l y : List UInt8) (rs : List R), recN n l = some (rs, y) → rs.length = n ∧ y.length ≤ l.length ∧ (∀ r ∈ rs, r.length = 2 ∧ ∀ s ∈ r, s.length ≤ 1000)
  | 0, l, y, rs, h => by simp only [recN, Option.some.injEq, Prod.mk.injEq] at h; obtain ⟨rfl, rfl⟩ := h; exact ⟨rfl, Nat.le_refl _, fun r hr => by cases hr⟩
  | n + 1, l, y, rs, h => by
    simp only [recN] at h
    obtain ⟨⟨r, s⟩, h1, h2⟩ := Option.bind_eq_some_iff.1 h
    obtain ⟨⟨q, z⟩, h3, h4⟩ := Option.map_eq_some_iff.1 h2
    simp only [Prod.mk.injEq] at h4
    obtain ⟨rfl, rfl⟩ := h4
    dsimp only at h3
    have ih := recN_len n _ z q h3
    obtain ⟨t, k, u, m, g1, g2, rfl, g4, g5, g6, g7, _⟩ := rec1_inv h1
    rw [List.length_drop] at ih
    refine ⟨by simp [ih.1], by omega, fun r hr => ?_⟩
    rcases List.mem_cons.1 hr with rfl | hr
    · exact ⟨rfl, fun s hs => by simp at hs; rcases hs with rfl | rfl <;> assumption⟩
    · exact ih.2.2 r hr
theorem cont_inv {l : List UInt8} {rs : List R} (h : cont l = some rs) : ∃ n s, Vm.tk l = (n, s, 0) ∧ 1 ≤ n ∧ n ≤ 100 ∧ recN n (l.drop s) = some (rs, []) ∧ s ≤ l.length := by
  unfold cont at h
  obtain ⟨⟨n, s⟩, h1, h2⟩ := Option.bind_eq_some_iff.1 h
  have g1 := ok3_some.1 h1
  dsimp only at h2
  split at h2
  · rename_i h3
    obtain ⟨⟨q, z⟩, h4, h5⟩ := Option.bind_eq_some_iff.1 h2
    dsimp only at h5
    split at h5
    · rename_i h6
      injection h5 with h5
      subst h5 h6
      have h0 := Vm.tk_size l
      rw [g1] at h0
      exact ⟨n, s, g1, h3.1, h3.2, h4, h0.1⟩
    · cases h5
  · cases h2
theorem cont_mk {l : List UInt8} {rs : List R} {n s : Nat} (h1 : Vm.tk l = (n, s, 0)) (h2 : 1 ≤ n) (h3 : n ≤ 100) (h4 : recN n (l.drop s) = some (rs, [])) : cont l = some rs := by
  unfold cont
  rw [ok3_some.2 h1]
  dsimp only [Option.bind_some]
  rw [if_pos ⟨h2, h3⟩, h4]
  rfl
theorem cont_len {l : List UInt8} {rs : List R} (h : cont l = some rs) : 1 ≤ rs.length ∧ rs.length ≤ 100 ∧ ∀ r ∈ rs, r.length = 2 ∧ ∀ s ∈ r, s.length ≤ 1000 := by
  obtain ⟨n, s, h1, h2, h3, h4, h5⟩ := cont_inv h
  have := recN_len n _ _ _ h4
  exact ⟨by omega, by omega, this.2.2⟩

/-- Sealed bytes, opened. -/
def opn (l : List UInt8) : Option (List UInt8) := if (Cm.openS Cm.tab l).2 = 0 then some (Cm.openS Cm.tab l).1 else none
theorem opn_some {l c : List UInt8} (h : opn l = some c) : Cm.openS Cm.tab l = (c, 0) := by
  unfold opn at h
  split at h
  · rename_i h1
    exact Prod.ext (Option.some.inj h) h1
  · cases h
theorem opn_take {l c : List UInt8} (h : opn l = some c) : 4 ≤ l.length ∧ c = l.take (l.length - 4) := by
  have h1 := opn_some h
  by_cases h4 : l.length < 4
  · rw [openS_short Cm.tab l Cm.tab_len h4] at h1; simp at h1
  · by_cases h3 : l.drop (l.length - 4) = Cm.four (Cm.sum Cm.tab (l.take (l.length - 4)))
    · rw [openS_ok Cm.tab l Cm.tab_len h4 h3] at h1
      simp only [Prod.mk.injEq] at h1
      exact ⟨by omega, h1.1.symm⟩
    · rw [openS_no Cm.tab l Cm.tab_len h4 h3] at h1; simp at h1
/-- The records of a block: what stands from a place up to the next marker. -/
def blk (x : List UInt8) : Option (List R) := if x.take 2 = [255, 83] then (une (x.drop 2)).bind fun s => (opn s).bind cont else none
theorem blk_mk (e : List UInt8) : blk (255 :: 83 :: e) = (une e).bind fun s => (opn s).bind cont := by unfold blk; rw [if_pos (show List.take 2 (255 :: 83 :: e) = [255, 83] from rfl)]; rfl
theorem blk_inv {x : List UInt8} {rs : List R} (h : blk x = some rs) : ∃ e s c, x = 255 :: 83 :: e ∧ une e = some s ∧ opn s = some c ∧ cont c = some rs := by
  unfold blk at h
  split at h
  · rename_i h1
    obtain ⟨s, h2, h3⟩ := Option.bind_eq_some_iff.1 h
    obtain ⟨c, h4, h5⟩ := Option.bind_eq_some_iff.1 h3
    refine ⟨x.drop 2, s, c, ?_, h2, h4, h5⟩
    have := List.take_append_drop 2 x
    rw [h1] at this
    exact this.symm
  · cases h
end Go.Proofs.YtknmhdkomjjneaaGreatDoor.Sq.Sm

/-
  The blocks of a file, one behind another: which are right, how far, and which begin between two places. Plain mathematics.
-/

namespace Go.Proofs.YtknmhdkomjjneaaGreatDoor.Sq.Sm

/-- What is stored from place f on, marker by marker, below t: where each begins and ends. -/
def segs (b : List UInt8) (t : Nat) : Nat → Nat → List (Nat × Nat)
  | 0, _ => []
  | k + 1, f => if f < t then (f, nxt b (f + 1)) :: segs b t k (nxt b (f + 1)) else []
def sg (b : List UInt8) (f t : Nat) : List (Nat × Nat) := segs b t (t - f) f
theorem nxt_gt (b : List UInt8) (f : Nat) : f + 1 ≤ nxt b (f + 1) := by unfold nxt; omega
theorem segs_more (b : List UInt8) (t : Nat) : ∀ (k m f : Nat), t - f ≤ k → t - f ≤ m → segs b t k f = segs b t m f
  | 0, m, f, h1, h2 => by
    cases m with
    | zero => rfl
    | succ m => rw [segs, segs, if_neg (by omega)]
  | k + 1, m, f, h1, h2 => by
    cases m with
    | zero => rw [segs, segs, if_neg (by omega)]
    | succ m =>
      rw [segs, segs]
      split
      · have := nxt_gt b f
        rw [segs_more b t k m _ (by omega) (by omega)]
      · rfl
theorem sg_step {b : List UInt8} {f t : Nat} (h : f < t) : sg b f t = (f, nxt b (f + 1)) :: sg b (nxt b (f + 1)) t := by
  have := nxt_gt b f
  unfold sg
  rw [show t - f = (t - f - 1) + 1 by omega, segs, if_pos h, segs_more b t (t - f - 1) (t - nxt b (f + 1)) _ (by omega) (by omega)]
theorem sg_end {b : List UInt8} {f t : Nat} (h : t ≤ f) : sg b f t = [] := by unfold sg; rw [show t - f = 0 by omega, segs]
/-- The records of a block. -/
def val (b : List UInt8) (p : Nat × Nat) : Option (List R) := blk ((b.take p.2).drop p.1)
/-- The pieces of blocks. -/
def pcs (b : List UInt8) (L : List (Nat × Nat)) : List (Nat × List R) := L.map fun p => (p.1, (val b p).getD [])
/-- The blocks as far as they are right. -/
def run (b : List UInt8) : List (Nat × Nat) → List (Nat × List R) × Nat
  | [] => ([], b.length)
  | p :: L => match val b p with
    | some l => ((p.1, l) :: (run b L).1, (run b L).2)
    | none => ([], p.1)
def hd : List UInt8 := [84, 83, 81, 49]
/-- The pieces of a file, and how far it is right. -/
def ps (b : List UInt8) : List (Nat × List R) × Nat := if b.take 4 = hd then run b (sg b 4 b.length) else ([], 0)
def er (b : List UInt8) : Nat := if b.take 4 = hd ∧ (ps b).2 = b.length then 0 else 3
theorem run_some {b : List UInt8} {p : Nat × Nat} {l : List R} (L : List (Nat × Nat)) (h : val b p = some l) : run b (p :: L) = ((p.1, l) :: (run b L).1, (run b L).2) := by rw [run, h]
theorem run_none {b : List UInt8} {p : Nat × Nat} (L : List (Nat × Nat)) (h : val b p = none) : run b (p :: L) = ([], p.1) := by rw [run, h]
theorem run_app (b : List UInt8) : ∀ q L, (∀ p ∈ q, (val b p).isSome = true) → run b (q ++ L) = (pcs b q ++ (run b L).1, (run b L).2)
  | [], L, _ => rfl
  | p :: q, L, h => by
    obtain ⟨l, hl⟩ := Option.isSome_iff_exists.1 (h p (List.mem_cons_self ..))
    rw [List.cons_append, run_some _ hl, run_app b q L (fun x hx => h x (List.mem_cons_of_mem _ hx))]
    simp [pcs, hl]
theorem run_all (b : List UInt8) (q : List (Nat × Nat)) (h : ∀ p ∈ q, (val b p).isSome = true) : run b q = (pcs b q, b.length) := by
  have := run_app b q [] h
  rw [List.append_nil] at this
  rw [this]
  simp [run]
theorem run_stop (b : List UInt8) (q r : List (Nat × Nat)) (x : Nat × Nat) (h : ∀ p ∈ q, (val b p).isSome = true) (hx : val b x = none) : run b (q ++ x :: r) = (pcs b q, x.1) := by
  rw [run_app b q _ h, run_none _ hx]
  simp
theorem ps_head {b : List UInt8} (h : b.take 4 = hd) : ps b = run b (sg b 4 b.length) := if_pos h
theorem ps_not {b : List UInt8} (h : b.take 4 ≠ hd) : ps b = ([], 0) := if_neg h
theorem er_not {b : List UInt8} (h : b.take 4 ≠ hd) : er b = 3 := if_neg fun e => h e.1
theorem head_len {b : List UInt8} (h : b.take 4 = hd) : 4 ≤ b.length := by
  have := congrArg List.length h
  rw [List.length_take] at this
  have e : hd.length = 4 := rfl
  omega

/-- A chain of right blocks from place f to place g. -/
def Ch (b : List UInt8) : Nat → Nat → List (Nat × Nat) → Prop
  | f, g, [] => f = g
  | f, g, p :: L => p.1 = f ∧ p.2 = nxt b (f + 1) ∧ (val b p).isSome = true ∧ f < b.length ∧ Ch b p.2 g L
theorem val_isM {b : List UInt8} {p : Nat × Nat} (h : (val b p).isSome = true) : p.1 + 2 ≤ p.2 ∧ isM (b.take p.2) p.1 := by
  obtain ⟨l, hl⟩ := Option.isSome_iff_exists.1 h
  obtain ⟨e, s, c, h1, _⟩ := blk_inv hl
  have h2 : ((b.take p.2).drop p.1)[0]? = some 255 := by rw [h1]; rfl
  have h3 : ((b.take p.2).drop p.1)[1]? = some 83 := by rw [h1]; rfl
  rw [List.getElem?_drop] at h2 h3
  have h4 : isM (b.take p.2) p.1 := ⟨h2, h3⟩
  have := isM_lt h4
  rw [List.length_take] at this
  exact ⟨by omega, h4⟩
theorem isM_of_take {b : List UInt8} {k j : Nat} (h : isM (b.take k) j) : isM b j := by
  have h1 := isM_lt h
  rw [List.length_take] at h1
  have h2 := h.1
  have h3 := h.2
  rw [List.getElem?_take, if_pos (by omega)] at h2 h3
  exact ⟨h2, h3⟩
theorem ch_le {b : List UInt8} : ∀ {L : List (Nat × Nat)} {f g : Nat}, Ch b f g L → f ≤ g ∧ (f ≤ b.length → g ≤ b.length)
  | [], f, g, h => by obtain rfl : f = g := h; exact ⟨Nat.le_refl _, id⟩
  | p :: L, f, g, h => by
    obtain ⟨h1, h2, h3, h4, h5⟩ := h
    have := ch_le h5
    have h6 := nxt_le (b := b) (k := f + 1) (by omega)
    rw [← h2] at h6
    exact ⟨by omega, fun _ => this.2 h6.2⟩
/-- The chain of a file. -/
theorem run_ch (b : List UInt8) : ∀ (k f : Nat), f ≤ b.length → b.length - f ≤ k → ∃ L g, Ch b f g L ∧ run b (sg b f b.length) = (pcs b L, g) ∧ f ≤ g ∧ g ≤ b.length ∧ (g < b.length → val b (g, nxt b (g + 1)) = none)
  | 0, f, h1, h2 => ⟨[], f, rfl, by rw [sg_end (by omega), show f = b.length by omega]; rfl, Nat.le_refl _, h1, fun h => by omega⟩
  | k + 1, f, h1, h2 => by
    by_cases h : f < b.length
    · have h3 := nxt_le (b := b) (k := f + 1) (by omega)
      rcases hv : val b (f, nxt b (f + 1)) with _ | l
      · exact ⟨[], f, rfl, by rw [sg_step h, run_none _ hv]; rfl, Nat.le_refl _, h1, fun _ => hv⟩
      · obtain ⟨L, g, g1, g2, g3, g4, g5⟩ := run_ch b k (nxt b (f + 1)) h3.2 (by omega)
        exact ⟨(f, nxt b (f + 1)) :: L, g, ⟨rfl, rfl, by rw [hv]; rfl, h, g1⟩, by rw [sg_step h, run_some _ hv, g2]; simp [pcs, hv], by omega, g4, g5⟩
    · exact ⟨[], f, rfl, by rw [sg_end (by omega), show f = b.length by omega]; rfl, Nat.le_refl _, h1, fun h => by omega⟩
theorem ps_ch {b : List UInt8} (h : b.take 4 = hd) : ∃ L, Ch b 4 (ps b).2 L ∧ (ps b).1 = pcs b L ∧ 4 ≤ (ps b).2 ∧ (ps b).2 ≤ b.length := by
  obtain ⟨L, g, h1, h2, h3, h4, _⟩ := run_ch b _ 4 (head_len h) (Nat.le_refl _)
  rw [ps_head h, h2]
  exact ⟨L, h1, rfl, h3, h4⟩
theorem ch_sg {b : List UInt8} : ∀ {L : List (Nat × Nat)} {f : Nat}, Ch b f b.length L → sg b f b.length = L
  | [], f, h => sg_end (by have : f = b.length := h; omega)
  | p :: L, f, h => by
    obtain ⟨rfl, h2, h3, h4, h5⟩ := h
    rw [sg_step h4, ← h2, ch_sg h5]
theorem ch_places {b : List UInt8} : ∀ {L : List (Nat × Nat)} {f g : Nat}, Ch b f g L → (∀ p ∈ L, f ≤ p.1 ∧ p.1 < g) ∧ L.Pairwise (fun p q => p.1 ≤ q.1)
  | [], f, g, h => ⟨fun p hp => (by cases hp), List.Pairwise.nil⟩
  | p :: L, f, g, h => by
    obtain ⟨rfl, h2, h3, h4, h5⟩ := h
    have hle := (ch_le h5).1
    have hg := nxt_gt b p.1
    obtain ⟨i1, i2⟩ := ch_places h5
    refine ⟨fun q hq => ?_, ?_⟩
    · rcases List.mem_cons.1 hq with rfl | hq
      · omega
      · have := i1 q hq; omega
    · rw [List.pairwise_cons]
      exact ⟨fun q hq => by have := i1 q hq; omega, i2⟩
theorem ch_some {b : List UInt8} : ∀ {L : List (Nat × Nat)} {f g : Nat}, Ch b f g L → ∀ p ∈ L, (val b p).isSome = true
  | [], f, g, h, p, hp => by cases hp
  | q :: L, f, g, h, p, hp => by
    obtain ⟨_, _, h3, _, h5⟩ := h
    rcases List.mem_cons.1 hp with rfl | hp
    · exact h3
    · exact ch_some h5 p hp
end Go.Proofs.YtknmhdkomjjneaaGreatDoor.Sq.Sm

/-
  Writing: the contents of a block, a block, a file. Plain mathematics.
-/

namespace Go.Proofs.YtknmhdkomjjneaaGreatDoor.Sq.Sm

def frl (s : List UInt8) : List UInt8 := Vm.vb s.length ++ s
def frs (r : R) : List UInt8 := r.flatMap frl
def recsB (l : List R) : List UInt8 := l.flatMap frs
def conts (l : List R) : List UInt8 := Vm.vb l.length ++ recsB l
def sealed (c : List UInt8) : List UInt8 := c ++ Cm.four (Cm.sum Cm.tab c)
def blkw (l : List R) : List UInt8 := 255 :: 83 :: esc (sealed (conts l))
/-- So many blocks of three records. -/
def wch : Nat → List R → List UInt8
  | 0, _ => []
  | k + 1, l => if l = [] then [] else blkw (l.take 3) ++ wch k (l.drop 3)
def wr (l : List R) : List UInt8 := hd ++ wch l.length l
end Go.Proofs.YtknmhdkomjjneaaGreatDoor.Sq.Sm

/-
  Where the pieces of a file stand; how long what was written is. Plain mathematics.
-/

namespace Go.Proofs.YtknmhdkomjjneaaGreatDoor.Sq.Sm

/-- The place of the i-th block, or the end. -/
def plc (L : List (Nat × Nat)) (g i : Nat) : Nat := match L[i]? with
  | some p => p.1
  | none => g
end Go.Proofs.YtknmhdkomjjneaaGreatDoor.Sq.Sm

/-
  One other byte in what was written: plain mathematics.
-/

namespace Go.Proofs.YtknmhdkomjjneaaGreatDoor.Sq.Sm
theorem ch_run {b : List UInt8} : ∀ {L : List (Nat × Nat)} {f g : Nat}, Ch b f g L → g < b.length → sg b f b.length = L ++ sg b g b.length
  | [], f, g, h, hg => by
    have e : f = g := h
    subst e; rfl
  | p :: L, f, g, h, hg => by
    obtain ⟨h1, h2, h3, h4, h5⟩ := h
    have hp : p = (f, nxt b (f + 1)) := Prod.ext h1 h2
    rw [sg_step h4, ← h2, ch_run h5 hg, hp]
    rfl
end Go.Proofs.YtknmhdkomjjneaaGreatDoor.Sq.Sm

/-
  Splits and the right part: plain mathematics.
-/

namespace Go.Proofs.YtknmhdkomjjneaaGreatDoor.Sq.Sm
theorem ch_len {b : List UInt8} : ∀ {L : List (Nat × Nat)} {f g : Nat}, Ch b f g L → L.length ≤ g - f
  | [], f, g, h => by simp
  | p :: L, f, g, h => by
    obtain ⟨rfl, h2, h3, h4, h5⟩ := h
    have hle := (ch_le h5).1
    have hg := nxt_gt b p.1
    have ih := ch_len h5
    rw [List.length_cons]
    omega
/-- The pieces of the right part: their places, how many they are, how many records each has. -/
theorem ps_facts (b : List UInt8) : (ps b).1.Pairwise (fun p q => p.1 ≤ q.1) ∧ (∀ p ∈ (ps b).1, p.1 < b.length) ∧ (ps b).1.length ≤ b.length ∧ ∀ p ∈ (ps b).1, p.2.length ≤ 100 ∧ ∀ r ∈ p.2, r.length = 2 := by
  by_cases h : b.take 4 = hd
  · obtain ⟨L, hch, hp, hg1, hg2⟩ := ps_ch h
    rw [hp]
    obtain ⟨i1, i2⟩ := ch_places hch
    refine ⟨?_, ?_, ?_, ?_⟩
    · unfold pcs
      rw [List.pairwise_map]
      exact i2
    · intro p hp
      obtain ⟨q, hq, rfl⟩ := List.mem_map.1 hp
      have := i1 q hq
      show q.1 < _
      omega
    · have := ch_len hch
      simp only [pcs, List.length_map]
      omega
    · intro p hp
      obtain ⟨q, hq, rfl⟩ := List.mem_map.1 hp
      obtain ⟨rs, hrs⟩ := Option.isSome_iff_exists.1 (ch_some hch q hq)
      obtain ⟨e, s, c, _, _, _, h4⟩ := blk_inv hrs
      have := cont_len h4
      dsimp only
      rw [hrs]
      exact ⟨this.2.1, fun r hr => (this.2.2 r hr).1⟩
  · rw [ps_not h]
    exact ⟨List.Pairwise.nil, by simp, Nat.zero_le _, by simp⟩
end Go.Proofs.YtknmhdkomjjneaaGreatDoor.Sq.Sm
