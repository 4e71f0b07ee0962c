/-
  Joined: Rh Rg.
-/
import Derived.OrdersHeld
import Derived.Deep.RegionHeld
import Derived.RegionTactic
import Derived.Below
/-
  A region that draws its order, walked in one order that is laid down beforehand: what only reads is taken as soon as it may come up, and must yield the same value in every world that the relation R reaches; what makes or writes memory must be alone in its turn. The order is checked by the kernel.
-/
namespace Go.Proofs.YtpdapgbamlcjjaaGreatDoor.Pl
open Go Go.RowKit

section
variable {P : Program} {ops : Array Oper} {Q : Exit → Act → World → Prop} {R : World → World → Prop}

theorem wpAnyR_weaken {md : Region.Mode} {S S' : World → Prop} (h : ∀ w, S' w → S w) : ∀ (fuel : Nat) (listed : Array Bool) (a : Act) (w : World), wpAnyH P md ops Q S' fuel listed a w → wpAnyH P md ops Q S fuel listed a w
  | 0, _, _, _, h0 => h0
  | fuel + 1, _, _, _, h0 => ⟨h0.1, fun i hi => wpOp_mono (fun a' w' h' => ⟨h _ h'.1, wpAnyR_weaken h fuel _ a' w' h'.2⟩) (h0.2 i hi)⟩

/-- The walk in the order that is laid down ('true': makes or writes memory). -/
def wpR (R : World → World → Prop) (P : Program) (ops : Array Oper) (Q : Exit → Act → World → Prop) : List (Bool × Nat) → Act → World → Prop
  | [], a, w => Q .normal a w
  | (b, i) :: r, a, w =>
    match ops[i]? with
    | none => False
    | some o =>
      if Region.wanted o (yielded ops a.tmps) = true then
        (if b = true then Oper.wp P o a w (fun a' w' => R w w' ∧ wpR R P ops Q r a' w') Q
         else ∃ v, (∀ w', R w w' → (execOp a.eval o).run P w' = .ok (.value v) w') ∧ wpR R P ops Q r (a.put o.dst v) w)
      else wpR R P ops Q r (a.put o.dst undef) w

/-- May the operations come in that order, whatever order is drawn? -/
def schedR (ops : Array Oper) : List (Bool × Nat) → Array Bool → Bool
  | [], listed => (Region.ready .any ops listed).isEmpty
  | (true, i) :: r, listed => (Region.ready .any ops listed == [i]) && schedR ops r (listed.setIfInBounds i true)
  | (false, i) :: r, listed => ((Region.ready .any ops listed).contains i && Region.free .any ops listed i) && schedR ops r (listed.setIfInBounds i true)

theorem wpAnyR_of_S (hrf : ∀ w, R w w) (htr : ∀ a b c, R a b → R b c → R a c) (hs : Region.noSelect ops = true) (hQ : ∀ c a d v w, Q (.panic c) (Act.put a d v) w → Q (.panic c) a w) : ∀ (r : List (Bool × Nat)) (listed : Array Bool) (a : Act) (w : World), schedR ops r listed = true → wpR R P ops Q r a w →
    wpAnyH P .any ops Q (R w) r.length listed a w
  | [], listed, a, w, hB, h => ⟨by simpa [schedR] using hB, h⟩
  | (true, i) :: r, listed, a, w, hB, h => by
    simp only [schedR, Bool.and_eq_true, beq_iff_eq] at hB
    obtain ⟨hr, hB'⟩ := hB
    unfold wpR at h
    split at h
    · exact h.elim
    · rename_i o ho
      refine wpAnyH_all hr (by simp) fun j hj => ?_
      obtain rfl : j = i := by simpa using hj
      refine wpOp_step ho fun K hK => ?_
      split at h
      · rename_i hw
        rw [if_pos hw]
        simp only [if_true] at h
        exact Oper.wp_mono (fun a' w' ⟨hg, h'⟩ => hK a' w' ⟨hg, wpAnyR_weaken (fun _ h2 => htr _ _ _ hg h2) _ _ _ _ (wpAnyR_of_S hrf htr hs hQ r _ a' w' hB' h')⟩) h
      · rename_i hw
        rw [if_neg hw]
        exact hK _ _ ⟨hrf _, wpAnyR_of_S hrf htr hs hQ r _ _ _ hB' h⟩
  | (false, i) :: r, listed, a, w, hB, h => by
    simp only [schedR, Bool.and_eq_true] at hB
    obtain ⟨⟨hr, hf⟩, hB'⟩ := hB
    unfold wpR at h
    split at h
    · exact h.elim
    · rename_i o ho
      split at h
      · rename_i hw
        simp only [Bool.false_eq_true, if_false] at h
        obtain ⟨v, hv, h'⟩ := h
        exact wpAnyH_take ho hs hf hr (fun c a' w' hq => hQ c _ _ _ _ hq) (Or.inl ⟨hw, hv⟩) (hrf _) (wpAnyR_of_S hrf htr hs hQ r _ _ _ hB' h')
      · rename_i hw
        exact wpAnyH_take ho hs hf hr (fun c a' w' hq => hQ c _ _ _ _ hq) (Or.inr ⟨by simpa using hw, rfl⟩) (hrf _) (wpAnyR_of_S hrf htr hs hQ r _ _ _ hB' h)

theorem wp_region_schedR (R : World → World → Prop) (hrf : ∀ w, R w w) (htr : ∀ a b c, R a b → R b c → R a c) (sch : List (Bool × Nat)) {id : Nat} {a : Act} {w : World} (hm : P.follows .mixedOrders = true) (hs : Region.noSelect ops = true) (hlen : sch.length = ops.size) (hB : schedR ops sch (Array.replicate ops.size false) = true)
    (hQ : ∀ c a d v w, Q (.panic c) (Act.put a d v) w → Q (.panic c) a w) (h : wpR R P ops Q sch a w.drew) : (Code.region id ops true).wp P Q a w := by
  refine wp_region_held_drew (S := R w.drew) hm (hrf _) fun _ => ?_
  have := wpAnyR_of_S hrf htr hs hQ sch _ a w.drew hB h
  rw [hlen] at this
  exact this

theorem wpR_read {i : Nat} {o : Oper} {r : List (Bool × Nat)} {a : Act} {w : World} {v : Value} (ho : ops[i]? = some o) (hw : Region.wanted o (yielded ops a.tmps) = true)
    (hy : ∀ w', R w w' → (execOp a.eval o).run P w' = .ok (.value v) w') (h : wpR R P ops Q r (a.put o.dst v) w) : wpR R P ops Q ((false, i) :: r) a w := by
  unfold wpR
  rw [ho]
  simp only [hw, if_true, Bool.false_eq_true, if_false]
  exact ⟨v, hy, h⟩
theorem wpR_call {i : Nat} {o : Oper} {r : List (Bool × Nat)} {a : Act} {w : World} (ho : ops[i]? = some o) (hw : Region.wanted o (yielded ops a.tmps) = true)
    (h : ∀ K : Act → World → Prop, Shut (∀ a' w', R w w' → wpR R P ops Q r a' w' → K a' w') → Oper.wp P o a w K Q) : wpR R P ops Q ((true, i) :: r) a w := by
  unfold wpR
  rw [ho]
  simp only [hw, if_true]
  exact h _ (fun _ _ hg h' => ⟨hg, h'⟩)
theorem wpR_make {i : Nat} {o : Oper} {r : List (Bool × Nat)} {a : Act} {w w1 : World} {v : Value} (ho : ops[i]? = some o) (hw : Region.wanted o (yielded ops a.tmps) = true)
    (hy : (execOp a.eval o).run P w = .ok (.value v) w1) (hg : R w w1) (h : wpR R P ops Q r (a.put o.dst v) w1) : wpR R P ops Q ((true, i) :: r) a w := by
  unfold wpR
  rw [ho]
  simp only [hw, if_true]
  unfold Oper.wp
  rw [hy]
  exact ⟨hg, h⟩
theorem wpR_done {a : Act} {w : World} (h : Q .normal a w) : wpR R P ops Q [] a w := h
end
end Go.Proofs.YtpdapgbamlcjjaaGreatDoor.Pl

/-
  A region that draws its order, walked in one order that is laid down beforehand: what only reads is taken as soon as it may come up, and must yield the same value in every world in which the blocks below B have stayed; what makes or writes memory must be alone in its turn. The order is checked by the kernel.
-/
namespace Go.Proofs.YtpdapgbamlcjjaaGreatDoor
open Go Go.RowKit

section
variable {P : Program} {ops : Array Oper} {Q : Exit → Act → World → Prop}

theorem wpAnyG_weaken {md : Region.Mode} {S S' : World → Prop} (h : ∀ w, S' w → S w) : ∀ (fuel : Nat) (listed : Array Bool) (a : Act) (w : World), wpAnyH P md ops Q S' fuel listed a w → wpAnyH P md ops Q S fuel listed a w
  | 0, _, _, _, h0 => h0
  | fuel + 1, _, _, _, h0 => ⟨h0.1, fun i hi => wpOp_mono (fun a' w' h' => ⟨h _ h'.1, wpAnyG_weaken h fuel _ a' w' h'.2⟩) (h0.2 i hi)⟩

/-- The walk in the order that is laid down ('true': makes or writes memory). -/
def wpG (B : Nat) (P : Program) (ops : Array Oper) (Q : Exit → Act → World → Prop) : List (Bool × Nat) → Act → World → Prop
  | [], a, w => Q .normal a w
  | (b, i) :: r, a, w =>
    match ops[i]? with
    | none => False
    | some o =>
      if Region.wanted o (yielded ops a.tmps) = true then
        (if b = true then Oper.wp P o a w (fun a' w' => Below B w w' ∧ wpG B P ops Q r a' w') Q
         else ∃ v, (∀ w', Below B w w' → (execOp a.eval o).run P w' = .ok (.value v) w') ∧ wpG B P ops Q r (a.put o.dst v) w)
      else wpG B P ops Q r (a.put o.dst undef) w

/-- May the operations come in that order, whatever order is drawn? -/
def schedG (ops : Array Oper) : List (Bool × Nat) → Array Bool → Bool
  | [], listed => (Region.ready .any ops listed).isEmpty
  | (true, i) :: r, listed => (Region.ready .any ops listed == [i]) && schedG ops r (listed.setIfInBounds i true)
  | (false, i) :: r, listed => ((Region.ready .any ops listed).contains i && Region.free .any ops listed i) && schedG ops r (listed.setIfInBounds i true)

theorem wpAnyG_of_S {B : Nat} (hs : Region.noSelect ops = true) (hQ : ∀ c a d v w, Q (.panic c) (Act.put a d v) w → Q (.panic c) a w) : ∀ (r : List (Bool × Nat)) (listed : Array Bool) (a : Act) (w : World), schedG ops r listed = true → wpG B P ops Q r a w →
    wpAnyH P .any ops Q (Below B w) r.length listed a w
  | [], listed, a, w, hB, h => ⟨by simpa [schedG] using hB, h⟩
  | (true, i) :: r, listed, a, w, hB, h => by
    simp only [schedG, Bool.and_eq_true, beq_iff_eq] at hB
    obtain ⟨hr, hB'⟩ := hB
    unfold wpG at h
    split at h
    · exact h.elim
    · rename_i o ho
      refine wpAnyH_all hr (by simp) fun j hj => ?_
      obtain rfl : j = i := by simpa using hj
      refine wpOp_step ho fun K hK => ?_
      split at h
      · rename_i hw
        rw [if_pos hw]
        simp only [if_true] at h
        exact Oper.wp_mono (fun a' w' ⟨hg, h'⟩ => hK a' w' ⟨hg, wpAnyG_weaken (fun _ h2 => hg.trans h2) _ _ _ _ (wpAnyG_of_S hs hQ r _ a' w' hB' h')⟩) h
      · rename_i hw
        rw [if_neg hw]
        exact hK _ _ ⟨Below.refl _ _, wpAnyG_of_S hs hQ r _ _ _ hB' h⟩
  | (false, i) :: r, listed, a, w, hB, h => by
    simp only [schedG, Bool.and_eq_true] at hB
    obtain ⟨⟨hr, hf⟩, hB'⟩ := hB
    unfold wpG at h
    split at h
    · exact h.elim
    · rename_i o ho
      split at h
      · rename_i hw
        simp only [Bool.false_eq_true, if_false] at h
        obtain ⟨v, hv, h'⟩ := h
        exact wpAnyH_take ho hs hf hr (fun c a' w' hq => hQ c _ _ _ _ hq) (Or.inl ⟨hw, hv⟩) (Below.refl _ _) (wpAnyG_of_S hs hQ r _ _ _ hB' h')
      · rename_i hw
        exact wpAnyH_take ho hs hf hr (fun c a' w' hq => hQ c _ _ _ _ hq) (Or.inr ⟨by simpa using hw, rfl⟩) (Below.refl _ _) (wpAnyG_of_S hs hQ r _ _ _ hB' h)

theorem wp_region_schedG (B : Nat) (sch : List (Bool × Nat)) {id : Nat} {a : Act} {w : World} (hm : P.follows .mixedOrders = true) (hs : Region.noSelect ops = true) (hlen : sch.length = ops.size) (hB : schedG ops sch (Array.replicate ops.size false) = true)
    (hQ : ∀ c a d v w, Q (.panic c) (Act.put a d v) w → Q (.panic c) a w) (h : wpG B P ops Q sch a w.drew) : (Code.region id ops true).wp P Q a w := by
  refine wp_region_held_drew (S := Below B w.drew) hm (Below.refl _ _) fun _ => ?_
  have := wpAnyG_of_S hs hQ sch _ a w.drew hB h
  rw [hlen] at this
  exact this

theorem wpG_read {B i : Nat} {o : Oper} {r : List (Bool × Nat)} {a : Act} {w : World} {v : Value} (ho : ops[i]? = some o) (hw : Region.wanted o (yielded ops a.tmps) = true)
    (hy : ∀ w', Below B w w' → (execOp a.eval o).run P w' = .ok (.value v) w') (h : wpG B P ops Q r (a.put o.dst v) w) : wpG B P ops Q ((false, i) :: r) a w := by
  unfold wpG
  rw [ho]
  simp only [hw, if_true, Bool.false_eq_true, if_false]
  exact ⟨v, hy, h⟩
theorem wpG_make {B i : Nat} {o : Oper} {r : List (Bool × Nat)} {a : Act} {w w1 : World} {v : Value} (ho : ops[i]? = some o) (hw : Region.wanted o (yielded ops a.tmps) = true)
    (hy : (execOp a.eval o).run P w = .ok (.value v) w1) (hg : Below B w w1) (h : wpG B P ops Q r (a.put o.dst v) w1) : wpG B P ops Q ((true, i) :: r) a w := by
  unfold wpG
  rw [ho]
  simp only [hw, if_true]
  unfold Oper.wp
  rw [hy]
  exact ⟨hg, h⟩
theorem wpG_skip {B : Nat} {b : Bool} {i : Nat} {o : Oper} {r : List (Bool × Nat)} {a : Act} {w : World} (ho : ops[i]? = some o) (hw : Region.wanted o (yielded ops a.tmps) = false)
    (h : wpG B P ops Q r (a.put o.dst undef) w) : wpG B P ops Q ((b, i) :: r) a w := by
  unfold wpG
  rw [ho]
  simp only [hw, Bool.false_eq_true, if_false]
  exact h
theorem wpG_call {B i : Nat} {o : Oper} {r : List (Bool × Nat)} {a : Act} {w : World} (ho : ops[i]? = some o) (hw : Region.wanted o (yielded ops a.tmps) = true)
    (h : ∀ K : Act → World → Prop, Shut (∀ a' w', Below B w w' → wpG B P ops Q r a' w' → K a' w') → Oper.wp P o a w K Q) : wpG B P ops Q ((true, i) :: r) a w := by
  unfold wpG
  rw [ho]
  simp only [hw, if_true]
  exact h _ (fun _ _ hg h' => ⟨hg, h'⟩)
theorem wpG_done {B : Nat} {a : Act} {w : World} (h : Q .normal a w) : wpG B P ops Q [] a w := h
end
end Go.Proofs.YtpdapgbamlcjjaaGreatDoor
