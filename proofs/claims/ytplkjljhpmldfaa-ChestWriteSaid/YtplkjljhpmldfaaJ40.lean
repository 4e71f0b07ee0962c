/-
  Joined: Rs.
-/
import Derived.OrdersHeld
import Derived.Deep.RegionHeld
import Derived.RegionTactic
import Derived.Below
/-
  A region that draws its order, walked in one order that is laid down beforehand: what only reads is taken as soon as it may come up, and must yield the same value in every world that has only grown since; what makes memory must be alone in its turn. The order is checked by the kernel.
-/
namespace Go.Proofs.Ytplkjljhpmldfaa
open Go Go.RowKit

/-- Nothing that stood in w has changed in w'. -/
def Grow (w w' : World) : Prop := Below w.heap.size w w'
theorem Grow.refl (w : World) : Grow w w := Below.refl _ _
theorem Grow.trans {a b c : World} (h : Grow a b) (k : Grow b c) : Grow a c := Below.trans h (Below.mono k (Below.size h))
theorem grow_drew (w : World) : Grow w w.drew := ⟨rfl, rfl, rfl, Nat.le_refl _, fun _ _ => rfl⟩

section
variable {P : Program} {ops : Array Oper} {Q : Exit → Act → World → Prop}

theorem wpAnyH_weaken {md : Region.Mode} {S S' : World → Prop} (h : ∀ w, S' w → S w) : ∀ (fuel : Nat) (listed : Array Bool) (a : Act) (w : World), wpAnyH P md ops Q S' fuel listed a w → wpAnyH P md ops Q S fuel listed a w
  | 0, _, _, _, h0 => h0
  | fuel + 1, _, _, _, h0 => ⟨h0.1, fun i hi => wpOp_mono (fun a' w' h' => ⟨h _ h'.1, wpAnyH_weaken h fuel _ a' w' h'.2⟩) (h0.2 i hi)⟩

/-- The walk in the order that is laid down ('true': makes memory). -/
def wpS (P : Program) (ops : Array Oper) (Q : Exit → Act → World → Prop) : List (Bool × Nat) → Act → World → Prop
  | [], a, w => Q .normal a w
  | (b, i) :: r, a, w =>
    match ops[i]? with
    | none => False
    | some o =>
      if Region.wanted o (yielded ops a.tmps) = true then
        (if b = true then Oper.wp P o a w (fun a' w' => Grow w w' ∧ wpS P ops Q r a' w') Q
         else ∃ v, (∀ w', Grow w w' → (execOp a.eval o).run P w' = .ok (.value v) w') ∧ wpS P ops Q r (a.put o.dst v) w)
      else wpS P ops Q r (a.put o.dst undef) w

/-- May the operations come in that order, whatever order is drawn? -/
def schedB (ops : Array Oper) : List (Bool × Nat) → Array Bool → Bool
  | [], listed => (Region.ready .any ops listed).isEmpty
  | (true, i) :: r, listed => (Region.ready .any ops listed == [i]) && schedB ops r (listed.setIfInBounds i true)
  | (false, i) :: r, listed => ((Region.ready .any ops listed).contains i && Region.free .any ops listed i) && schedB ops r (listed.setIfInBounds i true)

theorem wpAnyH_of_S (hs : Region.noSelect ops = true) (hQ : ∀ c a d v w, Q (.panic c) (Act.put a d v) w → Q (.panic c) a w) : ∀ (r : List (Bool × Nat)) (listed : Array Bool) (a : Act) (w : World), schedB ops r listed = true → wpS P ops Q r a w →
    wpAnyH P .any ops Q (Grow w) r.length listed a w
  | [], listed, a, w, hB, h => ⟨by simpa [schedB] using hB, h⟩
  | (true, i) :: r, listed, a, w, hB, h => by
    simp only [schedB, Bool.and_eq_true, beq_iff_eq] at hB
    obtain ⟨hr, hB'⟩ := hB
    unfold wpS at h
    split at h
    · exact h.elim
    · rename_i o ho
      refine wpAnyH_all hr (by simp) fun j hj => ?_
      obtain rfl : j = i := by simpa using hj
      refine wpOp_step ho fun K hK => ?_
      split at h
      · rename_i hw
        rw [if_pos hw]
        simp only [if_true] at h
        exact Oper.wp_mono (fun a' w' ⟨hg, h'⟩ => hK a' w' ⟨hg, wpAnyH_weaken (fun _ h2 => hg.trans h2) _ _ _ _ (wpAnyH_of_S hs hQ r _ a' w' hB' h')⟩) h
      · rename_i hw
        rw [if_neg hw]
        exact hK _ _ ⟨Grow.refl _, wpAnyH_of_S hs hQ r _ _ _ hB' h⟩
  | (false, i) :: r, listed, a, w, hB, h => by
    simp only [schedB, Bool.and_eq_true] at hB
    obtain ⟨⟨hr, hf⟩, hB'⟩ := hB
    unfold wpS at h
    split at h
    · exact h.elim
    · rename_i o ho
      split at h
      · rename_i hw
        simp only [Bool.false_eq_true, if_false] at h
        obtain ⟨v, hv, h'⟩ := h
        exact wpAnyH_take ho hs hf hr (fun c a' w' hq => hQ c _ _ _ _ hq) (Or.inl ⟨hw, hv⟩) (Grow.refl _) (wpAnyH_of_S hs hQ r _ _ _ hB' h')
      · rename_i hw
        exact wpAnyH_take ho hs hf hr (fun c a' w' hq => hQ c _ _ _ _ hq) (Or.inr ⟨by simpa using hw, rfl⟩) (Grow.refl _) (wpAnyH_of_S hs hQ r _ _ _ hB' h)

theorem wp_region_sched (sch : List (Bool × Nat)) {id : Nat} {a : Act} {w : World} (hm : P.follows .mixedOrders = true) (hs : Region.noSelect ops = true) (hlen : sch.length = ops.size) (hB : schedB ops sch (Array.replicate ops.size false) = true)
    (hQ : ∀ c a d v w, Q (.panic c) (Act.put a d v) w → Q (.panic c) a w) (h : wpS P ops Q sch a w.drew) : (Code.region id ops true).wp P Q a w := by
  refine wp_region_held_drew (S := Grow w.drew) hm (Grow.refl _) fun _ => ?_
  have := wpAnyH_of_S hs hQ sch _ a w.drew hB h
  rw [hlen] at this
  exact this

theorem wpS_read {i : Nat} {o : Oper} {r : List (Bool × Nat)} {a : Act} {w : World} {v : Value} (ho : ops[i]? = some o) (hw : Region.wanted o (yielded ops a.tmps) = true)
    (hy : ∀ w', Grow w w' → (execOp a.eval o).run P w' = .ok (.value v) w') (h : wpS P ops Q r (a.put o.dst v) w) : wpS P ops Q ((false, i) :: r) a w := by
  unfold wpS
  rw [ho]
  simp only [hw, if_true, Bool.false_eq_true, if_false]
  exact ⟨v, hy, h⟩
theorem wpS_skip {b : Bool} {i : Nat} {o : Oper} {r : List (Bool × Nat)} {a : Act} {w : World} (ho : ops[i]? = some o) (hw : Region.wanted o (yielded ops a.tmps) = false)
    (h : wpS P ops Q r (a.put o.dst undef) w) : wpS P ops Q ((b, i) :: r) a w := by
  unfold wpS
  rw [ho]
  simp only [hw, Bool.false_eq_true, if_false]
  exact h
theorem wpS_call {i : Nat} {o : Oper} {r : List (Bool × Nat)} {a : Act} {w : World} (ho : ops[i]? = some o) (hw : Region.wanted o (yielded ops a.tmps) = true)
    (h : ∀ K : Act → World → Prop, Shut (∀ a' w', Grow w w' → wpS P ops Q r a' w' → K a' w') → Oper.wp P o a w K Q) : wpS P ops Q ((true, i) :: r) a w := by
  unfold wpS
  rw [ho]
  simp only [hw, if_true]
  exact h _ (fun _ _ hg h' => ⟨hg, h'⟩)
theorem wpS_done {a : Act} {w : World} (h : Q .normal a w) : wpS P ops Q [] a w := h
end
end Go.Proofs.Ytplkjljhpmldfaa
