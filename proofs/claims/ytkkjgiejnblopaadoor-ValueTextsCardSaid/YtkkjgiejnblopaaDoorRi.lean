/-
  A region that draws its order, walked along a tree that is laid down beforehand: what only reads is taken as soon as it may come up (its value the same in every world that R reaches); where two may come up, and one of them is no such read, the tree parts. What is laid down is checked by the kernel.
-/
import Derived.OrdersHeld
import Derived.Deep.RegionHeld
import Derived.RegionTactic
import Derived.Below
import Derived.Test.YtkkjgiejnblopaaDoorRh
namespace Go.Proofs.YtkkjgiejnblopaaDoor.Pl
open Go Go.RowKit

inductive Sch where
  | done : Sch
  | read (i : Nat) (s : Sch) : Sch
  | alone (i : Nat) (s : Sch) : Sch
  | two (i j : Nat) (s t : Sch) : Sch
def Sch.len : Sch → Nat
  | .done => 0
  | .read _ s => s.len + 1
  | .alone _ s => s.len + 1
  | .two _ _ s _ => s.len + 1
def Sch.ok (ops : Array Oper) : Sch → Array Bool → Bool
  | .done, l => (Region.ready .any ops l).isEmpty
  | .read i s, l => ((Region.ready .any ops l).contains i && Region.free .any ops l i) && s.ok ops (l.setIfInBounds i true)
  | .alone i s, l => (Region.ready .any ops l == [i]) && s.ok ops (l.setIfInBounds i true)
  | .two i j s t, l => (Region.ready .any ops l == [i, j]) && (s.ok ops (l.setIfInBounds i true) && (t.ok ops (l.setIfInBounds j true) && s.len == t.len))

section
variable {P : Program} {ops : Array Oper} {Q : Exit → Act → World → Prop} {R : World → World → Prop}

/-- One operation, and K behind it. -/
def stS (R : World → World → Prop) (P : Program) (ops : Array Oper) (Q : Exit → Act → World → Prop) (i : Nat) (K : Act → World → Prop) (a : Act) (w : World) : Prop :=
  match ops[i]? with
  | none => False
  | some o => if Region.wanted o (yielded ops a.tmps) = true then Oper.wp P o a w (fun a' w' => R w w' ∧ K a' w') Q else K (a.put o.dst undef) w
def wpS (R : World → World → Prop) (P : Program) (ops : Array Oper) (Q : Exit → Act → World → Prop) : Sch → Act → World → Prop
  | .done, a, w => Q .normal a w
  | .read i s, a, w =>
    match ops[i]? with
    | none => False
    | some o =>
      if Region.wanted o (yielded ops a.tmps) = true then ∃ v, (∀ w', R w w' → (execOp a.eval o).run P w' = .ok (.value v) w') ∧ wpS R P ops Q s (a.put o.dst v) w
      else wpS R P ops Q s (a.put o.dst undef) w
  | .alone i s, a, w => stS R P ops Q i (wpS R P ops Q s) a w
  | .two i j s t, a, w => stS R P ops Q i (wpS R P ops Q s) a w ∧ stS R P ops Q j (wpS R P ops Q t) a w

theorem stS_op (hrf : ∀ w, R w w) {i : Nat} {K K' : Act → World → Prop} {a : Act} {w : World} (h : stS R P ops Q i K a w) (hK : ∀ a' w', R w w' → K a' w' → K' a' w') : wpOp P ops Q i K' a w := by
  unfold stS at h
  split at h
  · exact h.elim
  · rename_i o ho
    refine wpOp_step ho fun K2 hK2 => ?_
    split at h
    · rename_i hw
      rw [if_pos hw]
      exact Oper.wp_mono (fun a' w' ⟨hg, h'⟩ => hK2 a' w' (hK _ _ hg h')) h
    · rename_i hw
      rw [if_neg hw]
      exact hK2 _ _ (hK _ _ (hrf _) h)
theorem wpAnyS_of (hrf : ∀ w, R w w) (htr : ∀ a b c, R a b → R b c → R a c) (hs : Region.noSelect ops = true) (hQ : ∀ c a d v w, Q (.panic c) (Act.put a d v) w → Q (.panic c) a w) : ∀ (s : Sch) (listed : Array Bool) (a : Act) (w : World), s.ok ops listed = true → wpS R P ops Q s a w →
    wpAnyH P .any ops Q (R w) s.len listed a w
  | .done, listed, a, w, hB, h => ⟨by simpa [Sch.ok] using hB, h⟩
  | .alone i s, listed, a, w, hB, h => by
    simp only [Sch.ok, Bool.and_eq_true, beq_iff_eq] at hB
    obtain ⟨hr, hB'⟩ := hB
    refine wpAnyH_all hr (by simp) fun j hj => ?_
    obtain rfl : j = i := by simpa using hj
    exact stS_op hrf h fun a' w' hg h' => ⟨hg, wpAnyR_weaken (fun _ h2 => htr _ _ _ hg h2) _ _ _ _ (wpAnyS_of hrf htr hs hQ s _ a' w' hB' h')⟩
  | .two i j s t, listed, a, w, hB, h => by
    simp only [Sch.ok, Bool.and_eq_true, beq_iff_eq] at hB
    obtain ⟨hr, hB1, hB2, hl⟩ := hB
    refine wpAnyH_all hr (by simp) fun k hk => ?_
    have hk : k = i ∨ k = j := by simpa using hk
    rcases hk with rfl | rfl
    · exact stS_op hrf h.1 fun a' w' hg h' => ⟨hg, wpAnyR_weaken (fun _ h2 => htr _ _ _ hg h2) _ _ _ _ (wpAnyS_of hrf htr hs hQ s _ a' w' hB1 h')⟩
    · exact stS_op hrf h.2 fun a' w' hg h' => ⟨hg, by
        have := wpAnyR_weaken (fun _ h2 => htr _ _ _ hg h2) _ _ _ _ (wpAnyS_of hrf htr hs hQ t _ a' w' hB2 h')
        rw [← hl] at this
        exact this⟩
  | .read i s, listed, a, w, hB, h => by
    simp only [Sch.ok, Bool.and_eq_true] at hB
    obtain ⟨⟨hr, hf⟩, hB'⟩ := hB
    unfold wpS at h
    split at h
    · exact h.elim
    · rename_i o ho
      split at h
      · rename_i hw
        obtain ⟨v, hv, h'⟩ := h
        exact wpAnyH_take ho hs hf hr (fun c a' w' hq => hQ c _ _ _ _ hq) (Or.inl ⟨hw, hv⟩) (hrf _) (wpAnyS_of hrf htr hs hQ s _ _ _ hB' h')
      · rename_i hw
        exact wpAnyH_take ho hs hf hr (fun c a' w' hq => hQ c _ _ _ _ hq) (Or.inr ⟨by simpa using hw, rfl⟩) (hrf _) (wpAnyS_of hrf htr hs hQ s _ _ _ hB' h)

/-- The same, shut (so that nothing unfolds it). -/
structure WS (R : World → World → Prop) (P : Program) (ops : Array Oper) (Q : Exit → Act → World → Prop) (s : Sch) (a : Act) (w : World) : Prop where
  it : wpS R P ops Q s a w
structure SS (R : World → World → Prop) (P : Program) (ops : Array Oper) (Q : Exit → Act → World → Prop) (i : Nat) (K : Act → World → Prop) (a : Act) (w : World) : Prop where
  it : stS R P ops Q i K a w
theorem stS_mono {i : Nat} {K K' : Act → World → Prop} {a : Act} {w : World} (hK : ∀ a w, K a w → K' a w) (h : stS R P ops Q i K a w) : stS R P ops Q i K' a w := by
  unfold stS at h ⊢
  split at h
  · exact h.elim
  · rename_i o ho
    split at h
    · rename_i hw
      simp only [hw, if_true]
      exact Oper.wp_mono (fun a' w' ⟨hg, h'⟩ => ⟨hg, hK _ _ h'⟩) h
    · rename_i hw
      simp only [hw, Bool.false_eq_true, if_false]
      exact hK _ _ h
theorem wp_region_tree (R : World → World → Prop) (hrf : ∀ w, R w w) (htr : ∀ a b c, R a b → R b c → R a c) (s : Sch) {id : Nat} {a : Act} {w : World} (hm : P.follows .mixedOrders = true) (hs : Region.noSelect ops = true) (hlen : s.len = ops.size) (hB : s.ok ops (Array.replicate ops.size false) = true)
    (hQ : ∀ c a d v w, Q (.panic c) (Act.put a d v) w → Q (.panic c) a w) (h : WS R P ops Q s a w.drew) : (Code.region id ops true).wp P Q a w := by
  refine wp_region_held_drew (S := R w.drew) hm (hrf _) fun _ => ?_
  have := wpAnyS_of hrf htr hs hQ s _ a w.drew hB h.it
  rw [hlen] at this
  exact this

theorem wpS_read {i : Nat} {o : Oper} {s : Sch} {a : Act} {w : World} {v : Value} (ho : ops[i]? = some o) (hw : Region.wanted o (yielded ops a.tmps) = true)
    (hy : ∀ w', R w w' → (execOp a.eval o).run P w' = .ok (.value v) w') (h : WS R P ops Q s (a.put o.dst v) w) : WS R P ops Q (.read i s) a w := by
  refine ⟨?_⟩
  unfold wpS
  rw [ho]
  simp only [hw, if_true]
  exact ⟨v, hy, h.it⟩
theorem wpS_skip {i : Nat} {o : Oper} {s : Sch} {a : Act} {w : World} (ho : ops[i]? = some o) (hw : Region.wanted o (yielded ops a.tmps) = false)
    (h : WS R P ops Q s (a.put o.dst undef) w) : WS R P ops Q (.read i s) a w := by
  refine ⟨?_⟩
  unfold wpS
  rw [ho]
  simp only [hw, Bool.false_eq_true, if_false]
  exact h.it
theorem stS_value {i : Nat} {o : Oper} {K : Act → World → Prop} {a : Act} {w w1 : World} {v : Value} (ho : ops[i]? = some o) (hw : Region.wanted o (yielded ops a.tmps) = true)
    (hy : (execOp a.eval o).run P w = .ok (.value v) w1) (hg : R w w1) (h : K (a.put o.dst v) w1) : SS R P ops Q i K a w := by
  refine ⟨?_⟩
  unfold stS
  rw [ho]
  simp only [hw, if_true]
  unfold Oper.wp
  rw [hy]
  exact ⟨hg, h⟩
theorem stS_call {i : Nat} {o : Oper} {K : Act → World → Prop} {a : Act} {w : World} (ho : ops[i]? = some o) (hw : Region.wanted o (yielded ops a.tmps) = true)
    (h : ∀ K' : Act → World → Prop, Shut (∀ a' w', R w w' → K a' w' → K' a' w') → Oper.wp P o a w K' Q) : SS R P ops Q i K a w := by
  refine ⟨?_⟩
  unfold stS
  rw [ho]
  simp only [hw, if_true]
  exact h _ (fun _ _ hg h' => ⟨hg, h'⟩)
theorem wpS_alone {i : Nat} {s : Sch} {a : Act} {w : World} (h : SS R P ops Q i (WS R P ops Q s) a w) : WS R P ops Q (.alone i s) a w := ⟨stS_mono (fun _ _ q => q.it) h.it⟩
theorem wpS_two {i j : Nat} {s t : Sch} {a : Act} {w : World} (h : SS R P ops Q i (WS R P ops Q s) a w) (h2 : SS R P ops Q j (WS R P ops Q t) a w) : WS R P ops Q (.two i j s t) a w := ⟨⟨stS_mono (fun _ _ q => q.it) h.it, stS_mono (fun _ _ q => q.it) h2.it⟩⟩
theorem wpS_done {a : Act} {w : World} (h : Q .normal a w) : WS R P ops Q .done a w := ⟨h⟩
end
end Go.Proofs.YtkkjgiejnblopaaDoor.Pl
