/-
  A region that draws its order, whose first operation must come first, and whose others leave the world alone but for draws: the first one, then one walk in the order of the text.
-/
import Derived.Deep.QuietTactic
import Derived.BigQuiet
import Derived.RegionTactic
import Derived.Below
namespace Go.Proofs.Ytcmagegcolcalaa
open Go Go.RowKit

theorem below_drawn {B : Nat} {a w : World} (h : Below B a w) (n : Nat) : Below B a (w.drewN n) := h.trans ⟨rfl, rfl, rfl, Nat.le_refl _, fun _ _ => rfl⟩

theorem wp_region_head_quiet {P : Program} {id : Nat} {Q : Exit → Act → World → Prop} {a : Act} {w : World} {o : Oper} {rest : List Oper} (hm : P.follows .mixedOrders = true)
    (hr : Region.ready .any (o :: rest).toArray (Array.replicate (o :: rest).toArray.size false) = [0]) (hs : Region.noSelect (o :: rest).toArray = true)
    (hB : Region.lexFrom .any (o :: rest).toArray rest.length 1 ((Array.replicate (o :: rest).toArray.size false).setIfInBounds 0 true) = true) (hg : o.guard = none)
    (h : ∀ K : Act → World → Prop, (∀ a' w', wpQuiet P (o :: rest).toArray (fun w'' => ∃ n, w'' = w'.drewN n) (fun a'' => ∀ w'', (∃ n, w'' = w'.drewN n) → Q .normal a'' w'') rest a' → K a' w') → Oper.wp P o a w.drew K Q) :
    (Code.region id (o :: rest).toArray true).wp P Q a w := by
  refine wp_region_any hm ?_
  show wpAny P .any (o :: rest).toArray Q (rest.length + 1) _ a w.drew
  refine wpAny_ready (rs := [0]) hr (by simp) ?_
  refine AllReady.cons (o := o) (by simp) (fun K hK => ?_) AllReady.nil
  rw [if_pos (by simp [Region.wanted, hg])]
  refine h K fun a' w' hq => hK a' w' ?_
  refine wpAny_of_quiet (C := fun w'' => ∃ n, w'' = w'.drewN n) (Q := fun a'' => ∀ w'', (∃ n, w'' = w'.drewN n) → Q .normal a'' w'') (fun _ w'' hw'' h => h w'' hw'') _ _ _ _ ⟨0, rfl⟩ ?_
  exact wpAnyQ_lex hs rest 1 _ a' (fun j => by simp [Nat.add_comm 1 j]) hB hq
end Go.Proofs.Ytcmagegcolcalaa
