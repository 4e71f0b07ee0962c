import Derived.Test.YtkekmokdlgocaaaGreatDoorJW14
import Derived.Test.YtkekmokdlgocaaaGreatDoorJW17
set_option maxRecDepth 100000
set_option maxHeartbeats 4000000
namespace Go.Proofs.YtkekmokdlgocaaaGreatDoor
theorem sq_run (b : List UInt8) : ∀ (m f : Nat), b.length - f ≤ m → Asc f b.length ((Sq.Sm.run b (Sq.Sm.sg b f b.length)).1.map (·.1)) := by
 intro m
 induction m with
 | zero =>
  intro f h
  rw [Sq.Sm.sg_end (by omega)]
  trivial
 | succ m ih =>
  intro f h
  by_cases hf : f < b.length
  ·rw [Sq.Sm.sg_step hf]
   have hn := Sq.Sm.nxt_gt b f
   rcases hv : Sq.Sm.val b (f, Sq.Sm.nxt b (f + 1)) with _ | l
   ·rw [Sq.Sm.run_none _ hv]; trivial
   ·rw [Sq.Sm.run_some _ hv, List.map_cons]
    exact ⟨Nat.le_refl _, hf, (ih (Sq.Sm.nxt b (f + 1)) (by omega)).low (show f + 1 ≤ _ from hn)⟩
  ·rw [Sq.Sm.sg_end (by omega)]
   trivial
theorem sq_asc (b : List UInt8) : Asc 0 b.length ((Sq.Sm.ps b).1.map (·.1)) := by
 by_cases h : b.take 4 = Sq.Sm.hd
 ·rw [Sq.Sm.ps_head h]
  exact (sq_run b _ 4 (Nat.le_refl _)).low (Nat.zero_le _)
 ·rw [Sq.Sm.ps_not h]
  trivial
end Go.Proofs.YtkekmokdlgocaaaGreatDoor
