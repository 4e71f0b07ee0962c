/-
  Joined: Gl.
-/
import Derived.Test.YtoalncojijmelaaGreatDoorJ4
import Derived.Lib.LaidTab
import Derived.Lib.ItoaNum
/-
  The library's variables that calls read: a number of which only the kind is known, and the table of powers of ten.
-/
namespace Go.Proofs.YtoalncojijmelaaGreatDoor
open Go.RowKit

/-- What stays of the library's variables. -/
structure Gl (w : World) : Prop where
  mx : ∃ m, w.cell? ⟨0, 0, none⟩ = some (.int .i64 m)
  tab : Lib.TabIs Tryz.prog w "internal/strconv.uint64pow10" .u64 Lib.pow10Tab
  lt : 1 < w.heap.size
theorem Gl.below {w w' : World} {B : Nat} (h : Gl w) (hb : Below B w w') (hB : 1 < B) : Gl w' := by
  refine ⟨?_, ?_, Nat.lt_of_lt_of_le h.lt hb.size⟩
  · obtain ⟨m, hm⟩ := h.mx
    exact ⟨m, (hb.cell (p := ⟨0, 0, none⟩) (Nat.lt_of_lt_of_le (by decide) hB)).trans hm⟩
  · have t := h.tab
    unfold Lib.TabIs World.var? at t ⊢
    rw [show Tryz.prog.globalNamed "internal/strconv.uint64pow10" = some 1 by kernel_rfl] at t ⊢
    rw [Option.bind_some] at t ⊢
    rw [hb.block 1 (Nat.lt_of_lt_of_le (by decide) hB)]
    exact t
theorem Gl.below' {w w' : World} (h : Gl w) (hb : Below w.heap.size w w') : Gl w' := h.below hb h.lt
theorem Gl.alloc {w : World} (h : Gl w) (o : Obj) : Gl (w.alloc o) := h.below' ((Below.refl _ _).alloc (Nat.le_refl _) _)
end Go.Proofs.YtoalncojijmelaaGreatDoor
