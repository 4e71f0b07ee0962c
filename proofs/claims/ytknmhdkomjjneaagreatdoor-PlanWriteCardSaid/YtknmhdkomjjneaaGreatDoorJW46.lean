/-
  Joined: SqYa.
-/
import Derived.Test.YtknmhdkomjjneaaGreatDoorJW8
import Derived.Test.YtknmhdkomjjneaaGreatDoorJW5
import Derived.Deep.RegionHeld3
/-
  The document's Pair: what the call returns and leaves.
-/
namespace Go.Proofs.YtknmhdkomjjneaaGreatDoor.Sq
open Go.RowKit

set_option maxRecDepth 100000 in
set_option maxHeartbeats 400000 in
theorem rpair_c (A : Option Addr) (n c : Nat) (l : List UInt8) (k v : ByteArray) (w : World) (hr : Rb w w.heap.size A n c l) (hn : n ≤ 500000) (hk : k.size ≤ 100000) (hv : v.size ≤ 100000) :
    Calls Tryz.prog 69 #[.slice A n c, .agg #[.string k, .string v]] w (RetB w.heap.size w (l ++ (fr k ++ fr v))) := by
  have hk1 := vb_small k.size (by omega)
  have hfk : (fr k).length ≤ 100010 := by rw [fr_len]; omega
  clear hk1
  have hl := hr.len
  have Hr := Lib.hid hr; have Hl := Lib.hid hl; clear hr hl
  go_enter Tryz.func69, Tryz.ntmps69
  go_wp2
  go_region_held3 (fun w' => w'.cell? ⟨w.heap.size, 0, none⟩ = some (.string k) ∧ w'.cell? ⟨w.heap.size, 1, none⟩ = some (.string v)) (go_keep)
    (first | (go_at_call 76; (with_reducible refine (rframe_c A n c l k _ ?_ ?_ ?_).mono ?_); exact ((Hr.out.alloc (Nat.le_refl _) _).more (by simp)); omega; exact hk; rintro e w1 ⟨A1, c1, rfl, hown1, hb1⟩; have hc0 : w1.cell? ⟨w.heap.size, 0, none⟩ = some (.string k) := (hb1.cell (by simp)).trans (by simp); have hc1 : w1.cell? ⟨w.heap.size, 1, none⟩ = some (.string v) := (hb1.cell (by simp)).trans (by simp); have hz1 : w.heap.size + 1 ≤ w1.heap.size := (by have := hb1.size; simpa using this)) | (go_at_call 76; (with_reducible refine (rframe_c A1 _ c1 (l ++ fr k) v _ ?_ ?_ ?_).mono ?_); exact (rb_len hown1.rb List.length_append); (rw [Hl.out]; omega); exact hv; rintro e w3 ⟨A3, c3, rfl, hown3, hb3⟩; have hf0 : w3.cell? ⟨w.heap.size, 0, none⟩ = some (.string k) := (hb3.cell (p := ⟨w.heap.size, 0, none⟩) hz1).trans hc0; have hf1 : w3.cell? ⟨w.heap.size, 1, none⟩ = some (.string v) := (hb3.cell (p := ⟨w.heap.size, 1, none⟩) hz1).trans hc1))
  go_wp2
  go_ret
  have hb1' : Below w.heap.size w w1 := ((Below.refl _ _).alloc (Nat.le_refl _) _).trans ⟨hb1.os, hb1.tape, hb1.output, hb1.size, fun i hi => hb1.block i (by show i < (w.alloc _).heap.size; rw [World.size_alloc]; omega)⟩
  have hown3' : Own w3 5 w.heap.size A3 c3 (l ++ (fr k ++ fr v)) := by
    have h := hown3.mono (base' := w.heap.size) (by show w.heap.size ≤ w1.heap.size; omega)
    rw [List.append_assoc] at h
    exact h
  exact ⟨A3, c3, ret_len (by simp), hown3', hb1'.trans ⟨hb3.os, hb3.tape, hb3.output, hb3.size, fun i hi => hb3.block i (by show i < w1.heap.size; omega)⟩⟩

end Go.Proofs.YtknmhdkomjjneaaGreatDoor.Sq
