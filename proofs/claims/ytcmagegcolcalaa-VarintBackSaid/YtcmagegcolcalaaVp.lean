/-
  varint.Pair and the document's Pair: what each call returns and leaves.
-/
import Derived.Test.YtcmagegcolcalaaVf
import Derived.Deep.RegionHeld3
import Derived.Deep.DeepCutAuto
namespace Go.Proofs.Ytcmagegcolcalaa
open Go.RowKit

theorem grown_i (A : Option Addr) (n c : Nat) (l : List UInt8) (K : Int) (k : Nat) (w : World) (hK : K = (k : Int)) (hr : Rb w w.heap.size A n c l) (hn : n ≤ 1000000) (hk : k ≤ 1000000) :
    Calls Try.prog 28 #[.slice A n c, .int .i64 K] w (RetB w.heap.size w l) := by
  subst hK; exact grown_c A n c l k w hr hn hk

theorem addFrame_i (A : Option Addr) (n c base : Nat) (l : List UInt8) (s : ByteArray) (w : World) (hn : n = l.length) (hown : Own w 5 base A c l) (hb : base ≤ w.heap.size) (hl : l.length ≤ 800000) (hs : s.size ≤ 100000) :
    Calls Try.prog 32 #[.slice A n c, .string s] w (RetB base w (l ++ fr s)) := by
  subst hn; exact addFrame_c A c base l s w hown hb hl hs

set_option maxRecDepth 100000 in
set_option maxHeartbeats 400000 in
/-- varint.Pair -/
theorem pair_c (A : Option Addr) (n c : Nat) (l : List UInt8) (k v : ByteArray) (w : World) (hr : Rb w w.heap.size A n c l) (hn : n ≤ 500000) (hk : k.size ≤ 100000) (hv : v.size ≤ 100000) :
    Calls Try.prog 25 #[.slice A n c, .agg #[.string k, .string v]] w (RetB w.heap.size w (l ++ (fr k ++ fr v))) := by
  have hk1 := vb_small k.size (by omega)
  have hv1 := vb_small v.size (by omega)
  have hfk : (fr k).length ≤ 100010 := by rw [fr_len]; omega
  have hfv : (fr v).length ≤ 100010 := by rw [fr_len]; omega
  clear hk1 hv1
  have hl := hr.len
  have Hr := Lib.hid hr; have Hl := Lib.hid hl; clear hr hl
  go_enter Try.func25, Try.ntmps25
  go_wp2
  go_region_held3 (fun w' => w'.cell? ⟨w.heap.size, 0, none⟩ = some (.string k) ∧ w'.cell? ⟨w.heap.size, 1, none⟩ = some (.string v)) (go_keep)
    (first | (go_at_call 33; (with_reducible refine (frameSize_c _ _ ?_).mono ?_); assumption; rintro e w' ⟨rfl, rfl⟩) | (go_at_call 28; (with_reducible refine (grown_i A n c l _ ((fr k).length + (fr v).length) _ ?_ ?_ ?_ ?_).mono ?_); (rw [IntKind.wrap_i64]; omega); exact ((Hr.out.alloc (Nat.le_refl _) _).more (by simp)); omega; omega; rintro e w1 ⟨A1, c1, rfl, hown1, hb1⟩; have hc0 : w1.cell? ⟨w.heap.size, 0, none⟩ = some (.string k) := (hb1.cell (by simp)).trans (by simp); have hc1 : w1.cell? ⟨w.heap.size, 1, none⟩ = some (.string v) := (hb1.cell (by simp)).trans (by simp)))
  have hown1' : Own w1 5 (w.heap.size + 1) A1 c1 l := by simpa using hown1
  have hb1' : Below (w.heap.size + 1) (w.alloc (.cells #[.string k, .string v] 35)) w1 := by
    have h := hb1
    have e : (w.alloc (.cells #[.string k, .string v] 35)).drew.heap.size = w.heap.size + 1 := World.size_alloc _ _
    rw [e] at h
    exact ⟨h.os, h.tape, h.output, h.size, h.block⟩
  have hz1 := hb1'.size
  simp only [World.size_alloc] at hz1
  clear hown1 hb1
  go_wp2
  go_region_held3 (fun w' => w'.cell? ⟨w.heap.size, 0, none⟩ = some (.string k) ∧ w'.cell? ⟨w.heap.size, 1, none⟩ = some (.string v)) (go_keep)
    (first | (go_at_call 32; (with_reducible refine (addFrame_i A1 _ c1 (w.heap.size + 1) l k _ ?_ ?_ ?_ ?_ ?_).mono ?_); rfl; exact hown1'; exact hz1; (rw [Hl.out]; omega); exact hk; rintro e w2 ⟨A2, c2, rfl, hown2, hb2⟩; have hd0 : w2.cell? ⟨w.heap.size, 0, none⟩ = some (.string k) := (hb2.cell (by simp)).trans hc0; have hd1 : w2.cell? ⟨w.heap.size, 1, none⟩ = some (.string v) := (hb2.cell (by simp)).trans hc1; have hz2 : w.heap.size + 1 ≤ w2.heap.size := Nat.le_trans hz1 hb2.size) | (go_at_call 32; (with_reducible refine (addFrame_i A2 _ c2 (w.heap.size + 1) (l ++ fr k) v _ ?_ ?_ ?_ ?_ ?_).mono ?_); exact (List.length_append).symm; exact hown2; exact hz2; (rw [List.length_append, Hl.out]; omega); exact hv; rintro e w3 ⟨A3, c3, rfl, hown3, hb3⟩; have hf0 : w3.cell? ⟨w.heap.size, 0, none⟩ = some (.string k) := (hb3.cell (by simp)).trans hd0; have hf1 : w3.cell? ⟨w.heap.size, 1, none⟩ = some (.string v) := (hb3.cell (by simp)).trans hd1))
  go_wp2
  go_ret
  have hown3' : Own w3 5 w.heap.size A3 c3 (l ++ (fr k ++ fr v)) := by
    have h := hown3.mono (base' := w.heap.size) (by omega)
    rw [List.append_assoc] at h
    exact h
  have hb0 : Below w.heap.size w w1 := ((Below.refl _ _).alloc (Nat.le_refl _) _).trans (hb1'.mono (by omega))
  have hb02 : Below w.heap.size w1 w2 := ⟨hb2.os, hb2.tape, hb2.output, hb2.size, fun i hi => hb2.block i (by omega)⟩
  exact ⟨A3, c3, ret_len (by simp), hown3', (hb0.trans hb02).trans (hb3.mono (by omega))⟩

end Go.Proofs.Ytcmagegcolcalaa
