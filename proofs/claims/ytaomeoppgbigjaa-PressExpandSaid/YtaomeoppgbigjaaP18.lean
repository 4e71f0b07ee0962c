/-
  The document's Expand and Marks (threshingref03).
-/
import Derived.Test.YtaomeoppgbigjaaP16
namespace Go.Proofs.Ytaomeoppgbigjaa
open Go.RowKit

/-- Bytes and an error. -/
def RetY (base : Nat) (w : World) (out : List UInt8) (x : Nat) (e : Ending) (w' : World) : Prop :=
  ∃ A c, e = .returned (.tuple #[.slice A out.length c, .int .i64 (x : Int)]) ∧ Own w' 5 base A c out ∧ Below base w w'

set_option maxRecDepth 100000 in
/-- the document's Expand -/
theorem rExpand_c (A0 : Option Addr) (n c0 : Nat) (l : List UInt8) (most : Int) (w : World) (hr : Rb w w.heap.size A0 n c0 l) (hn : n ≤ 900000) (hm : I64 most) (hmost : most ≤ 2000000) :
    Calls Try.prog 12 #[.slice A0 n c0, .int .i64 most] w (RetY w.heap.size w (Pm.expS l most).1 (Pm.expS l most).2.2.2) := by
  have h := rexpand_c A0 n c0 l most w hr hn hm hmost
  obtain ⟨X, hX⟩ : ∃ X, X = Pm.expS l most := ⟨_, rfl⟩
  rw [← hX] at h ⊢
  obtain ⟨out, p, k, x⟩ := X
  unfold RetE at h
  dsimp only at h ⊢
  have H := Lib.hid h
  clear h hX hr hm hmost
  go_enter Try.func12, Try.ntmps12
  go_wp2_with fail
  refine H.out.mono ?_
  rintro e w1 ⟨A1, c1, rfl, hown1, hb1⟩
  go_wp2
  go_ret2
  exact ⟨A1, c1, rfl, hown1, hb1⟩

set_option maxRecDepth 100000 in
/-- the document's Marks -/
theorem rMarks_c (A0 : Option Addr) (n c0 : Nat) (l : List UInt8) (w : World) (hr : Rb w w.heap.size A0 n c0 l) (hn : n ≤ 900000) :
    Calls Try.prog 14 #[.slice A0 n c0] w fun e w' => e = .returned (.tuple #[.int .i64 ((Pm.expS l 20000).2.1 : Nat), .int .i64 ((Pm.expS l 20000).2.2.1 : Nat), .int .i64 ((Pm.expS l 20000).2.2.2 : Nat)]) ∧ Below w.heap.size w w' := by
  have h := rexpand_c A0 n c0 l 20000 w hr hn (by unfold I64; omega) (by omega)
  obtain ⟨X, hX⟩ : ∃ X, X = Pm.expS l 20000 := ⟨_, rfl⟩
  rw [← hX] at h ⊢
  obtain ⟨out, p, k, x⟩ := X
  unfold RetE at h
  dsimp only at h ⊢
  have H := Lib.hid h
  clear h hX hr
  go_enter Try.func14, Try.ntmps14
  go_wp2_with fail
  refine H.out.mono ?_
  rintro e w1 ⟨A1, c1, rfl, hown1, hb1⟩
  clear hown1
  go_wp2
  go_ret3
  exact ⟨rfl, hb1⟩
end Go.Proofs.Ytaomeoppgbigjaa
