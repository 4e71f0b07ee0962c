/-
  press.Expand and press.Marks.
-/
import Derived.Test.YtaomeoppgbigjaaP14
namespace Go.Proofs.Ytaomeoppgbigjaa
open Go.RowKit

/-- A row of bytes and an error. -/
def RetX (base : Nat) (w : World) (out : List UInt8) (x : Nat) (e : Ending) (w' : World) : Prop :=
  ∃ A c, e = .returned (.tuple #[.slice A out.length c, .int .i64 (x : Int)]) ∧ Own w' 5 base A c out ∧ Below base w w'

set_option maxRecDepth 100000 in
/-- press.Expand -/
theorem expand_c (A : Option Addr) (n c : Nat) (l : List UInt8) (most : Int) (w : World) (hr : Rb w w.heap.size A n c l) (hn : n ≤ 900000) (hm : I64 most) (hsm : ∀ S s, Vm.tk l = (S, s, 0) → (S : Int) ≤ most → S ≤ 2147483647) :
    Calls Try.prog 11 #[.slice A n c, .int .i64 most] w (RetX w.heap.size w (Pm.expS l most).1 (Pm.expS l most).2.2.2) := by
  have hsv := surveyed_c A n c w.heap.size l most w hr (Nat.le_refl _) hn hm
  have Hsv := Lib.hid hsv; have Hsm := Lib.hid hsm; have Hm := Lib.hid hm
  have hl := hr.len
  have Hl := Lib.hid hl
  clear hsv hsm hm hr hl
  obtain ⟨X, hX⟩ : ∃ X, X = Pm.expS l most := ⟨_, rfl⟩
  rw [← hX]
  have HX := Lib.hid hX; clear hX
  go_enter Try.func11, Try.ntmps11
  go_wp2_with fail
  refine Hsv.out.mono ?_
  rintro e w1 ⟨hb1, ⟨S, s, D, out, p, k, htk, hexp, hgo, rfl, hr1, ⟨h3, h4⟩, _, _⟩ | ⟨x, hexp, hx0, hx100, rfl⟩⟩
  · have hS := Hsm.out S s htk h4
    obtain rfl : X = (out, p, k, 0) := HX.out.trans hexp
    have hs1 := hb1.size
    have Hgo := Lib.hid hgo; have Hr1 := Lib.hid hr1; have Htk := Lib.hid htk
    clear hgo hr1 htk hexp HX Hsv Hsm
    have hne : (S : Int) ≤ 2147483647 := by omega
    unfold surV
    obtain ⟨m, hm⟩ : ∃ m, m = n - s := ⟨_, rfl⟩
    have hmn : m ≤ n := by omega
    rw [← hm] at Hr1 ⊢
    clear hm
    go_wp2_with fail
    refine (show Calls Try.prog 24 #[surV S (.slice D m (c - s)) p k] _ _ from expanded_c S m (c - s) p k p k D (l.drop s) out _ ((Hr1.out.alloc hs1 _).more (by simp; omega)) (by omega) hS Hgo.out).mono ?_
    rintro e w2 ⟨A2, c2, rfl, hown2, hb2⟩
    have hs2 := hb2.size
    go_wp2
    go_ret2
    refine ⟨A2, c2, rfl, hown2.mono (by simp; omega), (hb1.trans ((Below.refl _ _).alloc hs1 _)).trans (hb2.mono (by simp; omega))⟩
  · obtain rfl : X = ([], 0, 0, x) := HX.out.trans hexp
    have hx0' : ((x : Int) == 0) = false := by simp; omega
    clear hexp HX Hsv Hsm
    unfold surV
    go_wp2
    go_ret2
    exact ⟨none, 0, rfl, Own.nil _ _ _, hb1.trans ((Below.refl _ _).alloc hb1.size _)⟩

set_option maxRecDepth 100000 in
/-- press.Marks -/
theorem marks_c (A : Option Addr) (n c : Nat) (l : List UInt8) (w : World) (hr : Rb w w.heap.size A n c l) (hn : n ≤ 900000) :
    Calls Try.prog 13 #[.slice A n c] w fun e w' => e = .returned (.tuple #[.int .i64 ((Pm.expS l 20000).2.1 : Nat), .int .i64 ((Pm.expS l 20000).2.2.1 : Nat), .int .i64 ((Pm.expS l 20000).2.2.2 : Nat)]) ∧ Below w.heap.size w w' := by
  have hsv := surveyed_c A n c w.heap.size l 20000 w hr (Nat.le_refl _) hn (by unfold I64; omega)
  have Hsv := Lib.hid hsv
  clear hsv hr
  obtain ⟨X, hX⟩ : ∃ X, X = Pm.expS l 20000 := ⟨_, rfl⟩
  rw [← hX]
  have HX := Lib.hid hX; clear hX
  go_enter Try.func13, Try.ntmps13
  go_wp2_with fail
  refine Hsv.out.mono ?_
  rintro e w1 ⟨hb1, ⟨S, s, D, out, p, k, htk, hexp, hgo, rfl, hr1, ⟨h3, h4⟩, _, _⟩ | ⟨x, hexp, hx0, hx100, rfl⟩⟩
  · obtain rfl : X = (out, p, k, 0) := HX.out.trans hexp
    have hs1 := hb1.size
    clear hgo hr1 htk hexp HX Hsv
    unfold surV
    go_wp2_with fail
    go_quiet (fail)
    go_wp2
    go_ret3
    exact ⟨rfl, below_drewN (hb1.trans ((Below.refl _ _).alloc hb1.size _)) _⟩
  · obtain rfl : X = ([], 0, 0, x) := HX.out.trans hexp
    have hx0' : ((x : Int) == 0) = false := by simp; omega
    clear hexp HX Hsv
    unfold surV
    go_wp2
    go_ret3
    exact ⟨rfl, hb1.trans ((Below.refl _ _).alloc hb1.size _)⟩
end Go.Proofs.Ytaomeoppgbigjaa
