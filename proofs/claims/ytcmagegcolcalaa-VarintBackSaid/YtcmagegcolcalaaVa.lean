/-
  threshinglaw01.alive: it returns true.
-/
import Derived.Test.YtcmagegcolcalaaVq
namespace Go.Proofs.Ytcmagegcolcalaa
open Go.RowKit

theorem vb300 : Vm.vb 300 = [172, 2] := by rw [Vm.vb_ge 300 (by omega), Vm.vb_lt _ (by omega)]; rfl

theorem put300 (w : World) : Calls Try.prog 10 #[.slice none 0 0, .int .u64 300] w (RetB w.heap.size w [172, 2]) := by
  have h := put_c none 0 0 [] 300 w (Rb.nil _ _) (by omega) (by omega)
  rw [vb300] at h
  exact h

theorem takeLit (w : World) (A : Option Addr) (n c : Nat) (l r : List UInt8) (a x : Nat) (hr : Rb w w.heap.size A n c l) (hn : n ≤ 1000000) (h : takeS l = (a, r, x)) :
    Calls Try.prog 17 #[.slice A n c] w (RetT w.heap.size w (a, r, x)) := by
  have h' := take_c A n c l w hr hn
  rw [h] at h'
  exact h'

set_option maxRecDepth 100000 in
theorem alive_c (w : World) : Calls Try.prog 9 #[] w fun e w' => e = .returned (.bool true) ∧ Below w.heap.size w w' := by
  have t1 : takeS [172, 2] = (300, [], 0) := by decide
  have t2 : takeS [128] = (0, [], 2) := by decide
  have T1 := Lib.hid t1; have T2 := Lib.hid t2; clear t1 t2
  go_enter Try.func9, Try.ntmps9
  go_wp2_with fail
  refine (takeLit _ _ 2 2 [172, 2] [] 300 0 ?_ (by omega) T1.out).mono ?_
  · exact (Own.lit w 5 _ [172, 2] rfl (by simp)).rb
  rintro e w1 ⟨A1, c1, rfl, hown1, hb1⟩
  rw [World.size_alloc] at hb1
  have hz1 : w.heap.size + 1 ≤ w1.heap.size := by have := hb1.size; simpa using this
  go_wp2_with fail
  refine (takeLit _ _ 1 1 [128] [] 0 2 ?_ (by omega) T2.out).mono ?_
  · exact (Own.lit w1 5 _ [128] rfl (by simp)).rb
  rintro e w2 ⟨A2, c2, rfl, hown2, hb2⟩
  rw [World.size_alloc] at hb2
  have hz2 : w1.heap.size + 1 ≤ w2.heap.size := by have := hb2.size; simpa using this
  go_wp2_with fail
  refine (put300 _).mono ?_
  rintro e w3 ⟨A3, c3, rfl, hown3, hb3⟩
  have hcv : (convert 22 9 (.slice A3 2 c3)).run Try.prog w3 = .ok (.string ⟨#[172, 2]⟩) w3 := bty.conv hown3.rb
  go_wp2
  go_ret
  exact ⟨rfl, ((((Below.refl _ _).alloc (Nat.le_refl _) _).trans (hb1.mono (Nat.le_succ _))).trans ((((Below.refl _ _).alloc (by omega) _).trans (hb2.mono (by omega))))).trans (hb3.mono (by omega))⟩
end Go.Proofs.Ytcmagegcolcalaa
