/-
  The walk of the law PressBack.
-/
import Derived.Test.YtaomeoppgbigjaaP17
namespace Go.Proofs.Ytaomeoppgbigjaa
open Go.RowKit

theorem press_tk (l : List UInt8) (h : l.length ≤ 20000) : Vm.tk (Pm.pressS l) = (l.length, (Vm.vb l.length).length, 0) := by
  unfold Pm.pressS
  exact Vm.tk_back _ _ (by omega)
theorem press_small (l : List UInt8) (h : l.length ≤ 20000) (most : Int) : ∀ S s, Vm.tk (Pm.pressS l) = (S, s, 0) → (S : Int) ≤ most → S ≤ 2147483647 := by
  intro S s hs _
  rw [press_tk l h] at hs
  injection hs with h1
  omega

set_option maxRecDepth 100000 in
set_option maxHeartbeats 1600000 in
theorem pressBack_walk (A : Option Addr) (n c : Nat) (l : List UInt8) (k : Int) (w : World) (hr : Rb w w.heap.size A n c l) (hk : I64 k) :
    Calls Try.prog 5 #[.slice A n c, .int .i64 k] w fun e w' => e = .returned (.bool true) ∧ Below w.heap.size w w' := by
  have hl := hr.len
  have han : n ≤ 9223372036854775807 := by have := hr.2.2.1; have := hr.2.1; unfold maxLen at *; omega
  have Hr := Lib.hid hr; have Hl := Lib.hid hl; have Hk := Lib.hid hk
  clear hr hl hk
  by_cases h1 : 600 < n
  · go_enter Try.func5, Try.ntmps5
    go_wp2_with fail
    refine (alive_c _).mono ?_
    rintro e w2 ⟨rfl, hb2⟩
    go_wp2
    go_ret
    exact ⟨rfl, hb2⟩
  · have hl6 : l.length ≤ 20000 := by have := Hl.out; omega
    have hln := Hl.out
    obtain ⟨X, hX⟩ : ∃ X, X = Pm.pressS l := ⟨_, rfl⟩
    obtain ⟨N, hN⟩ : ∃ N, N = X.length := ⟨_, rfl⟩
    have hNn : N ≤ n + n / 64 + 4 := by rw [hN, hX, ← hln]; exact Pm.press_len l hl6
    have hp1 := fun W A c (h : Rb W W.heap.size A n c l) => press_c A n c l W h (by omega)
    have hsm := press_small l hl6
    have hbk := fun most hm => Pm.press_back l hl6 most hm
    have hlg := fun most hm => Pm.press_large l hl6 most hm
    rw [← hX] at hsm hbk hlg
    rw [hln] at hbk hlg
    unfold RetP at hp1
    rw [← hX, ← hN] at hp1
    have he1 : ∀ W A c, Rb W W.heap.size A N c X → Calls Try.prog 11 #[.slice A N c, .int .i64 (n : Int)] W (RetX W.heap.size W l 0) := fun W A c h => by
      have := expand_c A N c X (n : Int) W h (by omega) (by unfold I64; omega) (hsm n)
      rw [hbk n (Int.le_refl _)] at this
      exact this
    have he2 : (n : Int) ≤ k → ∀ W A c, Rb W W.heap.size A N c X → Calls Try.prog 11 #[.slice A N c, .int .i64 k] W (RetX W.heap.size W l 0) := fun hkn W A c h => by
      have := expand_c A N c X k W h (by omega) Hk.out (hsm k)
      rw [hbk k hkn] at this
      exact this
    have he3 : k < (n : Int) → ∀ W A c, Rb W W.heap.size A N c X → Calls Try.prog 11 #[.slice A N c, .int .i64 k] W (RetX W.heap.size W [] 5) := fun hkn W A c h => by
      have := expand_c A N c X k W h (by omega) Hk.out (hsm k)
      rw [hlg k hkn] at this
      exact this
    unfold RetX at he1 he2 he3
    rw [hln] at he1 he2
    have HN := Lib.hid hN; have Hp1 := Lib.hid hp1; have He1 := Lib.hid he1; have He2 := Lib.hid he2; have He3 := Lib.hid he3
    clear hX hN hp1 he1 he2 he3 hsm hbk hlg hl6 hln
    by_cases hkn : k < (n : Int)
    · go_enter Try.func5, Try.ntmps5
      go_wp2_with fail
      refine (Hp1.out _ _ _ Hr.out).mono ?_
      rintro e w2 ⟨A2, c2, rfl, hown2, hb2⟩
      have hz2 := hb2.size
      have HR2 := Lib.hid (rb_len hown2.rb HN.out.symm)
      have HRl2 := Lib.hid ((Hr.out.below hb2).more hz2)
      have hb02 := hb2
      clear hown2 hb2
      go_wp2_with fail
      refine (He1.out _ _ _ HR2.out).mono ?_
      rintro e w3 ⟨A3, c3, rfl, hown3, hb3⟩
      have hz3 := hb3.size
      have HR3 := Lib.hid (rb_len hown3.rb Hl.out)
      have HR23 := Lib.hid ((HR2.out.below hb3).more hz3)
      have HRl3 := Lib.hid ((HRl2.out.below hb3).more hz3)
      have hb03 := hb02.trans (hb3.mono hz2)
      clear hown3 hb3 hb02
      go_wp2_with fail
      refine (He3.out hkn _ _ _ HR23.out).mono ?_
      rintro e w4 ⟨A4, c4, rfl, hown4, hb4⟩
      have hz4 := hb4.size
      have HR34 := Lib.hid ((HR3.out.below hb4).more hz4)
      have HRl4 := Lib.hid ((HRl3.out.below hb4).more hz4)
      have hb04 := hb03.trans (hb4.mono hb03.size)
      clear hown4 hb4 hb03
      go_wp2_with fail
      refine (alive_c _).mono ?_
      rintro e w5 ⟨rfl, hb5⟩
      have q1 := bty.conv (HR34.out.below hb5)
      have q2 := bty.conv (HRl4.out.below hb5)
      have hb05 := hb04.trans (hb5.mono hb04.size)
      clear hb5 hb04
      go_wp2
      go_ret
      exact ⟨by simp, hb05⟩
    · have hkn' : (n : Int) ≤ k := by omega
      clear hkn
      go_enter Try.func5, Try.ntmps5
      go_wp2_with fail
      refine (Hp1.out _ _ _ Hr.out).mono ?_
      rintro e w2 ⟨A2, c2, rfl, hown2, hb2⟩
      have hz2 := hb2.size
      have HR2 := Lib.hid (rb_len hown2.rb HN.out.symm)
      have HRl2 := Lib.hid ((Hr.out.below hb2).more hz2)
      have hb02 := hb2
      clear hown2 hb2
      go_wp2_with fail
      refine (He1.out _ _ _ HR2.out).mono ?_
      rintro e w3 ⟨A3, c3, rfl, hown3, hb3⟩
      have hz3 := hb3.size
      have HR3 := Lib.hid (rb_len hown3.rb Hl.out)
      have HR23 := Lib.hid ((HR2.out.below hb3).more hz3)
      have HRl3 := Lib.hid ((HRl2.out.below hb3).more hz3)
      have hb03 := hb02.trans (hb3.mono hz2)
      clear hown3 hb3 hb02
      go_wp2_with fail
      refine (He2.out hkn' _ _ _ HR23.out).mono ?_
      rintro e w4 ⟨A4, c4, rfl, hown4, hb4⟩
      have hz4 := hb4.size
      have HR4 := Lib.hid (rb_len hown4.rb Hl.out)
      have HR34 := Lib.hid ((HR3.out.below hb4).more hz4)
      have HRl4 := Lib.hid ((HRl3.out.below hb4).more hz4)
      have hb04 := hb03.trans (hb4.mono hb03.size)
      clear hown4 hb4 hb03
      go_wp2_with fail
      refine (alive_c _).mono ?_
      rintro e w5 ⟨rfl, hb5⟩
      have q1 := bty.conv (HR34.out.below hb5)
      have q2 := bty.conv (HRl4.out.below hb5)
      have q3 := bty.conv (HR4.out.below hb5)
      have hb05 := hb04.trans (hb5.mono hb04.size)
      clear hb5 hb04
      have hN' : (N : Int) ≤ (n : Int) + (n : Int) / 64 + 4 := by omega
      go_wp2
      go_ret
      exact ⟨by simp, hb05⟩
end Go.Proofs.Ytaomeoppgbigjaa
