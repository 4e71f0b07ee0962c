/-
  The walk of the law PressExpand.
-/
import Derived.Test.YtaomeoppgbigjaaP17
import Derived.Test.YtaomeoppgbigjaaP18
namespace Go.Proofs.Ytaomeoppgbigjaa
open Go.RowKit

set_option maxRecDepth 100000 in
set_option maxHeartbeats 1600000 in
theorem pressExpand_at (A : Option Addr) (n c : Nat) (l : List UInt8) (kk k : Int) (w : World) (hr : Rb w w.heap.size A n c l) (hk : I64 kk) (h6 : n ≤ 600) (hkk : k = kk ∧ kk ≤ 20000 ∨ k = 20000 ∧ 20000 < kk) :
    Calls Try.prog 4 #[.slice A n c, .int .i64 kk] w fun e w' => e = .returned (.bool true) ∧ Below w.heap.size w w' := by
  have hl := hr.len
  have hk20 : k ≤ 20000 := by omega
  have hki : I64 k := by unfold I64 at *; omega
  obtain ⟨X, hX⟩ : ∃ X, X = Pm.expS l k := ⟨_, rfl⟩
  obtain ⟨Y, hY⟩ : ∃ Y, Y = Pm.expS l 20000 := ⟨_, rfl⟩
  have he1 := fun W A c (h : Rb W W.heap.size A n c l) => expand_c A n c l k W h (by omega) hki (fun S s _ hS => by omega)
  have he2 := fun W A c (h : Rb W W.heap.size A n c l) => rExpand_c A n c l k W h (by omega) hki (by omega)
  have hm1 := fun W A c (h : Rb W W.heap.size A n c l) => marks_c A n c l W h (by omega)
  have hm2 := fun W A c (h : Rb W W.heap.size A n c l) => rMarks_c A n c l W h (by omega)
  unfold RetX at he1
  unfold RetY at he2
  rw [← hX] at he1 he2
  rw [← hY] at hm1 hm2
  obtain ⟨out, p, q, x⟩ := X
  obtain ⟨out2, p2, q2, x2⟩ := Y
  dsimp only at he1 he2 hm1 hm2
  obtain ⟨N, hN⟩ : ∃ N, N = out.length := ⟨_, rfl⟩
  rw [← hN] at he1 he2
  have HN := Lib.hid hN; have He1 := Lib.hid he1; have He2 := Lib.hid he2; have Hm1 := Lib.hid hm1; have Hm2 := Lib.hid hm2
  have Hr := Lib.hid hr; have Hl := Lib.hid hl
  clear hX hY hN he1 he2 hm1 hm2 hr hl hki hk
  have hmin : min kk 20000 = k := by omega
  rcases hkk with ⟨rfl, hle⟩ | ⟨rfl, hlt⟩
  · clear hmin
    go_enter Try.func4, Try.ntmps4
    go_wp2_with (at_builtin; go_must (refine bty.wpApp rfl (.tmp 21) (.tmp 22) rfl (l := []) (r := l) rfl rfl (Own.made0 _ _) (Hr.out.alloc (Nat.le_refl _) _) ?hs1 ?hs2 ?_))
    case hs1 => rw [Hl.out]; simp; omega
    case hs2 => simp
    intro A1 c1 w1 hown1 hb1
    have hb01 : Below w.heap.size w w1 := ((Below.refl _ _).alloc (Nat.le_refl _) _).trans hb1
    have hz1 := hb01.size
    have ebl : l.length = n := Hl.out
    have HR1 := Lib.hid (rb_len hown1.rb (m := n) (by simpa using ebl))
    rw [ebl]
    clear hown1 hb1 ebl
    go_wp2_with fail
    refine (He1.out _ _ _ HR1.out).mono ?_
    rintro e w2 ⟨A2, c2, rfl, hown2, hb2⟩
    have hz2 := hb2.size
    have HR2 := Lib.hid (rb_len hown2.rb HN.out.symm)
    have HR12 := Lib.hid ((HR1.out.below hb2).more hz2)
    have hb02 := hb01.trans (hb2.mono hz1)
    have hz02 := hb02.size
    have HRl := Lib.hid ((Hr.out.below hb02).more hz02)
    clear hown2 hb2 hb01
    go_wp2_with fail
    refine (He2.out _ _ _ HRl.out).mono ?_
    rintro e w3 ⟨A3, c3, rfl, hown3, hb3⟩
    have hz3 := hb3.size
    have HR3 := Lib.hid (rb_len hown3.rb HN.out.symm)
    have HR23 := Lib.hid ((HR2.out.below hb3).more hz3)
    have HR13 := Lib.hid ((HR12.out.below hb3).more hz3)
    have HRl3 := Lib.hid ((HRl.out.below hb3).more hz3)
    have hb03 := hb02.trans (hb3.mono hz02)
    have hz03 := hb03.size
    clear hown3 hb3 hb02
    go_wp2_with fail
    refine (Hm1.out _ _ _ HR13.out).mono ?_
    rintro e w4 ⟨rfl, hb4⟩
    have hz4 := hb4.size
    have HR34 := Lib.hid ((HR3.out.below hb4).more hz4)
    have HR24 := Lib.hid ((HR23.out.below hb4).more hz4)
    have HR14 := Lib.hid ((HR13.out.below hb4).more hz4)
    have HRl4 := Lib.hid ((HRl3.out.below hb4).more hz4)
    have hb04 := hb03.trans (hb4.mono hz03)
    have hz04 := hb04.size
    clear hb4 hb03
    go_wp2_with fail
    refine (Hm2.out _ _ _ HRl4.out).mono ?_
    rintro e w5 ⟨rfl, hb5⟩
    have hz5 := hb5.size
    have HR35 := Lib.hid ((HR34.out.below hb5).more hz5)
    have HR25 := Lib.hid ((HR24.out.below hb5).more hz5)
    have HR15 := Lib.hid ((HR14.out.below hb5).more hz5)
    have HRl5 := Lib.hid ((HRl4.out.below hb5).more hz5)
    have hb05 := hb04.trans (hb5.mono hz04)
    have hz05 := hb05.size
    clear hb5 hb04
    go_wp2_with fail
    refine (alive_c _).mono ?_
    rintro e w6 ⟨rfl, hb6⟩
    have q1 := bty.conv (HR25.out.below hb6)
    have q2 := bty.conv (HR35.out.below hb6)
    have q3 := bty.conv (HR15.out.below hb6)
    have q4 := bty.conv (HRl5.out.below hb6)
    have hb06 := hb05.trans (hb6.mono hz05)
    clear hb6 hb05
    go_wp2
    go_ret
    exact ⟨by simp, hb06⟩
  · clear hmin
    go_enter Try.func4, Try.ntmps4
    go_wp2_with (at_builtin; go_must (refine bty.wpApp rfl (.tmp 21) (.tmp 22) rfl (l := []) (r := l) rfl rfl (Own.made0 _ _) (Hr.out.alloc (Nat.le_refl _) _) ?hs1 ?hs2 ?_))
    case hs1 => rw [Hl.out]; simp; omega
    case hs2 => simp
    intro A1 c1 w1 hown1 hb1
    have hb01 : Below w.heap.size w w1 := ((Below.refl _ _).alloc (Nat.le_refl _) _).trans hb1
    have hz1 := hb01.size
    have ebl : l.length = n := Hl.out
    have HR1 := Lib.hid (rb_len hown1.rb (m := n) (by simpa using ebl))
    rw [ebl]
    clear hown1 hb1 ebl
    go_wp2_with fail
    refine (He1.out _ _ _ HR1.out).mono ?_
    rintro e w2 ⟨A2, c2, rfl, hown2, hb2⟩
    have hz2 := hb2.size
    have HR2 := Lib.hid (rb_len hown2.rb HN.out.symm)
    have HR12 := Lib.hid ((HR1.out.below hb2).more hz2)
    have hb02 := hb01.trans (hb2.mono hz1)
    have hz02 := hb02.size
    have HRl := Lib.hid ((Hr.out.below hb02).more hz02)
    clear hown2 hb2 hb01
    go_wp2_with fail
    refine (He2.out _ _ _ HRl.out).mono ?_
    rintro e w3 ⟨A3, c3, rfl, hown3, hb3⟩
    have hz3 := hb3.size
    have HR3 := Lib.hid (rb_len hown3.rb HN.out.symm)
    have HR23 := Lib.hid ((HR2.out.below hb3).more hz3)
    have HR13 := Lib.hid ((HR12.out.below hb3).more hz3)
    have HRl3 := Lib.hid ((HRl.out.below hb3).more hz3)
    have hb03 := hb02.trans (hb3.mono hz02)
    have hz03 := hb03.size
    clear hown3 hb3 hb02
    go_wp2_with fail
    refine (Hm1.out _ _ _ HR13.out).mono ?_
    rintro e w4 ⟨rfl, hb4⟩
    have hz4 := hb4.size
    have HR34 := Lib.hid ((HR3.out.below hb4).more hz4)
    have HR24 := Lib.hid ((HR23.out.below hb4).more hz4)
    have HR14 := Lib.hid ((HR13.out.below hb4).more hz4)
    have HRl4 := Lib.hid ((HRl3.out.below hb4).more hz4)
    have hb04 := hb03.trans (hb4.mono hz03)
    have hz04 := hb04.size
    clear hb4 hb03
    go_wp2_with fail
    refine (Hm2.out _ _ _ HRl4.out).mono ?_
    rintro e w5 ⟨rfl, hb5⟩
    have hz5 := hb5.size
    have HR35 := Lib.hid ((HR34.out.below hb5).more hz5)
    have HR25 := Lib.hid ((HR24.out.below hb5).more hz5)
    have HR15 := Lib.hid ((HR14.out.below hb5).more hz5)
    have HRl5 := Lib.hid ((HRl4.out.below hb5).more hz5)
    have hb05 := hb04.trans (hb5.mono hz04)
    have hz05 := hb05.size
    clear hb5 hb04
    go_wp2_with fail
    refine (alive_c _).mono ?_
    rintro e w6 ⟨rfl, hb6⟩
    have q1 := bty.conv (HR25.out.below hb6)
    have q2 := bty.conv (HR35.out.below hb6)
    have q3 := bty.conv (HR15.out.below hb6)
    have q4 := bty.conv (HRl5.out.below hb6)
    have hb06 := hb05.trans (hb6.mono hz05)
    clear hb6 hb05
    go_wp2
    go_ret
    exact ⟨by simp, hb06⟩

theorem pressExpand_walk (A : Option Addr) (n c : Nat) (l : List UInt8) (k : Int) (w : World) (hr : Rb w w.heap.size A n c l) (hk : I64 k) :
    Calls Try.prog 4 #[.slice A n c, .int .i64 k] w fun e w' => e = .returned (.bool true) ∧ Below w.heap.size w w' := by
  by_cases h1 : 600 < n
  · have han : n ≤ 9223372036854775807 := by have := hr.2.2.1; have := hr.2.1; unfold maxLen at *; omega
    have Hk := Lib.hid hk
    clear hr hk
    go_enter Try.func4, Try.ntmps4
    go_wp2_with fail
    refine (alive_c _).mono ?_
    rintro e w2 ⟨rfl, hb2⟩
    go_wp2
    go_ret
    exact ⟨rfl, hb2⟩
  · by_cases h2 : k ≤ 20000
    · exact pressExpand_at A n c l k k w hr hk (by omega) (.inl ⟨rfl, h2⟩)
    · exact pressExpand_at A n c l k 20000 w hr hk (by omega) (.inr ⟨rfl, by omega⟩)
end Go.Proofs.Ytaomeoppgbigjaa
