/-
  The walk of the law PressTold.
-/
import Derived.Test.YtaomeoppgbigjaaP17
import Derived.Test.YtaomeoppgbigjaaP8
namespace Go.Proofs.Ytaomeoppgbigjaa
open Go.RowKit

set_option maxRecDepth 100000 in
set_option maxHeartbeats 1600000 in
theorem pressTold_walk (A : Option Addr) (n c : Nat) (l : List UInt8) (w : World) (hr : Rb w w.heap.size A n c l) :
    Calls Try.prog 3 #[.slice A n c] w fun e w' => e = .returned (.bool true) ∧ Below w.heap.size w w' := by
  have hl := hr.len
  have han : n ≤ 9223372036854775807 := by have := hr.2.2.1; have := hr.2.1; unfold maxLen at *; omega
  have Hr := Lib.hid hr; have Hl := Lib.hid hl
  clear hr hl
  by_cases h1 : 600 < n
  · go_enter Try.func3, Try.ntmps3
    go_wp2_with fail
    refine (alive_c _).mono ?_
    rintro e w2 ⟨rfl, hb2⟩
    go_wp2
    go_ret
    exact ⟨rfl, hb2⟩
  · obtain ⟨X, hX⟩ : ∃ X, X = Pm.pressS l := ⟨_, rfl⟩
    obtain ⟨N, hN⟩ : ∃ N, N = X.length := ⟨_, rfl⟩
    have hp1 := fun W A c (h : Rb W W.heap.size A n c l) => press_c A n c l W h (by omega)
    have hp2 := fun W A c (h : Rb W W.heap.size A n c l) => rpress_c A n c l W h (by omega)
    unfold RetP at hp1 hp2
    rw [← hX, ← hN] at hp1 hp2
    have HN := Lib.hid hN; have Hp1 := Lib.hid hp1; have Hp2 := Lib.hid hp2
    clear hX hN hp1 hp2
    go_enter Try.func3, Try.ntmps3
    go_wp2_with (at_builtin; go_must (refine bty.wpApp rfl (.tmp 12) (.tmp 13) rfl (l := []) (r := l) rfl rfl (Own.made0 _ _) (Hr.out.alloc (Nat.le_refl _) _) ?hs1 ?hs2 ?_))
    case hs1 => rw [Hl.out]; simp; omega
    case hs2 => simp
    intro A1 c1 w1 hown1 hb1
    have hb01 : Below w.heap.size w w1 := ((Below.refl _ _).alloc (Nat.le_refl _) _).trans hb1
    have hz1 := hb01.size
    have ebl : l.length = n := Hl.out
    have HR1 := Lib.hid (rb_len hown1.rb (m := n) (by simpa using ebl))
    rw [ebl]
    clear hown1 hb1 ebl
    go_wp2_with fail
    refine (Hp1.out _ _ _ HR1.out).mono ?_
    rintro e w2 ⟨A2, c2, rfl, hown2, hb2⟩
    have hz2 := hb2.size
    have HR2 := Lib.hid (rb_len hown2.rb HN.out.symm)
    have HR12 := Lib.hid ((HR1.out.below hb2).more hz2)
    have hb02 := hb01.trans (hb2.mono hz1)
    have HRl := Lib.hid ((Hr.out.below hb02).more hb02.size)
    clear hown2 hb2 hb01
    go_wp2_with fail
    refine (Hp2.out _ _ _ HRl.out).mono ?_
    rintro e w3 ⟨A3, c3, rfl, hown3, hb3⟩
    have hz3 := hb3.size
    have HR3 := Lib.hid (rb_len hown3.rb HN.out.symm)
    have HR23 := Lib.hid ((HR2.out.below hb3).more hz3)
    have HR13 := Lib.hid ((HR12.out.below hb3).more hz3)
    have HRl3 := Lib.hid ((HRl.out.below hb3).more hz3)
    have hb03 := hb02.trans (hb3.mono hb02.size)
    clear hown3 hb3 hb02
    go_wp2_with fail
    refine (alive_c _).mono ?_
    rintro e w4 ⟨rfl, hb4⟩
    have q1 := bty.conv (HR23.out.below hb4)
    have q2 := bty.conv (HR3.out.below hb4)
    have q3 := bty.conv (HR13.out.below hb4)
    have q4 := bty.conv (HRl3.out.below hb4)
    have hb04 := hb03.trans (hb4.mono hb03.size)
    clear hb4 hb03
    go_wp2
    go_ret
    exact ⟨by simp, hb04⟩
end Go.Proofs.Ytaomeoppgbigjaa
