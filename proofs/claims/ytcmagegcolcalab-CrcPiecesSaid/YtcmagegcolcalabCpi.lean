/-
  The walk of the law CrcPieces.
-/
import Derived.Test.YtcmagegcolcalabCl
namespace Go.Proofs.Ytcmagegcolcalab
open Go.RowKit

set_option maxRecDepth 100000 in
set_option maxHeartbeats 1600000 in
theorem crcPieces_walk (r : Int) (A : Option Addr) (n c : Nat) (a : List UInt8) (B : Option Addr) (m d : Nat) (b : List UInt8) (w : World) (hr : U32 r) (ha : Rb w w.heap.size A n c a) (hb : Rb w w.heap.size B m d b) :
    Calls Try.prog 5 #[.int .u32 r, .slice A n c, .slice B m d] w fun e w' => e = .returned (.bool true) ∧ Below w.heap.size w w' := by
  obtain ⟨q, rfl⟩ := Int.eq_ofNat_of_zero_le hr.1
  have hq : q < 4294967296 := by have := hr.2; omega
  have hal := ha.len
  have hbl := hb.len
  have han : n ≤ 9223372036854775807 := by have := ha.2.2.1; have := ha.2.1; unfold maxLen at *; omega
  have hbn : m ≤ 9223372036854775807 := by have := hb.2.2.1; have := hb.2.1; unfold maxLen at *; omega
  have Ha := Lib.hid ha; have Hb := Lib.hid hb; have Hal := Lib.hid hal; have Hbl := Lib.hid hbl; have Hq := Lib.hid hq
  clear ha hb hal hbl hq hr
  by_cases h1 : 3000 < n
  · go_enter Try.func5, Try.ntmps5
    go_wp2_with fail
    refine (alive_c _).mono ?_
    rintro e w2 ⟨rfl, hb2⟩
    go_wp2
    go_ret
    exact ⟨rfl, hb2⟩
  · by_cases h2 : 3000 < m
    · go_enter Try.func5, Try.ntmps5
      go_wp2_with fail
      refine (alive_c _).mono ?_
      rintro e w2 ⟨rfl, hb2⟩
      go_wp2
      go_ret
      exact ⟨rfl, hb2⟩
    · obtain ⟨x, hx⟩ : ∃ x, x = Cm.more Cm.tab q a := ⟨_, rfl⟩
      obtain ⟨y, hy⟩ : ∃ y, y = Cm.more Cm.tab x b := ⟨_, rfl⟩
      have hxl : x < 4294967296 := by rw [hx]; exact Cm.more_lt _ Cm.tab_lt _ _ Hq.out
      have hz : y = Cm.more Cm.tab q (a ++ b) := by rw [Cm.more_append, ← hx, ← hy]
      obtain ⟨S, hS⟩ : ∃ S, S = a ++ Cm.four (Cm.sum Cm.tab a) := ⟨_, rfl⟩
      have hS1 : Cm.sealS Cm.tab a = (S, 0) := by rw [hS]; exact sealS_ok _ _ Cm.tab_len
      have hS2 : S.length = n + 4 := by rw [hS, List.length_append, Hal.out]; rfl
      have hS3 : Cm.openS Cm.tab S = (a, 0) := by rw [hS]; exact Cm.open_seal _ Cm.tab_len _
      have Hx := Lib.hid hx; have Hy := Lib.hid hy; have Hxl := Lib.hid hxl; have Hz := Lib.hid hz; have H1 := Lib.hid hS1; have H2 := Lib.hid hS2; have H3 := Lib.hid hS3
      clear hx hy hxl hz hS hS1 hS2 hS3
      go_enter Try.func5, Try.ntmps5
      go_wp2_with fail
      refine (table_c _).mono ?_
      rintro e w1 ⟨rfl, ht, hb1, hsz1⟩
      have Ht := Lib.hid ht; clear ht
      have Ha1 := Lib.hid ((Ha.out.below hb1).more hb1.size)
      have Hb1 := Lib.hid ((Hb.out.below hb1).more hb1.size)
      go_wp2_with fail
      refine (more_ok _ 256 256 _ Cm.tab A n c _ a q _ Ht.out rfl Ha1.out (by omega) Hq.out x Hx.out).mono ?_
      rintro e w' ⟨rfl, rfl⟩
      go_wp2_with fail
      refine (more_ok _ 256 256 _ Cm.tab B m d _ b x _ Ht.out rfl Hb1.out (by omega) Hxl.out y Hy.out).mono ?_
      rintro e w' ⟨rfl, rfl⟩
      go_wp2_with (at_builtin; go_must (refine bty.wpApp rfl (.tmp 45) (.tmp 46) rfl (l := []) (r := a) rfl rfl (Own.made0 _ _) (Ha1.out.alloc (Nat.le_refl _) _) ?hs1 ?hs2 ?_))
      case hs1 => rw [Hal.out]; simp; omega
      case hs2 => simp
      intro A2 c2 w2 hown2 hb2
      have hb2' : Below w1.heap.size w1 w2 := ((Below.refl _ _).alloc (Nat.le_refl _) _).trans hb2
      have hz2 := hb2'.size
      have Hown2 := Lib.hid hown2; clear hown2 hb2
      go_wp2_with (at_builtin; go_must (refine bty.wpApp rfl (.tmp 47) (.tmp 48) rfl (l := a) (r := b) rfl rfl Hown2.out (Hb1.out.below hb2') ?hs3 ?hs4 ?_))
      case hs3 => rw [Hal.out, Hbl.out]; omega
      case hs4 => omega
      intro A3 c3 w3 hown3 hb3
      have hb3' := hb2'.trans hb3
      have hz3 := hb3'.size
      have Hr3 := Lib.hid hown3.rb
      have Ht3 := Lib.hid ((Ht.out.below hb3').more hz3)
      have Ha3 := Lib.hid ((Ha1.out.below hb3').more hz3)
      have hla : a.length ≤ 3000 := by rw [Hal.out]; omega
      have hlb : b.length ≤ 3000 := by rw [Hbl.out]; omega
      have hb03 := hb1.trans (hb3'.mono hb1.size)
      clear hown3 hb3 hb2' hb3'
      go_wp2_with fail
      refine (more_ok _ 256 256 _ Cm.tab A3 _ c3 _ (a ++ b) q _ Ht3.out rfl (rb_len Hr3.out (by simp)) (by omega) Hq.out y Hz.out).mono ?_
      rintro e w' ⟨rfl, rfl⟩
      go_wp2_with fail
      refine (seal_lit _ 256 256 Cm.tab A n c a _ Ht3.out (by omega) Ha3.out (by omega) S (n + 4) 0 H1.out H2.out).mono ?_
      rintro e w4 ⟨A4, c4, rfl, hown4, hb4⟩
      have hz4 := hb4.size
      have Hr4 := Lib.hid (Own.rbl hown4)
      have Ht4 := Lib.hid ((Ht3.out.below hb4).more hz4)
      have Ha4 := Lib.hid ((Ha3.out.below hb4).more hz4)
      have hb04 := hb03.trans (hb4.mono (Nat.le_trans hb1.size hz3))
      clear hown4 hb4 hb03
      go_wp2_with fail
      refine (open_lit _ 256 256 Cm.tab A4 (n + 4) c4 S _ Ht4.out (by omega) Hr4.out (by omega) a n 0 H3.out Hal.out).mono ?_
      rintro e w5 ⟨A5, c5, rfl, hown5, hb5⟩
      have hz5 := hb5.size
      have Hr5 := Lib.hid (Own.rbl hown5)
      have Ha5 := Lib.hid ((Ha4.out.below hb5).more hz5)
      have hb05 := hb04.trans (hb5.mono (Nat.le_trans (Nat.le_trans hb1.size hz3) hz4))
      clear hown5 hb5 hb04
      go_wp2_with fail
      refine (alive_c _).mono ?_
      rintro e w6 ⟨rfl, hb6⟩
      have hcv1 := bty.conv (Hr5.out.below hb6)
      have hcv2 := bty.conv (Ha5.out.below hb6)
      have hb06 := hb05.trans (hb6.mono hb05.size)
      clear hb05 hb6
      go_wp2
      go_ret
      exact ⟨by simp, hb06⟩
end Go.Proofs.Ytcmagegcolcalab
