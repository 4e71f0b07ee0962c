/-
  The walk of the law CrcFound.
-/
import Derived.Test.YtcmagegcolcalabCl
import Derived.Test.YtcmagegcolcalabLawN
namespace Go.Proofs.Ytcmagegcolcalab
open Go.RowKit

set_option maxRecDepth 100000 in
set_option maxHeartbeats 1600000 in
theorem crcFound_walk (A : Option Addr) (n c : Nat) (a : List UInt8) (at_ y : Int) (w : World) (ha : Rb w w.heap.size A n c a) (hat : I64 at_) (hy : B8 y) :
    Calls Try.prog 6 #[.slice A n c, .int .i64 at_, .int .u8 y] w fun e w' => e = .returned (.bool true) ∧ Below w.heap.size w w' := by
  obtain ⟨q, rfl⟩ := Int.eq_ofNat_of_zero_le hy.1
  have hq : q < 256 := by have := hy.2; omega
  have hal := ha.len
  have han : n ≤ 9223372036854775807 := by have := ha.2.2.1; have := ha.2.1; unfold maxLen at *; omega
  have Ha := Lib.hid ha; have Hal := Lib.hid hal; have Hat := Lib.hid hat
  clear ha hal hy hat
  by_cases h1 : 3000 < n
  · go_enter Try.func6, Try.ntmps6
    go_wp2_with fail
    refine (alive_c _).mono ?_
    rintro e w2 ⟨rfl, hb2⟩
    go_wp2
    go_ret
    exact ⟨rfl, hb2⟩
  · by_cases h2 : q = 0
    · subst h2
      go_enter Try.func6, Try.ntmps6
      go_wp2_with fail
      refine (alive_c _).mono ?_
      rintro e w2 ⟨rfl, hb2⟩
      go_wp2
      go_ret
      exact ⟨rfl, hb2⟩
    · have hq0 : ((q : Int) == 0) = false := by simp; omega
      obtain ⟨S, hS⟩ : ∃ S, S = a ++ Cm.four (Cm.sum Cm.tab a) := ⟨_, rfl⟩
      have hS1 : Cm.sealS Cm.tab a = (S, 0) := by rw [hS]; exact sealS_ok _ _ Cm.tab_len
      have hS2 : S.length = n + 4 := by rw [hS, List.length_append, Hal.out]; rfl
      have H1 := Lib.hid hS1; have H2 := Lib.hid hS2; have HS := Lib.hid hS
      clear hS hS1 hS2
      by_cases h3 : at_ < 0
      · go_enter Try.func6, Try.ntmps6
        go_wp2_with fail
        refine (table_c _).mono ?_
        rintro e w1 ⟨rfl, ht, hb1, hsz1⟩
        have Ht := Lib.hid ht; clear ht
        have Ha1 := Lib.hid ((Ha.out.below hb1).more hb1.size)
        go_wp2_with fail
        refine (seal_lit _ 256 256 Cm.tab A n c a _ Ht.out (by omega) Ha1.out (by omega) S (n + 4) 0 H1.out H2.out).mono ?_
        rintro e w4 ⟨A4, c4, rfl, hown4, hb4⟩
        have hb04 := hb1.trans (hb4.mono hb1.size)
        clear hown4 hb4
        go_wp2_with fail
        refine (alive_c _).mono ?_
        rintro e w2 ⟨rfl, hb2⟩
        go_wp2
        go_ret
        exact ⟨rfl, hb04.trans (hb2.mono hb04.size)⟩
      · by_cases h4 : (n : Int) + 4 ≤ at_
        · go_enter Try.func6, Try.ntmps6
          go_wp2_with fail
          refine (table_c _).mono ?_
          rintro e w1 ⟨rfl, ht, hb1, hsz1⟩
          have Ht := Lib.hid ht; clear ht
          have Ha1 := Lib.hid ((Ha.out.below hb1).more hb1.size)
          go_wp2_with fail
          refine (seal_lit _ 256 256 Cm.tab A n c a _ Ht.out (by omega) Ha1.out (by omega) S (n + 4) 0 H1.out H2.out).mono ?_
          rintro e w4 ⟨A4, c4, rfl, hown4, hb4⟩
          have hb04 := hb1.trans (hb4.mono hb1.size)
          clear hown4 hb4
          go_wp2_with fail
          refine (alive_c _).mono ?_
          rintro e w2 ⟨rfl, hb2⟩
          go_wp2
          go_ret
          exact ⟨rfl, hb04.trans (hb2.mono hb04.size)⟩
        · obtain ⟨k, rfl⟩ := Int.eq_ofNat_of_zero_le (show 0 ≤ at_ by omega)
          have hk : k < n + 4 := by omega
          have hkS : k < S.length := by rw [H2.out]; exact hk
          obtain ⟨x, hx⟩ : ∃ x, x = S[k] := ⟨_, rfl⟩
          have hxg : S[k]? = some x := by rw [hx]; exact List.getElem?_eq_getElem hkS
          obtain ⟨y, hyy⟩ : ∃ y : UInt8, y = UInt8.ofNat (x.toNat ^^^ q) := ⟨_, rfl⟩
          have hxl := x.toNat_lt
          have hyn : y.toNat = x.toNat ^^^ q := by rw [hyy, UInt8.toNat_ofNat']; exact Nat.mod_eq_of_lt (Cm.xor_lt8 (a := x.toNat) (b := q) (by omega) hq)
          have hxor : bits .xor .u8 (x.toNat : Int) (q : Int) = (y.toNat : Int) := by rw [hyn]; exact xor8 _ _ rfl rfl (by omega) hq
          have hne : x ≠ y := by
            intro e
            have h5 : x.toNat ^^^ 0 = x.toNat ^^^ q := by rw [Nat.xor_zero, ← hyn, ← e]
            have := Cm.xor_cancel h5
            omega
          have hS3 : Cm.openS Cm.tab (S.set k y) = ([], 4) := by
            rw [HS.out]
            refine Cm.open_spoilt a k (by rw [Hal.out]; exact hk) y ?_
            rw [← HS.out, hxg]
            intro e
            injection e with e
            exact hne e
          have hS4 : (S.set k y).length = n + 4 := by rw [List.length_set, H2.out]
          have H3 := Lib.hid hS3; have H4 := Lib.hid hS4; have Hxg := Lib.hid hxg
          clear hS3 hS4 hxg hyn hyy hx
          go_enter Try.func6, Try.ntmps6
          go_wp2_with fail
          refine (table_c _).mono ?_
          rintro e w1 ⟨rfl, ht, hb1, hsz1⟩
          have Ht := Lib.hid ht; clear ht
          have Ha1 := Lib.hid ((Ha.out.below hb1).more hb1.size)
          go_wp2_with fail
          refine (seal_lit _ 256 256 Cm.tab A n c a _ Ht.out (by omega) Ha1.out (by omega) S (n + 4) 0 H1.out H2.out).mono ?_
          rintro e w4 ⟨A4, c4, rfl, hown4, hb4⟩
          have hb04 := hb1.trans (hb4.mono hb1.size)
          obtain ⟨g, rfl, hg⟩ := hown4.1.at_base (by rw [H2.out]; omega)
          have hgw : w.heap.size ≤ g := Nat.le_trans hb1.size hg
          have hcell := hown4.1.cellAt k x Hxg.out
          have hfrz := hown4.1.frozenAt k
          have Hown := Lib.hid (hown4.1.set k y)
          clear hown4 hb4
          go_wp2_with fail
          refine (table_c _).mono ?_
          rintro e w5 ⟨rfl, ht5, hb5, hsz5⟩
          have ht5' : Rn w5 w5.heap.size (some ⟨w4.heap.size, 0, none⟩) 256 256 Cm.tab := by simpa using ht5
          have Ht5 := Lib.hid ht5'; clear ht5 ht5'
          have hb04s := hb04.setCell (p := ⟨g, k, none⟩) hgw (.int .u8 (y.toNat : Int))
          have Hr5 := Lib.hid (((rb_len Hown.out.rb H4.out).below hb5).more hb5.size)
          have hb05 := hb04s.trans (hb5.mono hb04s.size)
          clear hb5 hb04s hb04
          go_wp2_with fail
          with_reducible refine (open_lit _ 256 256 Cm.tab _ (n + 4) c4 (S.set k y) _ Ht5.out (by omega) Hr5.out (by omega) [] 0 4 H3.out rfl).mono ?_
          rintro e w6 ⟨A6, c6, rfl, hown6, hb6⟩
          have hb06 := hb05.trans (hb6.mono hb05.size)
          clear hown6 hb6 hb05
          go_wp2_with fail
          refine (alive_c _).mono ?_
          rintro e w7 ⟨rfl, hb7⟩
          go_wp2
          go_ret
          exact ⟨rfl, hb06.trans (hb7.mono hb06.size)⟩
end Go.Proofs.Ytcmagegcolcalab
