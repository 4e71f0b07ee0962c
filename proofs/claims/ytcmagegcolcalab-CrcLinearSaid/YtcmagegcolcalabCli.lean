/-
  The walk of the law CrcLinear.
-/
import Derived.Test.YtcmagegcolcalabCl
import Derived.Deep.RegionLaw
namespace Go.Proofs.Ytcmagegcolcalab
open Go.RowKit

def LinRel (w : World) (a b c : List UInt8) (x i : Value) (wr : World) : Prop :=
  ∃ A d, ∃ k : Nat, k ≤ a.length ∧ x = .slice A k d ∧ i = .int .i64 (k : Int) ∧ Hid (Own wr 5 w.heap.size A d (Cm.xor3 (a.take k) (b.take k) (c.take k)) ∧ (Cm.xor3 (a.take k) (b.take k) (c.take k)).length = k) ∧ Below w.heap.size w wr

set_option maxRecDepth 100000 in
set_option maxHeartbeats 1600000 in
theorem crcLinear_walk (A : Option Addr) (n c : Nat) (a : List UInt8) (B : Option Addr) (m d : Nat) (b : List UInt8) (C : Option Addr) (p f : Nat) (l : List UInt8) (w : World) (ha : Rb w w.heap.size A n c a) (hb : Rb w w.heap.size B m d b) (hc : Rb w w.heap.size C p f l) :
    Calls Try.prog 7 #[.slice A n c, .slice B m d, .slice C p f] w fun e w' => e = .returned (.bool true) ∧ Below w.heap.size w w' := by
  have hal := ha.len
  have hbl := hb.len
  have hcl := hc.len
  have han : n ≤ 9223372036854775807 := by have := ha.2.2.1; have := ha.2.1; unfold maxLen at *; omega
  have hbn : m ≤ 9223372036854775807 := by have := hb.2.2.1; have := hb.2.1; unfold maxLen at *; omega
  have hcn : p ≤ 9223372036854775807 := by have := hc.2.2.1; have := hc.2.1; unfold maxLen at *; omega
  have Ha := Lib.hid ha; have Hb := Lib.hid hb; have Hc := Lib.hid hc; have Hal := Lib.hid hal; have Hbl := Lib.hid hbl; have Hcl := Lib.hid hcl
  clear ha hb hc hal hbl hcl
  by_cases h1 : 3000 < n
  · go_enter Try.func7, Try.ntmps7
    go_wp2_with fail
    refine (alive_c _).mono ?_
    rintro e w2 ⟨rfl, hb2⟩
    go_wp2
    go_ret
    exact ⟨rfl, hb2⟩
  · by_cases h2 : m = n
    · by_cases h3 : p = n
      · obtain rfl : n = p := h3.symm
        obtain rfl : n = m := h2.symm
        obtain ⟨P, hP⟩ : ∃ P, P = Cm.sum Cm.tab a := ⟨_, rfl⟩
        obtain ⟨Q, hQ⟩ : ∃ Q, Q = Cm.sum Cm.tab b := ⟨_, rfl⟩
        obtain ⟨R, hR⟩ : ∃ R, R = Cm.sum Cm.tab l := ⟨_, rfl⟩
        obtain ⟨S, hS⟩ : ∃ S, S = Cm.sum Cm.tab (Cm.xor3 a b l) := ⟨_, rfl⟩
        have hsum : P ^^^ Q ^^^ R = S := by rw [hP, hQ, hR, hS]; exact Cm.sum_xor3 a b l (by rw [Hal.out, Hbl.out]) (by rw [Hal.out, Hcl.out])
        have hPl : P < 4294967296 := by rw [hP]; exact Cm.sum_lt _ Cm.tab_lt _
        have hQl : Q < 4294967296 := by rw [hQ]; exact Cm.sum_lt _ Cm.tab_lt _
        have hRl : R < 4294967296 := by rw [hR]; exact Cm.sum_lt _ Cm.tab_lt _
        have hx1 : bits .xor .u32 (P : Int) (Q : Int) = ((P ^^^ Q : Nat) : Int) := xor32 _ _ rfl rfl hPl hQl
        have hx2 : bits .xor .u32 ((P ^^^ Q : Nat) : Int) (R : Int) = (S : Int) := by rw [← hsum]; exact xor32 _ _ rfl rfl (Cm.xor_lt hPl hQl) hRl
        obtain ⟨X, hX⟩ : ∃ X, X = P ^^^ Q := ⟨_, rfl⟩
        rw [← hX] at hx1 hx2
        have HP := Lib.hid hP; have HQ := Lib.hid hQ; have HR := Lib.hid hR; have HS := Lib.hid hS; have HX1 := Lib.hid hx1; have HX2 := Lib.hid hx2
        clear hP hQ hR hS hsum hx1 hx2 hX hPl hQl hRl
        go_enter Try.func7, Try.ntmps7
        go_wp2
        go_loopw [7, 8] (fun x i wr => LinRel w a b l x i wr) (fun _ i _ => n - (intOf i).toNat)
        case atStart => exact ⟨_, _, 0, by omega, rfl, rfl, Lib.hid ⟨Own.made0 _ _, rfl⟩, (Below.refl _ _).alloc (Nat.le_refl _) _⟩
        case round =>
          obtain ⟨D, e, k, hk, rfl, rfl, Hown, hbb⟩ := hrel
          have hzz := hbb.size
          by_cases hlt : k < n
          · obtain ⟨b1, o1, x1, rfl, hb1, hc1, hx1, hd1⟩ := (Ha.out.below hbb).at_ hlt
            obtain ⟨b2, o2, x2, rfl, hb2, hc2, hx2, hd2⟩ := (Hb.out.below hbb).at_ hlt
            obtain ⟨b3, o3, x3, rfl, hb3, hc3, hx3, hd3⟩ := (Hc.out.below hbb).at_ hlt
            have hsn := Cm.xor3_snoc a b l k x1 x2 x3 hx1 hx2 hx3
            have t1 := x1.toNat_lt
            have t2 := x2.toNat_lt
            have t3 := x3.toNat_lt
            have hxa : bits .xor .u8 (x1.toNat : Int) (x2.toNat : Int) = (((x1 ^^^ x2).toNat : Nat) : Int) := by rw [UInt8.toNat_xor]; exact xor8 _ _ rfl rfl (by omega) (by omega)
            obtain ⟨y, hy⟩ : ∃ y, y = x1 ^^^ x2 := ⟨_, rfl⟩
            rw [← hy] at hxa hsn
            have t4 := y.toNat_lt
            have hxb : bits .xor .u8 (y.toNat : Int) (x3.toNat : Int) = (((y ^^^ x3).toNat : Nat) : Int) := by rw [UInt8.toNat_xor]; exact xor8 _ _ rfl rfl (by omega) (by omega)
            obtain ⟨z, hz⟩ : ∃ z, z = y ^^^ x3 := ⟨_, rfl⟩
            rw [← hz] at hxb hsn
            have Hsn := Lib.hid hsn; clear hsn hy hz hx1 hx2 hx3 hd1 hd2 hd3
            have hkl : (k : Int) < (n : Int) := by omega
            obtain ⟨L, hL⟩ : ∃ L, L = Cm.xor3 (a.take k) (b.take k) (l.take k) := ⟨_, rfl⟩
            rw [← hL] at Hown Hsn
            have hLk : L.length ≤ 3000 := by rw [Hown.out.2]; omega
            clear hL
            go_wp2
            go_region_law (refine bty.stepAppW (by rfl) (.tmp 43) (.tmp 58) rfl (l := L) (r := [z]) (n := k) Hown.out.2.symm rfl rfl (base := w.heap.size) ((Hown.out.1.alloc _).drewN 1) ((Rb.oneI wr _ _ z rfl).drewN 1) (by simp; omega) (by simp; omega) ?_; intro A4 c4 w4 hown4 hb4)
            all_goals
              go_wp2
              go_roundw
              case rel =>
                refine ⟨A4, c4, k + 1, by rw [Hal.out]; omega, ?_, by go_num, Lib.hid ⟨?_, ?_⟩, hbb.trans ((((Below.refl _ _).alloc hzz _)).trans ⟨hb4.os, hb4.tape, hb4.output, hb4.size, hb4.block⟩)⟩
                · simp [Hown.out.2]
                · rw [Hsn.out]; exact hown4
                · rw [Hsn.out]; simp [Hown.out.2]
              case measure => simp [intOf]; omega
          · obtain rfl : k = n := by rw [Hal.out] at hk; omega
            have hfin : Own wr 5 w.heap.size D e (Cm.xor3 a b l) ∧ (Cm.xor3 a b l).length = k := by
              have := Hown.out
              rw [List.take_of_length_le (by rw [Hal.out]; omega), List.take_of_length_le (by rw [Hbl.out]; omega), List.take_of_length_le (by rw [Hcl.out]; omega)] at this
              exact this
            have Hr7 := Lib.hid (Own.rbl hfin)
            have Ha7 := Lib.hid ((Ha.out.below hbb).more hzz)
            have Hb7 := Lib.hid ((Hb.out.below hbb).more hzz)
            have Hc7 := Lib.hid ((Hc.out.below hbb).more hzz)
            clear hfin Hown
            go_wp2_with fail
            refine (table_c _).mono ?_
            rintro e1 w1 ⟨rfl, ht, hb1, hsz1⟩
            have Ht := Lib.hid ht; clear ht
            have hb01 := hbb.trans (hb1.mono hzz)
            go_wp2_with fail
            refine (sum_ok _ 256 256 _ Cm.tab A k c _ a _ Ht.out rfl (Ha7.out.below hb1) (by omega) P HP.out).mono ?_
            rintro e2 w' ⟨rfl, rfl⟩
            go_wp2_with fail
            refine (sum_ok _ 256 256 _ Cm.tab B k d _ b _ Ht.out rfl (Hb7.out.below hb1) (by omega) Q HQ.out).mono ?_
            rintro e2 w' ⟨rfl, rfl⟩
            go_wp2_with fail
            refine (sum_ok _ 256 256 _ Cm.tab C k f _ l _ Ht.out rfl (Hc7.out.below hb1) (by omega) R HR.out).mono ?_
            rintro e2 w' ⟨rfl, rfl⟩
            go_wp2_with fail
            refine (sum_ok _ 256 256 _ Cm.tab D k e _ _ _ Ht.out rfl (Hr7.out.below hb1) (by omega) S HS.out).mono ?_
            rintro e2 w' ⟨rfl, rfl⟩
            have hx1 := HX1.out
            have hx2 := HX2.out
            go_wp2_with fail
            refine (alive_c _).mono ?_
            rintro e3 w2 ⟨rfl, hb2⟩
            go_wp2
            go_ret
            exact ⟨by simp, hb01.trans (hb2.mono hb01.size)⟩
      · have h3' : ((p : Int) != (n : Int)) = true := by simp; omega
        have h3'' : ((p : Int) == (n : Int)) = false := by simp; omega
        subst h2
        go_enter Try.func7, Try.ntmps7
        go_wp2_with fail
        refine (alive_c _).mono ?_
        rintro e w2 ⟨rfl, hb2⟩
        go_wp2
        go_ret
        exact ⟨rfl, hb2⟩
    · have h2' : ((m : Int) != (n : Int)) = true := by simp; omega
      have h2'' : ((m : Int) == (n : Int)) = false := by simp; omega
      go_enter Try.func7, Try.ntmps7
      go_wp2_with fail
      refine (alive_c _).mono ?_
      rintro e w2 ⟨rfl, hb2⟩
      go_wp2
      go_ret
      exact ⟨rfl, hb2⟩
end Go.Proofs.Ytcmagegcolcalab
