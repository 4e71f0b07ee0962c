/-
  The walk of the law CrcSums.
-/
import Derived.Test.YtcmagegcolcalabCr
namespace Go.Proofs.Ytcmagegcolcalab
open Go.RowKit

theorem more_lit (A : Option Addr) (n c B : Nat) (t : List Nat) (D : Option Addr) (m d B2 : Nat) (l : List UInt8) (r : Nat) (w : World) (v x : Nat) (h : numS t (Cm.more t r l) = (v, x)) (ht : Rn w B A n c t) (hn : n ≤ 300) (hl : Rb w B2 D m d l) (hm : m ≤ 1000000) (hr : r < 4294967296) :
    Calls Try.prog 12 #[.slice A n c, .int .u32 (r : Int), .slice D m d] w fun e w' => e = .returned (.tuple #[.int .u32 (v : Int), .int .i64 (x : Int)]) ∧ w = w' :=
  (more_c A n c B t D m d B2 l r w ht hn hl hm hr).mono fun e w' ⟨he, hw⟩ => ⟨by rw [he, h]; rfl, hw⟩
theorem rmore_lit (A : Option Addr) (n c B : Nat) (t : List Nat) (D : Option Addr) (m d B2 : Nat) (l : List UInt8) (r : Nat) (w : World) (v x : Nat) (h : numS t (Cm.more t r l) = (v, x)) (ht : Rn w B A n c t) (hn : n ≤ 300) (hl : Rb w B2 D m d l) (hm : m ≤ 1000000) (hr : r < 4294967296) :
    Calls Try.prog 13 #[.slice A n c, .int .u32 (r : Int), .slice D m d] w fun e w' => e = .returned (.tuple #[.int .u32 (v : Int), .int .i64 (x : Int)]) ∧ w = w' :=
  (rmore_c A n c B t D m d B2 l r w ht hn hl hm hr).mono fun e w' ⟨he, hw⟩ => ⟨by rw [he, h]; rfl, hw⟩
theorem sum_lit (A : Option Addr) (n c B : Nat) (t : List Nat) (D : Option Addr) (m d B2 : Nat) (l : List UInt8) (w : World) (v x : Nat) (h : numS t (Cm.sum t l) = (v, x)) (ht : Rn w B A n c t) (hn : n ≤ 300) (hl : Rb w B2 D m d l) (hm : m ≤ 1000000) :
    Calls Try.prog 14 #[.slice A n c, .slice D m d] w fun e w' => e = .returned (.tuple #[.int .u32 (v : Int), .int .i64 (x : Int)]) ∧ w = w' :=
  (sum_c A n c B t D m d B2 l w ht hn hl hm).mono fun e w' ⟨he, hw⟩ => ⟨by rw [he, h]; rfl, hw⟩
theorem rsum_lit (A : Option Addr) (n c B : Nat) (t : List Nat) (D : Option Addr) (m d B2 : Nat) (l : List UInt8) (w : World) (v x : Nat) (h : numS t (Cm.sum t l) = (v, x)) (ht : Rn w B A n c t) (hn : n ≤ 300) (hl : Rb w B2 D m d l) (hm : m ≤ 1000000) :
    Calls Try.prog 15 #[.slice A n c, .slice D m d] w fun e w' => e = .returned (.tuple #[.int .u32 (v : Int), .int .i64 (x : Int)]) ∧ w = w' :=
  (rsum_c A n c B t D m d B2 l w ht hn hl hm).mono fun e w' ⟨he, hw⟩ => ⟨by rw [he, h]; rfl, hw⟩
theorem rseal_lit (A : Option Addr) (n c : Nat) (t : List Nat) (D : Option Addr) (m d : Nat) (l : List UInt8) (w : World) (ht : Rn w w.heap.size A n c t) (hn : n ≤ 300) (hl : Rb w w.heap.size D m d l) (hm : m ≤ 900000) (L : List UInt8) (k x : Nat) (hL : Cm.sealS t l = (L, x)) (hk : L.length = k) :
    Calls Try.prog 17 #[.slice A n c, .slice D m d] w (RetL w k x L) :=
  (rseal_c A n c t D m d l w ht hn hl hm).mono fun _ _ h => h.lit hL hk
theorem ropen_lit (A : Option Addr) (n c : Nat) (t : List Nat) (D : Option Addr) (m d : Nat) (l : List UInt8) (w : World) (ht : Rn w w.heap.size A n c t) (hn : n ≤ 300) (hl : Rb w w.heap.size D m d l) (hm : m ≤ 900000) (L : List UInt8) (k x : Nat) (hL : Cm.openS t l = (L, x)) (hk : L.length = k) :
    Calls Try.prog 19 #[.slice A n c, .slice D m d] w (RetL w k x L) :=
  (ropen_c A n c t D m d l w ht hn hl hm).mono fun _ _ h => h.lit hL hk

set_option maxRecDepth 100000 in
set_option maxHeartbeats 4000000 in
theorem crcSums_walk (A : Option Addr) (n c : Nat) (t : List Nat) (r : Int) (B : Option Addr) (m d : Nat) (b : List UInt8) (w : World) (ht : Rn w w.heap.size A n c t) (hr : U32 r) (hb : Rb w w.heap.size B m d b) :
    Calls Try.prog 4 #[.slice A n c, .int .u32 r, .slice B m d] w fun e w' => e = .returned (.bool true) ∧ Below w.heap.size w w' := by
  obtain ⟨q, rfl⟩ := Int.eq_ofNat_of_zero_le hr.1
  have hq : q < 4294967296 := by have := hr.2; omega
  have hbl := hb.len
  have han : n ≤ 9223372036854775807 := by have := ht.2.2.1; have := ht.2.1; unfold maxLen at *; omega
  have hbn : m ≤ 9223372036854775807 := by have := hb.2.2.1; have := hb.2.1; unfold maxLen at *; omega
  have Ht := Lib.hid ht; have Hb := Lib.hid hb; have Hbl := Lib.hid hbl; have Hq := Lib.hid hq
  clear ht hb hbl hq hr
  by_cases h1 : 300 < n
  · go_enter Try.func4, Try.ntmps4
    go_wp2_with fail
    refine (alive_c _).mono ?_
    rintro e w2 ⟨rfl, hb2⟩
    go_wp2
    go_ret
    exact ⟨rfl, hb2⟩
  · by_cases h2 : 3000 < m
    · go_enter Try.func4, Try.ntmps4
      go_wp2_with fail
      refine (alive_c _).mono ?_
      rintro e w2 ⟨rfl, hb2⟩
      go_wp2
      go_ret
      exact ⟨rfl, hb2⟩
    · obtain ⟨v1, x1, hp1⟩ : ∃ v x, numS t (Cm.more t q b) = (v, x) := ⟨_, _, rfl⟩
      obtain ⟨v2, x2, hp2⟩ : ∃ v x, numS t (Cm.sum t b) = (v, x) := ⟨_, _, rfl⟩
      obtain ⟨L3, x3, hp3⟩ : ∃ L x, Cm.sealS t b = (L, x) := ⟨_, _, rfl⟩
      obtain ⟨L4, x4, hp4⟩ : ∃ L x, Cm.openS t b = (L, x) := ⟨_, _, rfl⟩
      obtain ⟨k3, hk3⟩ : ∃ k, L3.length = k := ⟨_, rfl⟩
      obtain ⟨k4, hk4⟩ : ∃ k, L4.length = k := ⟨_, rfl⟩
      have P1 := Lib.hid hp1; have P2 := Lib.hid hp2; have P3 := Lib.hid hp3; have P4 := Lib.hid hp4; have K3 := Lib.hid hk3; have K4 := Lib.hid hk4
      clear hp1 hp2 hp3 hp4 hk3 hk4
      go_enter Try.func4, Try.ntmps4
      go_wp2_with (at_builtin; go_must (refine bty.wpApp rfl (.tmp 33) (.tmp 34) rfl (l := []) (r := b) rfl rfl (Own.made0 _ _) (Hb.out.alloc (Nat.le_refl _) _) ?hs1 ?hs2 ?_))
      case hs1 => rw [Hbl.out]; simp; omega
      case hs2 => simp
      intro A2 c2 w2 hown2 hb2
      have hb02 : Below w.heap.size w w2 := ((Below.refl _ _).alloc (Nat.le_refl _) _).trans hb2
      have hz2 := hb02.size
      have Hr2 := Lib.hid (rb_len hown2.rb (m := m) Hbl.out)
      have Ht2 := Lib.hid ((Ht.out.below hb02).more hz2)
      have Hb2 := Lib.hid ((Hb.out.below hb02).more hz2)
      have ebl : b.length = m := Hbl.out
      rw [ebl]
      clear hown2 hb2 ebl
      go_wp2_with fail
      refine (more_lit A n c _ t A2 m c2 _ b q _ v1 x1 P1.out Ht2.out (by omega) Hr2.out (by omega) Hq.out).mono ?_
      rintro e w' ⟨rfl, rfl⟩
      go_wp2_with fail
      refine (rmore_lit A n c _ t B m d _ b q _ v1 x1 P1.out Ht2.out (by omega) Hb2.out (by omega) Hq.out).mono ?_
      rintro e w' ⟨rfl, rfl⟩
      go_wp2_with fail
      refine (sum_lit A n c _ t A2 m c2 _ b _ v2 x2 P2.out Ht2.out (by omega) Hr2.out (by omega)).mono ?_
      rintro e w' ⟨rfl, rfl⟩
      go_wp2_with fail
      refine (rsum_lit A n c _ t B m d _ b _ v2 x2 P2.out Ht2.out (by omega) Hb2.out (by omega)).mono ?_
      rintro e w' ⟨rfl, rfl⟩
      go_wp2_with fail
      refine (seal_lit A n c t A2 m c2 b _ Ht2.out (by omega) Hr2.out (by omega) L3 k3 x3 P3.out K3.out).mono ?_
      rintro e w3 ⟨A3, c3, rfl, hown3, hb3⟩
      have hz3 := hb3.size
      have Hr3 := Lib.hid ((Hr2.out.below hb3).more hz3)
      have Ht3 := Lib.hid ((Ht2.out.below hb3).more hz3)
      have Hb3 := Lib.hid ((Hb2.out.below hb3).more hz3)
      have Hs3 := Lib.hid (Own.rbl hown3)
      have hb03 := hb02.trans (hb3.mono hz2)
      clear hown3 hb3 hb02
      go_wp2_with fail
      refine (rseal_lit A n c t B m d b _ Ht3.out (by omega) Hb3.out (by omega) L3 k3 x3 P3.out K3.out).mono ?_
      rintro e w4 ⟨A4, c4, rfl, hown4, hb4⟩
      have hz4 := hb4.size
      have Hr4 := Lib.hid ((Hr3.out.below hb4).more hz4)
      have Ht4 := Lib.hid ((Ht3.out.below hb4).more hz4)
      have Hb4 := Lib.hid ((Hb3.out.below hb4).more hz4)
      have Hs4 := Lib.hid ((Hs3.out.below hb4).more hz4)
      have Hq4 := Lib.hid (Own.rbl hown4)
      have hb04 := hb03.trans (hb4.mono hb03.size)
      clear hown4 hb4 hb03
      go_wp2_with fail
      refine (open_lit A n c t A2 m c2 b _ Ht4.out (by omega) Hr4.out (by omega) L4 k4 x4 P4.out K4.out).mono ?_
      rintro e w5 ⟨A5, c5, rfl, hown5, hb5⟩
      have hz5 := hb5.size
      have Hr5 := Lib.hid ((Hr4.out.below hb5).more hz5)
      have Ht5 := Lib.hid ((Ht4.out.below hb5).more hz5)
      have Hb5 := Lib.hid ((Hb4.out.below hb5).more hz5)
      have Hs5 := Lib.hid ((Hs4.out.below hb5).more hz5)
      have Hq5 := Lib.hid ((Hq4.out.below hb5).more hz5)
      have Hu5 := Lib.hid (Own.rbl hown5)
      have hb05 := hb04.trans (hb5.mono hb04.size)
      clear hown5 hb5 hb04
      go_wp2_with fail
      refine (ropen_lit A n c t B m d b _ Ht5.out (by omega) Hb5.out (by omega) L4 k4 x4 P4.out K4.out).mono ?_
      rintro e w6 ⟨A6, c6, rfl, hown6, hb6⟩
      have hz6 := hb6.size
      have Hr6 := Lib.hid ((Hr5.out.below hb6).more hz6)
      have Hb6 := Lib.hid ((Hb5.out.below hb6).more hz6)
      have Hs6 := Lib.hid ((Hs5.out.below hb6).more hz6)
      have Hq6 := Lib.hid ((Hq5.out.below hb6).more hz6)
      have Hu6 := Lib.hid ((Hu5.out.below hb6).more hz6)
      have Hv6 := Lib.hid (Own.rbl hown6)
      have hb06 := hb05.trans (hb6.mono hb05.size)
      clear hown6 hb6 hb05
      go_wp2_with fail
      refine (alive_c _).mono ?_
      rintro e w7 ⟨rfl, hb7⟩
      have hcv1 := bty.conv (Hr6.out.below hb7)
      have hcv2 := bty.conv (Hb6.out.below hb7)
      have hcv3 := bty.conv (Hs6.out.below hb7)
      have hcv4 := bty.conv (Hq6.out.below hb7)
      have hcv5 := bty.conv (Hu6.out.below hb7)
      have hcv6 := bty.conv (Hv6.out.below hb7)
      have hb07 := hb06.trans (hb7.mono hb06.size)
      clear hb7 hb06
      go_wp2
      go_ret
      exact ⟨by simp, hb07⟩
end Go.Proofs.Ytcmagegcolcalab
