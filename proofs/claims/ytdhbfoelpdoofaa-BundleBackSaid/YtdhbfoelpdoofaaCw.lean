/-
  The functions of package crc that only compute: what each call returns.
-/
import Derived.Test.YtdhbfoelpdoofaaTa
import Derived.Test.YtdhbfoelpdoofaaC32
namespace Go.Proofs.Ytdhbfoelpdoofaa
open Go.RowKit

theorem nty : N32 Try.prog 47 67 := ⟨Try.underlying47, Try.underlying67, by kernel_rfl⟩

set_option maxRecDepth 100000 in
/-- crc.entry -/
theorem entry_c (n : Nat) (w : World) (h : n < 4294967296) :
    Calls Try.prog 30 #[.int .u32 (n : Int)] w fun e w' => e = .returned (.int .u32 (Cm.ent n : Nat)) ∧ w = w' := by
  obtain ⟨N, hN⟩ : ∃ N, N = Cm.ent n := ⟨_, rfl⟩
  rw [← hN]
  have HN := Lib.hid hN; have Hn := Lib.hid h; clear hN h
  go_enter Try.func30, Try.ntmps30
  go_wp2
  go_loop [4, 0] (fun i t => ∃ k m : Nat, k ≤ 8 ∧ i = .int .i64 (k : Int) ∧ t = .int .u32 (m : Int) ∧ Hid (Cm.iter (8 - k) m = N ∧ m < 4294967296)) (fun i _ => 8 - (intOf i).toNat)
  case atStart => exact ⟨0, n, by omega, rfl, rfl, Lib.hid ⟨HN.out.symm, Hn.out⟩⟩
  case round =>
    obtain ⟨k, m, hk, rfl, rfl, H⟩ := hrel
    by_cases hlt : k < 8
    · have H2 : Cm.iter (8 - (k + 1)) (Cm.step m) = N := by
        have := H.out.1
        rw [show 8 - k = (8 - (k + 1)) + 1 by omega, Cm.iter_succ] at this
        exact this
      have H3 := Cm.step_lt m H.out.2
      have Hs := Lib.hid (And.intro H2 H3); clear H2 H3
      by_cases ho : m % 2 = 1
      · have hI : (m : Int) % 2 = 1 := by omega
        have Ho := Lib.hid ho; clear ho
        go_wp2
        go_round
        case rel =>
          refine ⟨k + 1, Cm.step m, by omega, by go_num, ?_, Hs⟩
          rw [Cm.step_odd m Ho.out, xor32 (a := (m : Int) / 2) (b := 3988292384) (m / 2) 3988292384 (by omega) rfl (by have := H.out.2; omega) (by omega)]
        case measure => simp [intOf]; omega
      · have hI : (m : Int) % 2 = 0 := by omega
        have Ho := Lib.hid ho; clear ho
        go_wp2
        go_round
        case rel =>
          refine ⟨k + 1, Cm.step m, by omega, by go_num, ?_, Hs⟩
          rw [Cm.step_even m (by have := Ho.out; omega)]
          go_num
        case measure => simp [intOf]; omega
    · go_wp2
      go_ret
      obtain rfl : k = 8 := by omega
      have h1 := H.out.1
      have h2 : m = N := h1
      subst h2
      exact ⟨rfl, rfl⟩

set_option maxRecDepth 100000 in
/-- the document's Entry -/
theorem rentry_c (n : Nat) (w : World) (h : n < 256) :
    Calls Try.prog 47 #[.int .i64 (n : Int)] w fun e w' => e = .returned (.int .u32 (Cm.ent n : Nat)) ∧ w = w' := by
  obtain ⟨N, hN⟩ : ∃ N, N = Cm.ent n := ⟨_, rfl⟩
  rw [← hN]
  have HN := Lib.hid hN; clear hN
  have hwr : IntKind.u32.wrap (n : Int) = (n : Int) := by rw [IntKind.wrap_u32']; omega
  go_enter Try.func47, Try.ntmps47
  go_wp2
  go_loop [4, 3] (fun i t => ∃ k m : Nat, k ≤ 8 ∧ i = .int .i64 (k : Int) ∧ t = .int .u32 (m : Int) ∧ Hid (Cm.iter (8 - k) m = N ∧ m < 4294967296)) (fun i _ => 8 - (intOf i).toNat)
  case atStart => exact ⟨0, n, by omega, rfl, rfl, Lib.hid ⟨HN.out.symm, by omega⟩⟩
  case round =>
    obtain ⟨k, m, hk, rfl, rfl, H⟩ := hrel
    clear hwr
    by_cases hlt : k < 8
    · have H2 : Cm.iter (8 - (k + 1)) (Cm.step m) = N := by
        have := H.out.1
        rw [show 8 - k = (8 - (k + 1)) + 1 by omega, Cm.iter_succ] at this
        exact this
      have H3 := Cm.step_lt m H.out.2
      have Hs := Lib.hid (And.intro H2 H3); clear H2 H3
      by_cases ho : m % 2 = 1
      · have hI : (m : Int) % 2 = 1 := by omega
        have Ho := Lib.hid ho; clear ho
        go_wp2
        go_round
        case rel =>
          refine ⟨k + 1, Cm.step m, by omega, by go_num, ?_, Hs⟩
          rw [Cm.step_odd m Ho.out, xor32 (a := (m : Int) / 2 % 4294967296) (b := 3988292384) (m / 2) 3988292384 (by have := H.out.2; omega) rfl (by have := H.out.2; omega) (by omega)]
        case measure => simp [intOf]; omega
      · have hI : (m : Int) % 2 = 0 := by omega
        have Ho := Lib.hid ho; clear ho
        go_wp2
        go_round
        case rel =>
          refine ⟨k + 1, Cm.step m, by omega, by go_num, ?_, Hs⟩
          rw [Cm.step_even m (by have := Ho.out; omega), show (m : Int) / 2 % 4294967296 = ((m / 2 : Nat) : Int) by have := H.out.2; omega]
        case measure => simp [intOf]; omega
    · go_wp2
      go_ret
      obtain rfl : k = 8 := by omega
      have h1 := H.out.1
      have h2 : m = N := h1
      subst h2
      exact ⟨rfl, rfl⟩

set_option maxRecDepth 100000 in
/-- crc.updated -/
theorem updated_c (A : Option Addr) (n c B : Nat) (t : List Nat) (D : Option Addr) (m d B2 : Nat) (l : List UInt8) (r : Nat) (w : World) (ht : Rn w B A n c t) (hn : n = 256) (hl : Rb w B2 D m d l) (hm : m ≤ 1000000) (hr : r < 4294967296) :
    Calls Try.prog 44 #[.slice A n c, .int .u32 (r : Int), .slice D m d] w fun e w' => e = .returned (.int .u32 (Cm.more t r l : Nat)) ∧ w = w' := by
  subst hn
  obtain ⟨N, hN⟩ : ∃ N, N = Cm.more t r l := ⟨_, rfl⟩
  rw [← hN]
  have HN := Lib.hid hN; have Hr := Lib.hid hr; have Ht := Lib.hid ht; have Hl := Lib.hid hl; clear hN hr ht hl
  go_enter Try.func44, Try.ntmps44
  go_wp2
  go_loop [11, 1] (fun i t' => ∃ k q : Nat, k ≤ m ∧ i = .int .i64 (k : Int) ∧ t' = .int .u32 (q : Int) ∧ Hid (Cm.more t q (l.drop k) = N ∧ q < 4294967296)) (fun i _ => m - (intOf i).toNat)
  case atStart => exact ⟨0, r, by omega, rfl, rfl, Lib.hid ⟨HN.out.symm, Hr.out⟩⟩
  case round =>
    obtain ⟨k, q, hk, rfl, rfl, H⟩ := hrel
    by_cases hlt : k < m
    · obtain ⟨b, off, x, rfl, hb, hc, hx, hd⟩ := Hl.out.at_ hlt
      have hix := Cm.idx_lt q x
      have hxl := x.toNat_lt
      have e1 : bits .xor .u8 ((q : Int) % 256) (x.toNat : Int) = ((q % 256 ^^^ x.toNat : Nat) : Int) := xor8 _ _ (by omega) rfl (by omega) (by omega)
      obtain ⟨j, hj⟩ : ∃ j, j = q % 256 ^^^ x.toNat := ⟨_, rfl⟩
      rw [← hj] at hix e1
      obtain ⟨b', off', y, rfl, hb', hc', hy, hyl, hg⟩ := Ht.out.at_ hix
      have Hd := Lib.hid hd; have Hx := Lib.hid hx; have Hy := Lib.hid hy; have Hg := Lib.hid hg; have Hj := Lib.hid hj; clear hd hx hy hg hj
      go_wp2
      go_round
      case rel =>
        refine ⟨k + 1, Cm.upd t q x, by omega, by go_num, ?_, Lib.hid ⟨?_, Cm.upd_lt t Ht.out.fits q H.out.2 x⟩⟩
        · unfold Cm.upd
          rw [← Hj.out, Hg.out, xor32 (a := (y : Int)) (b := (q : Int) / 256) y (q / 256) rfl (by omega) hyl (by have := H.out.2; omega)]
        · have := H.out.1
          rw [Hd.out, Cm.more_cons] at this
          exact this
      case measure => simp [intOf]; omega
    · go_wp2
      go_ret
      obtain rfl : k = m := by omega
      have h1 := H.out.1
      rw [List.drop_of_length_le (by rw [Hl.out.len]; omega)] at h1
      have h2 : q = N := h1
      subst h2
      exact ⟨rfl, rfl⟩
end Go.Proofs.Ytdhbfoelpdoofaa
