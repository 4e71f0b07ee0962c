/-
  varint.number: what the call returns and leaves.
-/
import Derived.Test.YtdhbfoelpdoofaaTa
namespace Go.Proofs.Ytdhbfoelpdoofaa
open Go.RowKit

/-- The three results of a reader of a number. -/
def tkE (x : Nat × Nat × Nat) : Ending := .returned (.tuple #[.int .u64 (x.1 : Int), .int .i64 (x.2.1 : Int), .int .i64 (x.2.2 : Int)])

def NumRel (l : List UInt8) (n : Nat) (a i : Value) : Prop :=
  ∃ k acc : Nat, a = .int .u64 (acc : Int) ∧ i = .int .i64 (k : Int) ∧ k ≤ n ∧ k ≤ 9 ∧ Vm.tk l = Vm.dn k acc (l.drop k) ∧ acc < 128 ^ k

theorem shl_u64 (k X : Nat) : ((X : Int) * 2 ^ (7 * k)) = ((X * 128 ^ k : Nat) : Int) := by
  rw [← Vm.pow2]
  simp

theorem sum_u64 (k acc X : Nat) (h : acc + X * 128 ^ k < 18446744073709551616) :
    IntKind.u64.wrap ((acc : Int) + IntKind.u64.wrap ((X : Int) * 2 ^ (7 * k))) = ((acc + X * 128 ^ k : Nat) : Int) := by
  rw [shl_u64]
  generalize X * 128 ^ k = Y at h ⊢
  simp only [IntKind.wrap_u64]
  omega

theorem sum9 (k acc X : Nat) (hk : k = 9) (h : acc + X * 128 ^ k < 18446744073709551616) :
    IntKind.u64.wrap ((acc : Int) + (X : Int) * 9223372036854775808) = ((acc + X * 128 ^ k : Nat) : Int) := by
  subst hk
  have e : 128 ^ 9 = 9223372036854775808 := by decide +kernel
  rw [e] at h ⊢
  rw [IntKind.wrap_u64]
  omega

theorem tkE_of (x : Nat × Nat × Nat) (a b c : Nat) (h : x = (a, b, c)) (a' b' c' : Int) (ha : a' = (a : Int)) (hb : b' = (b : Int)) (hc : c' = (c : Int)) :
    Ending.returned (.tuple #[.int .u64 a', .int .i64 b', .int .i64 c']) = tkE x := by
  subst h ha hb hc
  rfl

set_option maxRecDepth 100000 in
set_option maxHeartbeats 1000000 in
/-- varint.number -/
theorem number_c (A : Option Addr) (n c B : Nat) (l : List UInt8) (w : World) (hr : Rb w B A n c l) (hn : n ≤ 1000000) :
    Calls Try.prog 51 #[.slice A n c] w fun e w' => e = tkE (Vm.tk l) ∧ w = w' := by
  have Hr := Lib.hid hr; clear hr
  go_enter Try.func51, Try.ntmps51
  go_wp2
  go_loop [5, 10] (fun a i => NumRel l n a i) (fun _ i => n - (intOf i).toNat)
  case atStart => exact ⟨0, 0, rfl, rfl, by omega, by omega, by simp [Vm.tk], by simp⟩
  case round =>
    obtain ⟨k, acc, rfl, rfl, hk, hk9, htk, hacc⟩ := hrel
    by_cases hlt : k < n
    · obtain ⟨b, off, x, rfl, hb, hcell, hx, hdrop⟩ := Hr.out.at_ hlt
      rw [hdrop] at htk
      have Htk := Lib.hid htk; have Hacc := Lib.hid hacc; clear htk hacc
      clear hdrop hx
      have hx256 : x.toNat < 256 := x.toNat_lt
      by_cases h128 : x.toNat < 128
      · by_cases hbad : 0 < k ∧ x.toNat = 0 ∨ k = 9 ∧ 1 < x.toNat
        · have Hfin := Lib.hid (Htk.out.trans (Vm.dn_bad k acc x _ h128 hbad))
          by_cases h1 : 0 < k ∧ x.toNat ≤ 0
          · obtain ⟨h2, h3⟩ := h1
            clear hbad
            go_wp2
            go_ret3
            exact ⟨tkE_of _ _ _ _ Hfin.out _ _ _ rfl rfl rfl, rfl⟩
          · have h2 : 9 ≤ k := by omega
            have h3 : 1 < x.toNat := by omega
            clear hbad h1
            go_wp2
            go_ret3
            exact ⟨tkE_of _ _ _ _ Hfin.out _ _ _ rfl rfl rfl, rfl⟩
        · have Hfin := Lib.hid (Htk.out.trans (Vm.dn_end k acc x _ h128 hbad))
          have Hend := Lib.hid (Vm.end_lt k acc x.toNat Hacc.out h128 hk9 (by omega))
          by_cases h1 : k ≤ 0
          · clear hbad
            go_wp2
            go_ret3
            exact ⟨tkE_of _ _ _ _ Hfin.out _ _ _ (sum_u64 k acc x.toNat Hend.out) rfl rfl, rfl⟩
          · have h2 : 0 < k := by omega
            have h3 : 0 < x.toNat := by omega
            by_cases h4 : k < 9
            · clear hbad h1
              go_wp2
              go_ret3
              exact ⟨tkE_of _ _ _ _ Hfin.out _ _ _ (sum_u64 k acc x.toNat Hend.out) rfl rfl, rfl⟩
            · have h5 : 9 ≤ k := by omega
              have h6 : x.toNat ≤ 1 := by omega
              have h7 : decide ((1 : Int) < (x.toNat : Int)) = false := by simp; omega
              clear hbad h1 h4
              go_wp2
              go_ret3
              exact ⟨tkE_of _ _ _ _ Hfin.out _ _ _ (sum9 k acc x.toNat (by omega) Hend.out) (by omega) rfl, rfl⟩
      · have h129 : 128 ≤ x.toNat := by omega
        by_cases h9 : k = 9
        · have h9' : 9 ≤ k := by omega
          have Hfin := Lib.hid (show Vm.tk l = (0, 0, 3) by rw [Htk.out, h9]; exact Vm.dn_long acc x _ h129)
          clear h9
          go_wp2
          go_ret3
          exact ⟨tkE_of _ _ _ _ Hfin.out _ _ _ rfl rfl rfl, rfl⟩
        · have Hfin := Lib.hid (Htk.out.trans (Vm.dn_step k acc x _ h129 h9))
          have Hlt := Lib.hid (Vm.step_lt k acc (x.toNat - 128) Hacc.out (by omega))
          go_wp2
          go_round
          case rel =>
            refine ⟨k + 1, acc + (x.toNat - 128) * 128 ^ k, ?_, by go_num, by omega, by omega, Hfin.out, Hlt.out⟩
            have e := sum_u64 k acc (x.toNat - 128) (by have := Hlt.out; have := Vm.pow_le (k + 1) (by omega); omega)
            rw [show (x.toNat : Int) - 128 = ((x.toNat - 128 : Nat) : Int) by omega, e]
          case measure => simp [intOf]; omega
    · have Hfin := Lib.hid (show Vm.tk l = (0, 0, 2) by rw [htk, List.drop_of_length_le (by rw [Hr.out.len]; omega)]; rfl)
      clear htk hacc
      go_wp2
      go_ret3
      exact ⟨tkE_of _ _ _ _ Hfin.out _ _ _ rfl rfl rfl, rfl⟩
end Go.Proofs.Ytdhbfoelpdoofaa
