/-
  Joined: Td.
-/
import Derived.Test.YtplkjljhpmldfaaJ6
import Derived.Test.YtplkjljhpmldfaaJ1
import Derived.Deep.RegionWith
/-
  The document's Take (threshingref01): what the call returns and leaves.
-/
namespace Go.Proofs.Ytplkjljhpmldfaa
open Go.RowKit

def LeadRel (l : List UInt8) (n : Nat) (t : Value) : Prop := ∃ k : Nat, t = .int .i64 (k : Int) ∧ k ≤ n ∧ k ≤ 10 ∧ Vm.Lead k l
def HornRel (l : List UInt8) (k : Nat) (a t : Value) : Prop :=
  ∃ (j : Nat) (z : Int), t = .int .i64 z ∧ z = (j : Int) - 1 ∧ j ≤ k + 1 ∧ a = .int .u64 ((Vm.val ((l.take (k + 1)).drop j) % 18446744073709551616 : Nat) : Int)

theorem horn_step (V x : Nat) : IntKind.u64.wrap (IntKind.u64.wrap (((V % 18446744073709551616 : Nat) : Int) * 128) + (x % 128 : Nat)) = (((x % 128 + 128 * V) % 18446744073709551616 : Nat) : Int) := by
  simp only [IntKind.wrap_u64]
  omega

set_option maxRecDepth 100000 in
set_option maxHeartbeats 1000000 in
/-- the document's Take -/
theorem rtake_c (A : Option Addr) (n c : Nat) (l : List UInt8) (w : World) (hr : Rb w w.heap.size A n c l) (hn : n ≤ 1000000) :
    Calls Try.prog 40 #[.slice A n c] w (RetT w.heap.size w (takeS l)) := by
  have hl := hr.len
  have Hr := Lib.hid hr; have Hl := Lib.hid hl; clear hr hl
  go_enter Try.func40, Try.ntmps40
  go_wp2
  go_loop [5] (fun t => LeadRel l n t) (fun t => 10 - (intOf t).toNat)
  case atStart => exact ⟨0, rfl, by omega, by omega, Vm.Lead.zero l⟩
  case round =>
    obtain ⟨k, rfl, hk, hk10, hlead⟩ := hrel
    have HL := Lib.hid hlead; clear hlead
    by_cases h10 : k = 10
    · have h10' : 10 ≤ k := by omega
      have Hfin := Lib.hid (show takeS l = (0, [], 3) by
        have h := HL.out; rw [h10] at h
        exact takeS_err l 3 (Vm.tk_ten l h) (by omega))
      clear h10
      by_cases hkn : k < n
      · have hd : decide ((k : Int) < 10) = false := by simp; omega
        go_wp2
        go_ret3
        rw [Hfin.out]
        exact ⟨none, 0, rfl, Own.nil _ _ _, Below.refl _ _⟩
      · have hd : decide ((k : Int) < (n : Int)) = false := by simp; omega
        go_wp2
        go_ret3
        rw [Hfin.out]
        exact ⟨none, 0, rfl, Own.nil _ _ _, Below.refl _ _⟩
    · have hk9 : k ≤ 9 := by omega
      by_cases hkn : k < n
      · obtain ⟨b, off, x, rfl, hb, hcell, hx, hdrop⟩ := Hr.out.at_ hkn
        have Hx := Lib.hid hx; clear hx hdrop
        have hx256 : x.toNat < 256 := x.toNat_lt
        by_cases h128 : 128 ≤ x.toNat
        · go_wp2
          go_round
          case rel => exact ⟨k + 1, by go_num, by omega, by omega, HL.out.succ Hx.out h128⟩
          case measure => simp [intOf]; omega
        · have h128' : x.toNat < 128 := by omega
          clear h10
          have hd128 : decide ((128 : Int) ≤ (x.toNat : Int)) = false := by simp; omega
          go_wp2
          go_loop [6, 7] (fun a t => HornRel l k a t) (fun _ t => (intOf t + 1).toNat)
          case atStart => exact ⟨k + 1, k, rfl, by omega, by omega, by rw [List.drop_of_length_le (by simp; omega)]; rfl⟩
          case round =>
            obtain ⟨j, z, rfl, hz, hj, rfl⟩ := hrel
            rcases j with _ | i
            · obtain rfl : z = -1 := by omega
              obtain ⟨M, hM⟩ : ∃ M, M = Vm.val ((l.take (k + 1)).drop 0) % 18446744073709551616 := ⟨_, rfl⟩
              have hM64 : M < 18446744073709551616 := by rw [hM]; exact Nat.mod_lt _ (by omega)
              rw [← hM]
              rw [List.drop_zero] at hM
              have told := Vm.tk_told l k HL.out hk9 x Hx.out h128'
              rw [← hM] at told
              have Told := Lib.hid told; have HM := Lib.hid hM64; clear told hM hM64 hz hj
              obtain ⟨D, hD, hrD⟩ := bty.upto_ Hr.out (k := k + 1) (by omega) ((k : Int) + 1) (by omega)
              have hcvb : ∀ q, (convert 22 9 (.slice D (k + 1) c)).run Try.prog (w.drewN q) = .ok (.string ⟨(l.take (k + 1)).toArray⟩) (w.drewN q) := fun q => bty.conv (hrD.drewN q)
              have hcvb1 : (convert 22 9 (.slice D (k + 1) c)).run Try.prog w.drew = .ok (.string ⟨(l.take (k + 1)).toArray⟩) w.drew := bty.conv (hrD.drewN 1)
              have HrD := Lib.hid hrD; clear hrD
              have hnlt : n < 140737488355328 := by omega
              by_cases hv : Vm.vb M = l.take (k + 1)
              · have hbq : (Vm.vb M == l.take (k + 1)) = true := by simp [hv]
                have Hfin := Lib.hid (takeS_ok l M (k + 1) (Told.out.1 hv))
                clear hv
                obtain ⟨D2, hD2, hrD2⟩ := bty.from_ Hr.out (k := k + 1) (by omega) ((k : Int) + 1) (by omega)
                have HrD2 := Lib.hid hrD2; clear hrD2
                have hdl : (l.drop (k + 1)).length ≤ 1000000 := by rw [List.length_drop, Hl.out]; omega
                go_wp2
                have hwk : IntKind.i64.wrap ((k : Int) + 1) = (k : Int) + 1 := IntWalk.i64_in _ (by omega)
                go_region_with (go_at_call 52; refine (bytesOf_c M _ HM.out).mono ?_; rintro e w3 ⟨A3, c3, rfl, hown3, hb3⟩; have hb3' : Below w.heap.size w w3 := ⟨hb3.os, hb3.tape, hb3.output, hb3.size, hb3.block⟩; have hcv3 := bty.conv hown3.rb; have hcvb3 := bty.conv (HrD.out.below hb3'))
                all_goals
                  clear hwk
                  have hz3 := hb3'.size
                  go_wp2_with (at_builtin; go_must (refine bty.wpApp rfl (.tmp 55) (.tmp 59) rfl (l := []) (r := l.drop (k + 1)) rfl rfl (Own.made0 _ _) ((HrD2.out.below hb3').alloc hz3 _) (by simp only [List.length_nil]; omega) (by simp) ?_); intro A4 c4 w4 hown4 hb4)
                  go_ret3
                  rw [Hfin.out]
                  exact ⟨A4, c4, ret3_len (by simp), (by have := hown4.mono (base' := w.heap.size) hz3; simpa using this), (hb3'.alloc hz3 _).trans (hb4.mono hz3)⟩
              · have hbq : (Vm.vb M == l.take (k + 1)) = false := by simp [hv]
                have Hfin := Lib.hid (takeS_err l 3 (Told.out.2 hv) (by omega))
                clear hv
                go_wp2
                have hwk : IntKind.i64.wrap ((k : Int) + 1) = (k : Int) + 1 := IntWalk.i64_in _ (by omega)
                go_region_with (go_at_call 52; refine (bytesOf_c M _ HM.out).mono ?_; rintro e w3 ⟨A3, c3, rfl, hown3, hb3⟩; have hb3' : Below w.heap.size w w3 := ⟨hb3.os, hb3.tape, hb3.output, hb3.size, hb3.block⟩; have hcv3 := bty.conv hown3.rb; have hcvb3 := bty.conv (HrD.out.below hb3'))
                all_goals
                  go_wp2
                  go_ret3
                  rw [Hfin.out]
                  exact ⟨none, 0, rfl, Own.nil _ _ _, hb3'⟩
            · obtain rfl : z = (i : Int) := by omega
              obtain ⟨b', off', y, hA, hb', hcell', hy, hdrop'⟩ := Hr.out.at_ (k := i) (by omega)
              obtain ⟨rfl, rfl⟩ : b' = b ∧ off' = off := by injection hA with hA; injection hA with h1 h2; exact ⟨h1.symm, h2.symm⟩
              have hstep : (l.take (k + 1)).drop i = y :: (l.take (k + 1)).drop (i + 1) := by
                obtain ⟨hil, hiy⟩ := List.getElem?_eq_some_iff.1 hy
                rw [List.drop_eq_getElem_cons (by simp; omega), List.getElem_take, hiy]
              have Hstep := Lib.hid hstep; have HA := Lib.hid hA; clear hstep hA hy hdrop' hz
              have hin : i < n := by omega
              obtain ⟨V, hV⟩ : ∃ V, V = Vm.val ((l.take (k + 1)).drop (i + 1)) := ⟨_, rfl⟩
              rw [← hV]
              obtain ⟨V', hV'⟩ : ∃ V', V' = V % 18446744073709551616 := ⟨_, rfl⟩
              rw [← hV']
              have HV := Lib.hid hV; have HV' := Lib.hid hV'; clear hV hV'
              have hy256 : y.toNat < 256 := y.toNat_lt
              go_wp2
              go_round
              case rel =>
                refine ⟨i, (i : Int) - 1, rfl, rfl, by omega, ?_⟩
                rw [Hstep.out, Vm.val, ← HV.out, ← horn_step V y.toNat, ← HV'.out]
                rfl
              case measure => simp [intOf]
      · have Hfin := Lib.hid (show takeS l = (0, [], 2) from takeS_err l 2 (Vm.tk_short l k HL.out (by rw [Hl.out]; omega) (by omega)) (by omega))
        have hd : decide ((k : Int) < (n : Int)) = false := by simp; omega
        have hkn' : n ≤ k := by omega
        go_wp2
        go_ret3
        rw [Hfin.out]
        exact ⟨none, 0, rfl, Own.nil _ _ _, Below.refl _ _⟩
end Go.Proofs.Ytplkjljhpmldfaa
