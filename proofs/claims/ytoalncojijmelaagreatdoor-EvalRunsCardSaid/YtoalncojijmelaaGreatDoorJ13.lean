/-
  Joined: PF.
-/
import Derived.Test.YtoalncojijmelaaGreatDoorJ4
import Derived.Test.YtoalncojijmelaaGreatDoorJ12
/-
  The program's Hash, represented, otherCase.
-/
namespace Go.Proofs.YtoalncojijmelaaGreatDoor
open Go.RowKit Vl

set_option maxRecDepth 100000 in
set_option maxHeartbeats 1000000 in
theorem pHash_c (s : List UInt8) (hs1 : s.length ≤ 1000000) (w : World) : Calls Tryz.prog 98 #[st s] w fun e w' => e = .returned (.int .i64 (Vl.hash s : Int)) ∧ w = w' := by
  obtain ⟨X, hX⟩ : ∃ X : ByteArray, X = ⟨s.toArray⟩ := ⟨_, rfl⟩
  have hXs : X.size = s.length := by rw [hX]; rfl
  have hXl : X.data.toList = s := by rw [hX]
  obtain ⟨N, hN⟩ : ∃ N, N = hs s 2166136261 := ⟨_, rfl⟩
  have hNl : N < 4294967296 := by rw [hN]; exact hs_lt _ hstep_lt _ _ (by omega)
  have hh : Vl.hash s = N % 2147483648 := by rw [hN]; unfold Vl.hash; rfl
  obtain ⟨R, hR⟩ : ∃ R, R = N % 2147483648 := ⟨_, rfl⟩
  have eR : bits .and .u32 (N : Int) 2147483647 = (R : Int) := by
    rw [show (2147483647 : Int) = ((2147483647 : Nat) : Int) from rfl, u32_and_nat N 2147483647 hNl (by omega), hR]
    exact congrArg _ (Nat.and_two_pow_sub_one_eq_mod N 31)
  have hRl : R < 2147483648 := by omega
  rw [hh, ← hR]
  show Calls _ _ #[.string ⟨s.toArray⟩] _ _
  rw [← hX]
  have HN := Lib.hid (show hs (X.data.toList.drop 0) 2166136261 = N by rw [hXl, hN, List.drop_zero])
  have hz : X.size ≤ 1000000 := by omega
  clear hh hN hX hXs hXl hR
  go_enter Tryz.func98, Tryz.ntmps98
  go_wp2
  go_loop [3, 4, 7] (fun h _ i => HsRel X X.size N h i) (fun _ _ i => X.size - (intOf i).toNat)
  case atStart => exact ⟨0, 2166136261, by omega, rfl, rfl, Lib.hid ⟨HN.out, by omega⟩⟩
  case round =>
    obtain ⟨k, q, hk, rfl, rfl, H⟩ := hrel
    by_cases hlt : k < X.size
    · have hb := (X[k]).toNat_lt
      have hq := H.out.2
      have e1 : bits .xor .u32 (q : Int) ((X[k]).toNat : Int) = ((q ^^^ (X[k]).toNat : Nat) : Int) := xor32 _ _ rfl rfl hq (by omega)
      have hd := str_drop X k hlt
      have Hd := Lib.hid hd
      clear hd hq eR
      go_wp2
      go_round
      case rel =>
        refine ⟨k + 1, hstep q X[k], by omega, ?_, by go_num, Lib.hid ⟨?_, hstep_lt _ _⟩⟩
        · unfold hstep
          first | rfl | (congr 1; simp [IntKind.wrap_u32]) | (simp [IntKind.wrap_u32]; omega)
        · have := H.out.1
          rw [Hd.out, hs_cons] at this
          exact this
      case measure => simp [intOf]; omega
    · obtain rfl : k = X.size := by omega
      have hNq : q = N := by
        have := H.out.1
        rw [List.drop_of_length_le (by rw [Array.length_toList]; exact Nat.le_refl _), hs_nil] at this
        exact this
      subst hNq
      go_wp2
      go_ret
      exact ⟨rfl, rfl⟩


/-- The sign and what stands behind it. -/
theorem cut_sgn (s : List UInt8) : ∃ (Y : ByteArray) (b : Bool), Lib.trimPrefix s [45] = Y.data.toList ∧ Lib.hasPrefix s [45] = b ∧ number s = sgn (if b then -1 else 1) (numD Y.data.toList) ∧ Y.size ≤ s.length := by
  rcases number_sgn s with ⟨r, hr, hn⟩ | ⟨hh, hn⟩
  · refine ⟨⟨r.toArray⟩, true, ?_, ?_, hn, ?_⟩
    · subst hr; unfold Lib.trimPrefix Lib.hasPrefix; simp
    · subst hr; unfold Lib.hasPrefix; simp
    · subst hr; show r.length ≤ _; simp
  · have hp : Lib.hasPrefix s [45] = false := by
      unfold Lib.hasPrefix
      cases s with
      | nil => rfl
      | cons c r =>
        have h1 := hh c (by simp)
        simp [List.isPrefixOf, Ne.symm h1]
    exact ⟨⟨s.toArray⟩, false, by unfold Lib.trimPrefix; rw [hp]; rfl, hp, hn, Nat.le_refl _⟩

set_option maxRecDepth 100000 in
set_option maxHeartbeats 2000000 in
theorem represented_c (s : List UInt8) (hs1 : s.length ≤ 1000000) (w : World) : Calls Tryz.prog 96 #[st s] w fun e w' => e = .returned (.int .i64 (number s)) ∧ w = w' := by
  obtain ⟨Y, b, hY1, hY2, hn, hYs⟩ := cut_sgn s
  have hcp := fun W => Tryz.strings_CutPrefix ⟨s.toArray⟩ ⟨#[45]⟩ W
  have hYe : (ByteArray.mk (Lib.trimPrefix s [45]).toArray) = Y := by rw [hY1]
  have hcp2 : ∀ W, Calls Tryz.prog 105 #[.string ⟨s.toArray⟩, .string ⟨#[45]⟩] W fun e w' => e = .returned (.tuple #[.string Y, .bool b]) ∧ w' = W := fun W => by
    have h := hcp W
    rw [show (ByteArray.mk s.toArray).data.toList = s from rfl, show (ByteArray.mk #[45]).data.toList = [45] from rfl, hYe, hY2] at h
    exact h
  rw [hn]
  obtain ⟨gg, hgg⟩ : ∃ g : Int, g = (if b then -1 else 1) := ⟨_, rfl⟩
  rw [← hgg]
  obtain ⟨D, hD⟩ : ∃ D, D = digs Y.data.toList 0 := ⟨_, rfl⟩
  have hYl : Y.data.toList.length = Y.size := by rw [Array.length_toList]; rfl
  have hnd : numD Y.data.toList = if Y.size < 1 ∨ 18 < Y.size then none else D := by unfold numD; rw [hYl, hD]
  rw [hnd]
  have HD := Lib.hid hD; have Hcp := Lib.hid hcp2; have HYl := Lib.hid hYl; have Hgg := Lib.hid hgg
  have hYz : Y.size ≤ 1000000 := by omega
  clear hgg hn hnd hYl hD hY1 hY2 hYe hcp hcp2 hYs
  by_cases hs18 : 18 < Y.size
  · rw [if_pos (.inr hs18)]
    have d1 : decide ((18 : Int) < (Y.size : Int)) = true := by simp; omega
    have d1' : decide (18 < Y.size) = true := decide_eq_true hs18
    clear hs18
    go_enter Tryz.func96, Tryz.ntmps96
    go_wp2_with fail
    refine (Hcp.out _).mono ?_
    rintro e w1 ⟨rfl, rfl⟩
    go_wp2
    go_ret
    exact ⟨rfl, rfl⟩
  · have d1 : decide ((18 : Int) < (Y.size : Int)) = false := by simp; omega
    have d1' : decide (18 < Y.size) = false := decide_eq_false hs18
    have hs18' : Y.size ≤ 18 := by omega
    have hD0 : Y.size < 1 → D = some 0 := fun h => by
      have h0 : Y.data.toList = [] := List.eq_nil_of_length_eq_zero (by rw [HYl.out]; omega)
      rw [HD.out, h0]; rfl
    obtain ⟨R, hR⟩ : ∃ R, R = sgn gg (if Y.size < 1 ∨ 18 < Y.size then none else D) := ⟨_, rfl⟩
    rw [← hR]
    -- what is told at the end
    have hRD : R = sgn gg D := by
      rw [hR]
      by_cases h1 : Y.size < 1
      · rw [if_pos (.inl h1), hD0 h1]; simp [sgn]
      · rw [if_neg (by omega)]
    have HR := Lib.hid hRD
    clear hR hRD hD0 hs18
    go_enter Tryz.func96, Tryz.ntmps96
    go_wp2_with fail
    refine (Hcp.out _).mono ?_
    rintro e w1 ⟨rfl, rfl⟩
    go_wp2
    go_loop [5, 6, 7, 18] (fun n _ _ i => NuRel Y Y.size D n i) (fun _ _ _ i => Y.size - (intOf i).toNat)
    case atStart => exact ⟨0, 0, by omega, rfl, rfl, Lib.hid ⟨by rw [List.drop_zero]; exact HD.out.symm, by decide⟩⟩
    case round =>
      clear d1 d1'
      obtain ⟨k, q, hk, rfl, rfl, H⟩ := hrel
      by_cases hlt : k < Y.size
      · have hb := (Y[k]).toNat_lt
        have hd := str_drop Y k hlt
        have hH := H.out.1
        rw [hd, digs_cons] at hH
        have hq := H.out.2
        have h10 : (10 : Nat) ^ k * 10 ≤ 10 ^ 18 := by rw [← Nat.pow_succ]; exact Nat.pow_le_pow_right (by omega) (by omega)
        have h18 : (10 : Nat) ^ 18 = 1000000000000000000 := by decide +kernel
        by_cases hbad : (Y[k]).toNat < 48 ∨ 57 < (Y[k]).toNat
        · rw [if_pos hbad] at hH
          obtain rfl : R = 0 := by rw [HR.out, ← hH]; rfl
          clear HD H hd hH HR h10 h18 hq
          rcases Nat.lt_or_ge (Y[k]).toNat 48 with hlo | hlo
          · have e1 : decide (((Y[k]).toNat : Int) < 48) = true := by simp; omega
            have e1' : decide ((Y[k]).toNat < 48) = true := decide_eq_true hlo
            clear hbad hlo
            go_wp2
            go_ret
            exact ⟨rfl, rfl⟩
          · have hhi : 57 < (Y[k]).toNat := by omega
            have e1 : decide (((Y[k]).toNat : Int) < 48) = false := by simp; omega
            have e1' : decide ((Y[k]).toNat < 48) = false := decide_eq_false (by omega)
            have e2 : decide ((57 : Int) < ((Y[k]).toNat : Int)) = true := by simp; omega
            have e2' : decide (57 < (Y[k]).toNat) = true := decide_eq_true hhi
            clear hbad hlo hhi
            go_wp2
            go_ret
            exact ⟨rfl, rfl⟩
        · rw [if_neg hbad] at hH
          have hlo : 48 ≤ (Y[k]).toNat := by omega
          have hhi : (Y[k]).toNat ≤ 57 := by omega
          obtain ⟨dg, hdg⟩ : ∃ dg, dg = (Y[k]).toNat - 48 := ⟨_, rfl⟩
          rw [← hdg] at hH
          have hq2 : 10 * q + dg < 10 ^ (k + 1) := by rw [Nat.pow_succ]; omega
          have e1 : decide (((Y[k]).toNat : Int) < 48) = false := by simp; omega
          have e1' : decide ((Y[k]).toNat < 48) = false := decide_eq_false (by omega)
          have e2 : decide ((57 : Int) < ((Y[k]).toNat : Int)) = false := by simp; omega
          have e2' : decide (57 < (Y[k]).toNat) = false := decide_eq_false (by omega)
          have e3 : IntKind.u8.wrap (((Y[k]).toNat : Int) - 48) = (dg : Int) := by rw [IntWalk.u8_in _ (by omega)]; omega
          have e4 : IntKind.i64.wrap (10 * (q : Int)) = 10 * (q : Int) := IntWalk.i64_in _ (by omega)
          have e5 : IntKind.i64.wrap (10 * (q : Int) + (dg : Int)) = ((10 * q + dg : Nat) : Int) := by rw [IntWalk.i64_in _ (by omega)]; omega
          have hdl : dg ≤ 9 := by omega
          have hql : q < 1000000000000000000 := by omega
          have H2 := Lib.hid hH; have Hq2 := Lib.hid hq2
          clear hbad hdg hH hq2 hd H hq h10 h18
          go_wp2
          go_round
          case rel => exact ⟨k + 1, 10 * q + dg, by omega, by first | rfl | (congr 1; omega), by go_num, Lib.hid ⟨H2.out, Hq2.out⟩⟩
          case measure => simp [intOf]; omega
      · obtain rfl : k = Y.size := by omega
        have hH := H.out.1
        have hq := H.out.2
        rw [List.drop_of_length_le (by rw [Array.length_toList]; exact Nat.le_refl _)] at hH
        have hDq : D = some q := hH.symm
        have hq18 : q < 10 ^ 18 := Nat.lt_of_lt_of_le hq (Nat.pow_le_pow_right (by omega) hs18')
        have hql : q < 1000000000000000000 := by
          have h18 : (10 : Nat) ^ 18 = 1000000000000000000 := by decide +kernel
          omega
        have t1 : IntKind.i64.wrap (-(q : Int)) = -(q : Int) := IntWalk.i64_in _ (by omega)
        rw [IntWalk.i64_left] at t1
        cases b with
        | true =>
          obtain rfl : R = -(q : Int) := by rw [HR.out, hDq, Hgg.out]; simp [sgn]
          clear HD H hH hq hDq hq18 HR Hgg
          go_wp2
          go_ret
          exact ⟨rfl, rfl⟩
        | false =>
          obtain rfl : R = (q : Int) := by rw [HR.out, hDq, Hgg.out]; simp [sgn]
          clear HD H hH hq hDq hq18 HR Hgg
          go_wp2
          go_ret
          exact ⟨rfl, rfl⟩
end Go.Proofs.YtoalncojijmelaaGreatDoor
