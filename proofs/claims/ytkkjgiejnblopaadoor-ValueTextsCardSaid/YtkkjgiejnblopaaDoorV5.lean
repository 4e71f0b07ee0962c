/-
  The document's number.
-/
import Derived.Test.YtkkjgiejnblopaaDoorV4
namespace Go.Proofs.YtkkjgiejnblopaaDoor
open Go.RowKit Vl

theorem digs_cons (c : UInt8) (l : List UInt8) (n : Nat) : digs (c :: l) n = if c.toNat < 48 ∨ 57 < c.toNat then none else digs l (10 * n + (c.toNat - 48)) := rfl
def NuRel (Y : ByteArray) (m : Nat) (D : Option Nat) (n i : Value) : Prop := ∃ k q : Nat, k ≤ m ∧ n = .int .i64 (q : Int) ∧ i = .int .i64 (k : Int) ∧ Hid (digs (Y.data.toList.drop k) q = D ∧ q < 10 ^ k)
/-- What a sign and the digits' number come to. -/
def sgn (g : Int) (D : Option Nat) : Int := match D with | some n => g * (n : Int) | none => 0
theorem number_sgn (s : List UInt8) : (∃ r, s = 45 :: r ∧ number s = sgn (-1) (numD r)) ∨ ((∀ c ∈ s.head?, c ≠ 45) ∧ number s = sgn 1 (numD s)) := by
  cases s with
  | nil => exact .inr ⟨fun c h => (by cases h), rfl⟩
  | cons c r =>
    by_cases h : c = 45
    · subst h
      refine .inl ⟨r, rfl, ?_⟩
      show (match numD r with | some n => -(n : Int) | none => 0) = _
      unfold sgn
      cases numD r with
      | none => rfl
      | some n => simp
    · refine .inr ⟨fun x hx => by simp at hx; subst hx; exact h, ?_⟩
      have e : number (c :: r) = match numD (c :: r) with | some n => (n : Int) | none => 0 := by
        unfold number
        split
        · rename_i heq; injection heq with h1 h2; exact absurd h1 h
        · rfl
      rw [e]
      unfold sgn
      cases numD (c :: r) with
      | none => rfl
      | some n => simp

set_option maxRecDepth 100000 in
set_option maxHeartbeats 2000000 in
theorem number_c (s : List UInt8) (hs1 : s.length ≤ 1000000) (w : World) : Calls Tryd.prog 56 #[st s] w fun e w' => e = .returned (.int .i64 (number s)) ∧ w = w' := by
  obtain ⟨X, hX⟩ : ∃ X : ByteArray, X = ⟨s.toArray⟩ := ⟨_, rfl⟩
  have hXs : X.size = s.length := by rw [hX]; rfl
  have hXl : X.data.toList = s := by rw [hX]
  show Calls _ _ #[.string ⟨s.toArray⟩] _ _
  rw [← hX]
  have hz : X.size ≤ 1000000 := by omega
  -- what stands behind the sign
  have key : ∃ (Y : ByteArray) (g : Int), (g = -1 ∨ g = 1) ∧ number s = sgn g (numD Y.data.toList) ∧ Y.size ≤ X.size ∧
      ((g = -1 ∧ ∃ h : 0 < X.size, (X[0]'h).toNat = 45 ∧ X.extract 1 X.size = Y) ∨ (g = 1 ∧ Y = X ∧ ∀ h : 0 < X.size, (X[0]'h).toNat ≠ 45)) := by
    rcases number_sgn s with ⟨r, hr, hn⟩ | ⟨hh, hn⟩
    · refine ⟨⟨r.toArray⟩, -1, .inl rfl, hn, ?_, .inl ⟨rfl, by rw [hXs, hr]; simp, ?_, ?_⟩⟩
      · rw [hXs, hr]; show r.length ≤ _; simp
      · subst hX; subst hr; rfl
      · rw [hX, ext_eq, hr]
        have : (ByteArray.mk (45 :: r).toArray).size = r.length + 1 := by show (45 :: r).toArray.size = _; simp
        rw [this]; simp
    · refine ⟨X, 1, .inr rfl, by rw [hXl]; exact hn, Nat.le_refl _, .inr ⟨rfl, rfl, fun h e => ?_⟩⟩
      cases s with
      | nil => rw [hXs] at h; simp at h
      | cons c r =>
        have h1 := hh c (by simp)
        subst hX
        exact h1 (UInt8.toNat_inj.1 e)
  obtain ⟨Y, g, hg, hn, hYs, hcase⟩ := key
  rw [hn]
  obtain ⟨D, hD⟩ : ∃ D, D = digs Y.data.toList 0 := ⟨_, rfl⟩
  have hYl : Y.data.toList.length = Y.size := by rw [Array.length_toList]; rfl
  have hnd : numD Y.data.toList = if Y.size < 1 ∨ 18 < Y.size then none else D := by unfold numD; rw [hYl, hD]
  rw [hnd]
  have HD := Lib.hid hD
  clear hX hXs hXl hn hnd hYl hD
  have tail : ∀ q : Nat, q < 10 ^ 18 → RowKit.wrap64 (g * (q : Int)) = g * (q : Int) ∧ IntKind.i64.wrap (g * (q : Int)) = g * (q : Int) := fun q hq => by
    have h1 : (10 : Nat) ^ 18 = 1000000000000000000 := by decide +kernel
    rw [h1] at hq
    have h2 : IntKind.i64.wrap (g * (q : Int)) = g * (q : Int) := by
      rcases hg with rfl | rfl
      · exact IntWalk.i64_in _ (by omega)
      · exact IntWalk.i64_in _ (by omega)
    exact ⟨by rw [← IntWalk.i64_left]; exact h2, h2⟩
  have Ht := Lib.hid tail
  clear tail
  rcases hcase with ⟨rfl, hpos, hx0, hext⟩ | ⟨rfl, hYX, hx0⟩
  · have hx0' : ((X[0]'hpos).toNat : Int) = 45 := by omega
    have hYz : Y.size ≤ 1000000 := by omega
    have hX1 : 1 ≤ X.size := by omega
    clear hg hYs
    by_cases hs0 : Y.size < 1
    · rw [if_pos (.inl hs0)]
      have d0 : decide ((Y.size : Int) < 1) = true := by simp; omega
      have d0' : decide (Y.size < 1) = true := decide_eq_true hs0
      go_enter Tryd.func56, Tryd.ntmps56
      go_wp2
      go_ret
      exact ⟨rfl, rfl⟩
    · have d0 : decide ((Y.size : Int) < 1) = false := by simp; omega
      have d0' : decide (Y.size < 1) = false := decide_eq_false hs0
      by_cases hs18 : 18 < Y.size
      · rw [if_pos (.inr hs18)]
        have d1 : decide ((18 : Int) < (Y.size : Int)) = true := by simp; omega
        have d1' : decide (18 < Y.size) = true := decide_eq_true hs18
        go_enter Tryd.func56, Tryd.ntmps56
        go_wp2
        go_ret
        exact ⟨rfl, rfl⟩
      · rw [if_neg (by omega)]
        have d1 : decide ((18 : Int) < (Y.size : Int)) = false := by simp; omega
        have d1' : decide (18 < Y.size) = false := decide_eq_false hs18
        have hs0' : 1 ≤ Y.size := by omega
        have hs18' : Y.size ≤ 18 := by omega
        clear hs0 hs18
        obtain ⟨R, hR⟩ : ∃ R, R = sgn (-1 : Int) D := ⟨_, rfl⟩
        rw [← hR]
        have HR := Lib.hid hR
        clear hR
        go_enter Tryd.func56, Tryd.ntmps56
        go_wp2
        go_loop [4, 5] (fun n i => NuRel Y Y.size D n i) (fun _ i => Y.size - (intOf i).toNat)
        case atStart => exact ⟨0, 0, by omega, rfl, rfl, Lib.hid ⟨by rw [List.drop_zero]; exact HD.out.symm, by decide⟩⟩
        case round =>
          clear d0 d0' d1 d1'
          obtain ⟨k, q, hk, rfl, rfl, H⟩ := hrel
          by_cases hlt : k < Y.size
          · have hb := (Y[k]).toNat_lt
            have hd := str_drop Y k hlt
            have hH := H.out.1
            rw [hd, digs_cons] at hH
            have hq := H.out.2
            have h10 : (10 : Nat) ^ k * 10 ≤ 10 ^ 18 := by rw [← Nat.pow_succ]; exact Nat.pow_le_pow_right (by omega) (by omega)
            have h18 : (10 : Nat) ^ 18 = 1000000000000000000 := by decide +kernel
            by_cases hbad : (Y[k]).toNat < 48 ∨ 57 < (Y[k]).toNat
            · rw [if_pos hbad] at hH
              obtain rfl : R = 0 := by rw [HR.out, ← hH]; rfl
              clear Ht HD H hd hH HR
              rcases Nat.lt_or_ge (Y[k]).toNat 48 with hlo | hlo
              · have e1 : decide (((Y[k]).toNat : Int) < 48) = true := by simp; omega
                have e1' : decide ((Y[k]).toNat < 48) = true := decide_eq_true hlo
                clear hbad hlo
                go_wp2
                go_ret
                exact ⟨rfl, rfl⟩
              · have hhi : 57 < (Y[k]).toNat := by omega
                have e1 : decide (((Y[k]).toNat : Int) < 48) = false := by simp; omega
                have e1' : decide ((Y[k]).toNat < 48) = false := decide_eq_false (by omega)
                have e2 : decide ((57 : Int) < ((Y[k]).toNat : Int)) = true := by simp; omega
                have e2' : decide (57 < (Y[k]).toNat) = true := decide_eq_true hhi
                clear hbad hlo hhi
                go_wp2
                go_ret
                exact ⟨rfl, rfl⟩
            · rw [if_neg hbad] at hH
              have hlo : 48 ≤ (Y[k]).toNat := by omega
              have hhi : (Y[k]).toNat ≤ 57 := by omega
              obtain ⟨dg, hdg⟩ : ∃ dg, dg = (Y[k]).toNat - 48 := ⟨_, rfl⟩
              rw [← hdg] at hH
              have hq2 : 10 * q + dg < 10 ^ (k + 1) := by rw [Nat.pow_succ]; omega
              have e1 : decide (((Y[k]).toNat : Int) < 48) = false := by simp; omega
              have e1' : decide ((Y[k]).toNat < 48) = false := decide_eq_false (by omega)
              have e2 : decide ((57 : Int) < ((Y[k]).toNat : Int)) = false := by simp; omega
              have e2' : decide (57 < (Y[k]).toNat) = false := decide_eq_false (by omega)
              have e3 : IntKind.u8.wrap (((Y[k]).toNat : Int) - 48) = (dg : Int) := by rw [IntWalk.u8_in _ (by omega)]; omega
              have e4 : IntKind.i64.wrap (10 * (q : Int)) = 10 * (q : Int) := IntWalk.i64_in _ (by omega)
              have e5 : IntKind.i64.wrap (10 * (q : Int) + (dg : Int)) = ((10 * q + dg : Nat) : Int) := by rw [IntWalk.i64_in _ (by omega)]; omega
              have hdl : dg ≤ 9 := by omega
              have hql : q < 1000000000000000000 := by omega
              have H2 := Lib.hid hH; have Hq2 := Lib.hid hq2
              clear hbad hdg hH hq2 hd H hq h10 h18
              go_wp2
              go_round
              case rel => exact ⟨k + 1, 10 * q + dg, by omega, by first | rfl | (congr 1; omega), by go_num, Lib.hid ⟨H2.out, Hq2.out⟩⟩
              case measure => simp [intOf]; omega
          · obtain rfl : k = Y.size := by omega
            have hH := H.out.1
            have hq := H.out.2
            rw [List.drop_of_length_le (by rw [Array.length_toList]; exact Nat.le_refl _)] at hH
            have hDq : D = some q := hH.symm
            have hq18 : q < 10 ^ 18 := Nat.lt_of_lt_of_le hq (Nat.pow_le_pow_right (by omega) hs18')
            obtain ⟨t1, t2⟩ := Ht.out q hq18
            obtain rfl : R = (-1 : Int) * (q : Int) := by rw [HR.out, hDq]; rfl
            have hql : q < 1000000000000000000 := by have h18 : (10 : Nat) ^ 18 = 1000000000000000000 := by decide +kernel
                                                     omega
            clear Ht HD H hH hq hDq hq18 HR
            go_wp2
            go_ret
            refine ⟨?_, rfl⟩
            first | rfl | simp
  · subst hYX
    clear hg hYs
    by_cases hpos : 0 < Y.size
    · have hx1 : ((Y[0]'hpos).toNat == 45) = false := beq_eq_false_iff_ne.2 (hx0 hpos)
      have hx2 : (((Y[0]'hpos).toNat : Int) == 45) = false := beq_eq_false_iff_ne.2 (fun e => hx0 hpos (by omega))
      clear hx0
      by_cases hs0 : Y.size < 1
      · rw [if_pos (.inl hs0)]
        have d0 : decide ((Y.size : Int) < 1) = true := by simp; omega
        have d0' : decide (Y.size < 1) = true := decide_eq_true hs0
        go_enter Tryd.func56, Tryd.ntmps56
        go_wp2
        go_ret
        exact ⟨rfl, rfl⟩
      · have d0 : decide ((Y.size : Int) < 1) = false := by simp; omega
        have d0' : decide (Y.size < 1) = false := decide_eq_false hs0
        by_cases hs18 : 18 < Y.size
        · rw [if_pos (.inr hs18)]
          have d1 : decide ((18 : Int) < (Y.size : Int)) = true := by simp; omega
          have d1' : decide (18 < Y.size) = true := decide_eq_true hs18
          go_enter Tryd.func56, Tryd.ntmps56
          go_wp2
          go_ret
          exact ⟨rfl, rfl⟩
        · rw [if_neg (by omega)]
          have d1 : decide ((18 : Int) < (Y.size : Int)) = false := by simp; omega
          have d1' : decide (18 < Y.size) = false := decide_eq_false hs18
          have hs0' : 1 ≤ Y.size := by omega
          have hs18' : Y.size ≤ 18 := by omega
          clear hs0 hs18
          obtain ⟨R, hR⟩ : ∃ R, R = sgn (1 : Int) D := ⟨_, rfl⟩
          rw [← hR]
          have HR := Lib.hid hR
          clear hR
          go_enter Tryd.func56, Tryd.ntmps56
          go_wp2
          go_loop [4, 5] (fun n i => NuRel Y Y.size D n i) (fun _ i => Y.size - (intOf i).toNat)
          case atStart => exact ⟨0, 0, by omega, rfl, rfl, Lib.hid ⟨by rw [List.drop_zero]; exact HD.out.symm, by decide⟩⟩
          case round =>
            clear d0 d0' d1 d1'
            obtain ⟨k, q, hk, rfl, rfl, H⟩ := hrel
            by_cases hlt : k < Y.size
            · have hb := (Y[k]).toNat_lt
              have hd := str_drop Y k hlt
              have hH := H.out.1
              rw [hd, digs_cons] at hH
              have hq := H.out.2
              have h10 : (10 : Nat) ^ k * 10 ≤ 10 ^ 18 := by rw [← Nat.pow_succ]; exact Nat.pow_le_pow_right (by omega) (by omega)
              have h18 : (10 : Nat) ^ 18 = 1000000000000000000 := by decide +kernel
              by_cases hbad : (Y[k]).toNat < 48 ∨ 57 < (Y[k]).toNat
              · rw [if_pos hbad] at hH
                obtain rfl : R = 0 := by rw [HR.out, ← hH]; rfl
                clear Ht HD H hd hH HR
                rcases Nat.lt_or_ge (Y[k]).toNat 48 with hlo | hlo
                · have e1 : decide (((Y[k]).toNat : Int) < 48) = true := by simp; omega
                  have e1' : decide ((Y[k]).toNat < 48) = true := decide_eq_true hlo
                  clear hbad hlo
                  go_wp2
                  go_ret
                  exact ⟨rfl, rfl⟩
                · have hhi : 57 < (Y[k]).toNat := by omega
                  have e1 : decide (((Y[k]).toNat : Int) < 48) = false := by simp; omega
                  have e1' : decide ((Y[k]).toNat < 48) = false := decide_eq_false (by omega)
                  have e2 : decide ((57 : Int) < ((Y[k]).toNat : Int)) = true := by simp; omega
                  have e2' : decide (57 < (Y[k]).toNat) = true := decide_eq_true hhi
                  clear hbad hlo hhi
                  go_wp2
                  go_ret
                  exact ⟨rfl, rfl⟩
              · rw [if_neg hbad] at hH
                have hlo : 48 ≤ (Y[k]).toNat := by omega
                have hhi : (Y[k]).toNat ≤ 57 := by omega
                obtain ⟨dg, hdg⟩ : ∃ dg, dg = (Y[k]).toNat - 48 := ⟨_, rfl⟩
                rw [← hdg] at hH
                have hq2 : 10 * q + dg < 10 ^ (k + 1) := by rw [Nat.pow_succ]; omega
                have e1 : decide (((Y[k]).toNat : Int) < 48) = false := by simp; omega
                have e1' : decide ((Y[k]).toNat < 48) = false := decide_eq_false (by omega)
                have e2 : decide ((57 : Int) < ((Y[k]).toNat : Int)) = false := by simp; omega
                have e2' : decide (57 < (Y[k]).toNat) = false := decide_eq_false (by omega)
                have e3 : IntKind.u8.wrap (((Y[k]).toNat : Int) - 48) = (dg : Int) := by rw [IntWalk.u8_in _ (by omega)]; omega
                have e4 : IntKind.i64.wrap (10 * (q : Int)) = 10 * (q : Int) := IntWalk.i64_in _ (by omega)
                have e5 : IntKind.i64.wrap (10 * (q : Int) + (dg : Int)) = ((10 * q + dg : Nat) : Int) := by rw [IntWalk.i64_in _ (by omega)]; omega
                have hdl : dg ≤ 9 := by omega
                have hql : q < 1000000000000000000 := by omega
                have H2 := Lib.hid hH; have Hq2 := Lib.hid hq2
                clear hbad hdg hH hq2 hd H hq h10 h18
                go_wp2
                go_round
                case rel => exact ⟨k + 1, 10 * q + dg, by omega, by first | rfl | (congr 1; omega), by go_num, Lib.hid ⟨H2.out, Hq2.out⟩⟩
                case measure => simp [intOf]; omega
            · obtain rfl : k = Y.size := by omega
              have hH := H.out.1
              have hq := H.out.2
              rw [List.drop_of_length_le (by rw [Array.length_toList]; exact Nat.le_refl _)] at hH
              have hDq : D = some q := hH.symm
              have hq18 : q < 10 ^ 18 := Nat.lt_of_lt_of_le hq (Nat.pow_le_pow_right (by omega) hs18')
              obtain ⟨t1, t2⟩ := Ht.out q hq18
              obtain rfl : R = (1 : Int) * (q : Int) := by rw [HR.out, hDq]; rfl
              have hql : q < 1000000000000000000 := by have h18 : (10 : Nat) ^ 18 = 1000000000000000000 := by decide +kernel
                                                       omega
              clear Ht HD H hH hq hDq hq18 HR
              go_wp2
              go_ret
              refine ⟨?_, rfl⟩
              first | rfl | simp
    · have hx1 : decide (0 < Y.size) = false := decide_eq_false hpos
      have hx2 : decide ((0 : Int) < (Y.size : Int)) = false := decide_eq_false (by omega)
      have hx3 : decide ((Y.size : Int) < 1) = true := decide_eq_true (by omega)
      rw [if_pos (.inl (by omega))]
      clear hx0 Ht HD
      go_enter Tryd.func56, Tryd.ntmps56
      go_wp2
      go_ret
      exact ⟨rfl, rfl⟩
end Go.Proofs.YtkkjgiejnblopaaDoor
