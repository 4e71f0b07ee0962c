/-
  The document's find, kinds, Arity.
-/
import Derived.Test.YtkkjgiejnblopaaDoorV7
namespace Go.Proofs.YtkkjgiejnblopaaDoor
open Go.RowKit Vl

theorem fnd_zero (s t : List UInt8) (i : Nat) : fnd s t i 0 = -1 := rfl
theorem fnd_succ (s t : List UInt8) (i k : Nat) : fnd s t i (k + 1) = if i + t.length ≤ s.length then (if (s.drop i).take t.length = t then (i : Int) else fnd s t (i + 1) k) else -1 := rfl
def FnRel (s t : List UInt8) (n : Nat) (N : Int) (i : Value) : Prop := ∃ k : Nat, k ≤ n + 1 ∧ i = .int .i64 (k : Int) ∧ Hid (fnd s t k (n + 1 - k) = N)

set_option maxRecDepth 100000 in
set_option maxHeartbeats 1000000 in
theorem find_c (s t : List UInt8) (hs1 : s.length ≤ 1000000) (ht1 : t.length ≤ 1000000) (w : World) : Calls Tryd.prog 59 #[st s, st t] w fun e w' => e = .returned (.int .i64 (find s t)) ∧ w = w' := by
  obtain ⟨X, hX⟩ : ∃ X : ByteArray, X = ⟨s.toArray⟩ := ⟨_, rfl⟩
  have hXs : X.size = s.length := by rw [hX]; rfl
  obtain ⟨N, hN⟩ : ∃ N, N = find s t := ⟨_, rfl⟩
  rw [← hN]
  have HN := Lib.hid (show fnd s t 0 (X.size + 1) = N by rw [hN, hXs]; rfl)
  show Calls _ _ #[.string ⟨s.toArray⟩, .string ⟨t.toArray⟩] _ _
  rw [← hX]
  have hz : X.size ≤ 1000000 := by omega
  have HXs := Lib.hid hXs
  have hext := fun i => (show X.extract i (i + t.length) = ⟨((s.drop i).take t.length).toArray⟩ by rw [hX, ext_eq, List.drop_take, Nat.add_sub_cancel_left])
  have Hext := Lib.hid hext
  clear hN hX hXs hext
  go_enter Tryd.func59, Tryd.ntmps59
  go_wp2
  go_loop [5] (fun i => FnRel s t X.size N i) (fun i => X.size + 1 - (intOf i).toNat)
  case atStart => exact ⟨0, by omega, rfl, HN.out⟩
  case round =>
    obtain ⟨k, hk, rfl, H⟩ := hrel
    have e1 : IntKind.i64.wrap ((k : Int) + (t.length : Int)) = ((k + t.length : Nat) : Int) := by rw [IntWalk.i64_in _ (by omega)]; omega
    have hH := H.out
    by_cases hlt : k + t.length ≤ X.size
    · have hsuc : X.size + 1 - k = (X.size - k) + 1 := by omega
      rw [hsuc, fnd_succ, if_pos (by rw [← HXs.out]; exact hlt)] at hH
      have d1 : decide (((k + t.length : Nat) : Int) ≤ (X.size : Int)) = true := by simp; omega
      have d1' : decide (k + t.length ≤ X.size) = true := decide_eq_true hlt
      have d1'' : decide ((k : Int) + (t.length : Int) ≤ (X.size : Int)) = true := by simp; omega
      have hx := Hext.out k
      obtain ⟨u, hu⟩ : ∃ u, u = (s.drop k).take t.length := ⟨_, rfl⟩
      rw [← hu] at hx hH
      clear H hu hsuc
      by_cases heq : u = t
      · rw [if_pos heq] at hH
        subst heq
        subst hH
        go_wp2
        go_ret
        exact ⟨rfl, rfl⟩
      · rw [if_neg heq] at hH
        have d2 : (u == t) = false := beq_eq_false_iff_ne.2 heq
        have H2 := Lib.hid hH
        have hk2 : k + 1 ≤ X.size + 1 := by omega
        clear heq hH
        go_wp2
        go_round
        case rel => exact ⟨k + 1, hk2, by go_num, by rw [show X.size + 1 - (k + 1) = X.size - k by omega]; exact H2⟩
        case measure => simp [intOf]; omega
    · have hN1 : N = -1 := by
        rw [← hH]
        rcases h0 : X.size + 1 - k with _ | j
        · exact fnd_zero s t k
        · rw [fnd_succ, if_neg (by rw [← HXs.out]; exact hlt)]
      subst hN1
      have d1 : decide (((k + t.length : Nat) : Int) ≤ (X.size : Int)) = false := by simp; omega
      have d1' : decide (k + t.length ≤ X.size) = false := decide_eq_false hlt
      have d1'' : decide ((k : Int) + (t.length : Int) ≤ (X.size : Int)) = false := by simp; omega
      clear hH H hlt HN
      go_wp2
      go_ret
      exact ⟨rfl, rfl⟩
end Go.Proofs.YtkkjgiejnblopaaDoor
