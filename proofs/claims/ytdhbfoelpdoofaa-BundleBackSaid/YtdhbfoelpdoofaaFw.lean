/-
  How much records weigh; Few.
-/
import Derived.Test.YtdhbfoelpdoofaaRw
namespace Go.Proofs.Ytdhbfoelpdoofaa
open Go.RowKit

def wR : List (List UInt8) → Nat
  | [] => 0
  | s :: t => 1 + s.length + wR t
def wL : List (List (List UInt8)) → Nat
  | [] => 0
  | r :: t => wR r + wL t
theorem wR_mem : ∀ (r : List (List UInt8)) (s : List UInt8), s ∈ r → s.length < wR r
  | [], s, h => by cases h
  | x :: t, s, h => by
    rcases List.mem_cons.1 h with rfl | h
    · simp only [wR]; omega
    · have := wR_mem t s h
      simp only [wR]; omega
theorem wR_len : ∀ r : List (List UInt8), r.length ≤ wR r
  | [] => Nat.le_refl _
  | x :: t => by have := wR_len t; simp only [wR, List.length_cons]; omega
theorem wL_mem : ∀ (l : List (List (List UInt8))) (r : List (List UInt8)), r ∈ l → wR r ≤ wL l
  | [], r, h => by cases h
  | x :: t, r, h => by
    rcases List.mem_cons.1 h with rfl | h
    · simp only [wL]; omega
    · have := wL_mem t r h
      simp only [wL]; omega
theorem wR_app : ∀ (l r : List (List UInt8)), wR (l ++ r) = wR l + wR r
  | [], r => by simp [wR]
  | p :: t, r => by simp only [List.cons_append, wR, wR_app t r]; omega
theorem wL_app : ∀ (l r : List (List (List UInt8))), wL (l ++ r) = wL l + wL r
  | [], r => by simp [wL]
  | p :: t, r => by simp only [List.cons_append, wL, wL_app t r]; omega
theorem wR_take (l : List (List UInt8)) (k : Nat) : wR (l.take k) ≤ wR l := by
  have h := congrArg wR (List.take_append_drop k l)
  rw [wR_app] at h
  omega
theorem wL_take (l : List (List (List UInt8))) (k : Nat) : wL (l.take k) ≤ wL l := by
  have h := congrArg wL (List.take_append_drop k l)
  rw [wL_app] at h
  omega
theorem wR_snoc (l : List (List UInt8)) (k : Nat) (x : List UInt8) (h : l[k]? = some x) : wR (l.take (k + 1)) = wR (l.take k) + 1 + x.length := by
  rw [List.take_add_one, h, wR_app]
  simp [wR]; omega
theorem wL_snoc (l : List (List (List UInt8))) (k : Nat) (x : List (List UInt8)) (h : l[k]? = some x) : wL (l.take (k + 1)) = wL (l.take k) + wR x := by
  rw [List.take_add_one, h, wL_app]
  simp [wL]
def FewO (l : List (List (List UInt8))) (n : Nat) (s i : Value) : Prop := ∃ k : Nat, i = .int .i64 (k : Int) ∧ k ≤ n ∧ s = .int .i64 (wL (l.take k) : Int) ∧ wL (l.take k) ≤ 3000
def FewI (r : List (List UInt8)) (S m : Nat) (s i : Value) : Prop := ∃ j : Nat, i = .int .i64 (j : Int) ∧ j ≤ m ∧ s = .int .i64 ((S + wR (r.take j) : Nat) : Int) ∧ S + wR (r.take j) ≤ 3000

set_option maxRecDepth 100000 in
set_option maxHeartbeats 3000000 in
/-- Few -/
theorem fewR_c (A : Option Addr) (n c B : Nat) (l : List (List (List UInt8))) (w : World) (hr : RL w B A n c l) (hz : ∀ r ∈ l, ∀ q ∈ r, q.length ≤ 140737488355328) (N : Int) (o : Bool) (ho : o = decide (wL l ≤ 3000 ∧ (l.length : Int) ≤ N)) :
    Calls Try.prog 6 #[.slice A n c, .int .i64 N, .int .i64 3000] w fun e w' => e = .returned (.bool o) ∧ w = w' := by
  have hl := hr.len
  have hn : n ≤ 9223372036854775807 := by obtain ⟨vs, h1, _⟩ := hr; have h2 := h1.2.1; have h3 := h1.2.2.1; unfold maxLen at h3; omega
  have Hr := Lib.hid hr; have Hl := Lib.hid hl; have Hz := Lib.hid hz; have Ho := Lib.hid ho; clear hr hl hz ho
  go_enter Try.func6, Try.ntmps6
  go_wp2
  go_loop [7, 8] (fun s i => FewO l n s i) (fun _ i => n - (intOf i).toNat)
  case atStart => exact ⟨0, rfl, Nat.zero_le _, rfl, by simp [wL]⟩
  case round =>
    obtain ⟨k, rfl, hk, rfl, h4⟩ := hrel
    by_cases hlt : k < n
    · obtain ⟨b, off, D, m, d, r, rfl, hbB, hcell, hx, _, hrec⟩ := Hr.out.at_ hlt
      have hrl := lvs_num hrec
      have hm : m ≤ 9223372036854775807 := by have h2 := hrec.2.1; have h3 := hrec.2.2.1; unfold maxLen at h3; omega
      have hzr := Hz.out r (List.mem_of_getElem? hx)
      have hs := wL_snoc l k r hx
      have htk := wL_take l (k + 1)
      obtain ⟨S, hS⟩ : ∃ S, S = wL (l.take k) := ⟨_, rfl⟩
      rw [← hS] at hs h4 ⊢
      have Hrec := Lib.hid hrec; have Hrl := Lib.hid hrl; have Hzr := Lib.hid hzr; have Hs := Lib.hid hs; have Htk := Lib.hid htk; clear hrec hrl hzr hs htk hx hS
      go_wp2
      go_loop [7, 9] (fun s i => FewI r S m s i) (fun _ i => m - (intOf i).toNat)
      case atStart => exact ⟨0, rfl, Nat.zero_le _, by simp [wR], by simp [wR]; exact h4⟩
      case round =>
        obtain ⟨j, rfl, hj, rfl, h5⟩ := hrel
        by_cases hjt : j < m
        · obtain ⟨b2, off2, x, rfl, hb2, hcx, hx, _⟩ := lvs_at Hrec.out hjt
          have hxl := Hzr.out x (List.mem_of_getElem? hx)
          have hs2 := wR_snoc r j x hx
          have htk2 := wR_take r (j + 1)
          obtain ⟨S2, hS2⟩ : ∃ S2, S2 = S + wR (r.take j) := ⟨_, rfl⟩
          rw [← hS2] at h5 ⊢
          have hs3 : S + wR (r.take (j + 1)) = S2 + 1 + x.length := by omega
          have Hs3 := Lib.hid hs3; have Htk2 := Lib.hid htk2; clear hs2 hs3 htk2 hx hS2
          by_cases hbig : (3000 : Int) < (S2 : Int) + 1 + (x.length : Int)
          · have ho' : o = false := by
              rw [Ho.out]
              have h1 := Hs3.out
              have h2 := Htk2.out
              have h3 := Hs.out
              have h4 := Htk.out
              exact decide_eq_false (by omega)
            subst ho'
            go_wp2
            go_ret
            exact ⟨rfl, rfl⟩
          · go_wp2
            go_round
            case rel => exact ⟨j + 1, by go_num, by omega, by rw [Hs3.out]; go_num, by have := Hs3.out; omega⟩
            case measure => simp [intOf]; omega
        · rw [List.take_of_length_le (by rw [Hrl.out]; omega)] at h5 ⊢
          have hs4 : wL (l.take (k + 1)) = S + wR r := Hs.out
          have Hs4 := Lib.hid hs4
          clear hs4
          go_wp2
          go_round
          case rel => exact ⟨k + 1, by go_num, by omega, by rw [Hs4.out], by rw [Hs4.out]; exact h5⟩
          case measure => simp [intOf]; omega
    · rw [List.take_of_length_le (by rw [Hl.out]; omega)] at h4 ⊢
      by_cases h120 : (n : Int) ≤ N
      · have ho' : o = true := by
          rw [Ho.out]
          have := Hl.out
          exact decide_eq_true ⟨h4, by omega⟩
        subst ho'
        have hd : decide ((n : Int) ≤ N) = true := by simp; omega
        go_wp2
        go_ret
        exact ⟨by first | rfl | (show Ending.returned (.bool (decide ((n : Int) ≤ N))) = _; rw [hd]), rfl⟩
      · have ho' : o = false := by
          rw [Ho.out]
          have := Hl.out
          exact decide_eq_false (by omega)
        subst ho'
        have hd : decide ((n : Int) ≤ N) = false := by simp; omega
        go_wp2
        go_ret
        exact ⟨rfl, rfl⟩
end Go.Proofs.Ytdhbfoelpdoofaa
