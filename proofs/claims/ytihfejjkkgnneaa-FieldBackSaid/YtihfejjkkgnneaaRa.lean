/-
  Rows of the same records are alike; Few.
-/
import Derived.Test.YtihfejjkkgnneaaR9
import Derived.Test.YtihfejjkkgnneaaWk
namespace Go.Proofs.Ytihfejjkkgnneaa
open Go.RowKit

def RecRel (l : List (List (List UInt8))) (A A' : Option Addr) (n c c' : Nat) (w : World) (t : Value) (wr : World) : Prop :=
  ∃ k : Nat, t = .int .i64 (k : Int) ∧ k ≤ n ∧ RL wr wr.heap.size A n c l ∧ RL wr wr.heap.size A' n c' l ∧ ∃ q, wr = w.drewN q

set_option maxRecDepth 100000 in
set_option maxHeartbeats 1000000 in
/-- Recs: rows of the same records are alike. -/
theorem recs_c (A A' : Option Addr) (n c c' : Nat) (l : List (List (List UInt8))) (w : World) (h1 : RL w w.heap.size A n c l) (h2 : RL w w.heap.size A' n c' l) (hn : n ≤ 1000000) (hz : ∀ r ∈ l, r.length ≤ 1000000) :
    Calls Try.prog 16 #[.slice A n c, .slice A' n c'] w (RetQ w (.bool true)) := by
  have H1 := Lib.hid h1; have H2 := Lib.hid h2; have Hz := Lib.hid hz; clear h1 h2 hz
  go_enter Try.func16, Try.ntmps16
  go_wp2
  go_loopw [5] (fun t wr => RecRel l A A' n c c' w t wr) (fun t _ => n - (intOf t).toNat)
  case atStart => exact ⟨0, rfl, Nat.zero_le _, H1.out, H2.out, 0, rfl⟩
  case round =>
    obtain ⟨k, rfl, hk, g1, g2, hq⟩ := hrel
    have Hq := Lib.hid hq; clear hq
    by_cases hlt : k < n
    · obtain ⟨b1, o1, D1, m1, d1, r, rfl, hb1, hc1, hx1, _, hr1⟩ := g1.at_ hlt
      obtain ⟨b2, o2, D2, m2, d2, r2, rfl, hb2, hc2, hx2, _, hr2⟩ := g2.at_ hlt
      rw [hx1] at hx2
      injection hx2 with hx2
      subst hx2
      have e1 := lvs_num hr1
      have e2 := lvs_num hr2
      have hm : m1 ≤ 1000000 := by have := Hz.out r (List.mem_of_getElem? hx1); omega
      subst e1
      obtain rfl : r.length = m2 := e2
      have G1 := Lib.hid g1; have G2 := Lib.hid g2; have R1 := Lib.hid hr1; have R2 := Lib.hid hr2; clear hx1 g1 g2 hr1 hr2
      go_wp2_with fail
      go_quiet ((go_at_call 21; exact Calls.quiet_of (strings_c D1 D2 r.length d1 d2 _ _ r _ (R1.out.drewN _) (R2.out.drewN _) hm)))
      go_wp2
      go_roundw
      case rel => exact ⟨k + 1, by go_num, by omega, G1.out, G2.out, by obtain ⟨q, hq⟩ := Hq.out; exact ⟨_, by rw [hq, World.drewN_drewN]⟩⟩
      case measure => simp [intOf]; omega
    · clear g1 g2
      go_wp2
      go_ret
      exact ⟨rfl, Hq.out⟩

theorem wR_app : ∀ (l r : List (List UInt8)), wR (l ++ r) = wR l + wR r
  | [], r => by simp [wR]
  | p :: t, r => by simp only [List.cons_append, wR, wR_app t r]; omega
theorem wL_app : ∀ (l r : List (List (List UInt8))), wL (l ++ r) = wL l + wL r
  | [], r => by simp [wL]
  | p :: t, r => by simp only [List.cons_append, wL, wL_app t r]; omega
theorem wR_take (l : List (List UInt8)) (k : Nat) : wR (l.take k) ≤ wR l := by
  have h := congrArg wR (List.take_append_drop k l)
  rw [wR_app] at h
  omega
theorem wL_take (l : List (List (List UInt8))) (k : Nat) : wL (l.take k) ≤ wL l := by
  have h := congrArg wL (List.take_append_drop k l)
  rw [wL_app] at h
  omega
theorem wR_snoc (l : List (List UInt8)) (k : Nat) (x : List UInt8) (h : l[k]? = some x) : wR (l.take (k + 1)) = wR (l.take k) + 1 + x.length := by
  rw [List.take_add_one, h, wR_app]
  simp [wR]; omega
theorem wL_snoc (l : List (List (List UInt8))) (k : Nat) (x : List (List UInt8)) (h : l[k]? = some x) : wL (l.take (k + 1)) = wL (l.take k) + wR x := by
  rw [List.take_add_one, h, wL_app]
  simp [wL]
def FewO (l : List (List (List UInt8))) (n : Nat) (s i : Value) : Prop := ∃ k : Nat, i = .int .i64 (k : Int) ∧ k ≤ n ∧ s = .int .i64 (wL (l.take k) : Int) ∧ wL (l.take k) ≤ 4000
def FewI (r : List (List UInt8)) (S m : Nat) (s i : Value) : Prop := ∃ j : Nat, i = .int .i64 (j : Int) ∧ j ≤ m ∧ s = .int .i64 ((S + wR (r.take j) : Nat) : Int) ∧ S + wR (r.take j) ≤ 4000

set_option maxRecDepth 100000 in
set_option maxHeartbeats 2000000 in
/-- Few -/
theorem fewR_c (A : Option Addr) (n c B : Nat) (l : List (List (List UInt8))) (w : World) (hr : RL w B A n c l) (hz : ∀ r ∈ l, ∀ q ∈ r, q.length ≤ 140737488355328) (o : Bool) (ho : o = decide (wL l ≤ 4000 ∧ l.length ≤ 120)) :
    Calls Try.prog 8 #[.slice A n c, .int .i64 120, .int .i64 4000] w fun e w' => e = .returned (.bool o) ∧ w = w' := by
  have hl := hr.len
  have hn : n ≤ 9223372036854775807 := by obtain ⟨vs, h1, _⟩ := hr; have h2 := h1.2.1; have h3 := h1.2.2.1; unfold maxLen at h3; omega
  have Hr := Lib.hid hr; have Hl := Lib.hid hl; have Hz := Lib.hid hz; have Ho := Lib.hid ho; clear hr hl hz ho
  go_enter Try.func8, Try.ntmps8
  go_wp2
  go_loop [7, 8] (fun s i => FewO l n s i) (fun _ i => n - (intOf i).toNat)
  case atStart => exact ⟨0, rfl, Nat.zero_le _, rfl, by simp [wL]⟩
  case round =>
    obtain ⟨k, rfl, hk, rfl, h4⟩ := hrel
    by_cases hlt : k < n
    · obtain ⟨b, off, D, m, d, r, rfl, hbB, hcell, hx, _, hrec⟩ := Hr.out.at_ hlt
      have hrl := lvs_num hrec
      have hm : m ≤ 9223372036854775807 := by have h2 := hrec.2.1; have h3 := hrec.2.2.1; unfold maxLen at h3; omega
      have hzr := Hz.out r (List.mem_of_getElem? hx)
      have hs := wL_snoc l k r hx
      have htk := wL_take l (k + 1)
      obtain ⟨S, hS⟩ : ∃ S, S = wL (l.take k) := ⟨_, rfl⟩
      rw [← hS] at hs h4 ⊢
      have Hrec := Lib.hid hrec; have Hrl := Lib.hid hrl; have Hzr := Lib.hid hzr; have Hs := Lib.hid hs; have Htk := Lib.hid htk; clear hrec hrl hzr hs htk hx hS
      go_wp2
      go_loop [7, 9] (fun s i => FewI r S m s i) (fun _ i => m - (intOf i).toNat)
      case atStart => exact ⟨0, rfl, Nat.zero_le _, by simp [wR], by simp [wR]; exact h4⟩
      case round =>
        obtain ⟨j, rfl, hj, rfl, h5⟩ := hrel
        by_cases hjt : j < m
        · obtain ⟨b2, off2, x, rfl, hb2, hcx, hx, _⟩ := lvs_at Hrec.out hjt
          have hxl := Hzr.out x (List.mem_of_getElem? hx)
          have hs2 := wR_snoc r j x hx
          have htk2 := wR_take r (j + 1)
          obtain ⟨S2, hS2⟩ : ∃ S2, S2 = S + wR (r.take j) := ⟨_, rfl⟩
          rw [← hS2] at h5 ⊢
          have hs3 : S + wR (r.take (j + 1)) = S2 + 1 + x.length := by omega
          have Hs3 := Lib.hid hs3; have Htk2 := Lib.hid htk2; clear hs2 hs3 htk2 hx hS2
          by_cases hbig : (4000 : Int) < (S2 : Int) + 1 + (x.length : Int)
          · have ho' : o = false := by
              rw [Ho.out]
              have h1 := Hs3.out
              have h2 := Htk2.out
              have h3 := Hs.out
              have h4 := Htk.out
              exact decide_eq_false (by omega)
            subst ho'
            go_wp2
            go_ret
            exact ⟨rfl, rfl⟩
          · go_wp2
            go_round
            case rel => exact ⟨j + 1, by go_num, by omega, by rw [Hs3.out]; go_num, by have := Hs3.out; omega⟩
            case measure => simp [intOf]; omega
        · rw [List.take_of_length_le (by rw [Hrl.out]; omega)] at h5 ⊢
          have hs4 : wL (l.take (k + 1)) = S + wR r := Hs.out
          have Hs4 := Lib.hid hs4
          clear hs4
          go_wp2
          go_round
          case rel => exact ⟨k + 1, by go_num, by omega, by rw [Hs4.out], by rw [Hs4.out]; exact h5⟩
          case measure => simp [intOf]; omega
    · rw [List.take_of_length_le (by rw [Hl.out]; omega)] at h4 ⊢
      by_cases h120 : n ≤ 120
      · have ho' : o = true := by
          rw [Ho.out]
          have := Hl.out
          exact decide_eq_true ⟨h4, by omega⟩
        subst ho'
        have hd : decide ((n : Int) ≤ 120) = true := by simp; omega
        go_wp2
        go_ret
        exact ⟨by first | rfl | (show Ending.returned (.bool (decide ((n : Int) ≤ 120))) = _; rw [hd]), rfl⟩
      · have ho' : o = false := by
          rw [Ho.out]
          have := Hl.out
          exact decide_eq_false (by omega)
        subst ho'
        have hd : decide ((n : Int) ≤ 120) = false := by simp; omega
        go_wp2
        go_ret
        exact ⟨rfl, rfl⟩
end Go.Proofs.Ytihfejjkkgnneaa
