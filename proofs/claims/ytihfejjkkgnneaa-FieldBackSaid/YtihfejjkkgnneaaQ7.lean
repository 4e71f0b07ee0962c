/-
  Rows of the same pairs are alike; few.
-/
import Derived.Test.YtihfejjkkgnneaaQ6
import Derived.IntWalk
namespace Go.Proofs.Ytihfejjkkgnneaa
open Go.RowKit Go.Maps

set_option maxRecDepth 100000 in
set_option maxHeartbeats 1000000 in
/-- Pairs: rows of the same pairs are alike. -/
theorem pairsEq_c (A A' : Option Addr) (n c c' B B' : Nat) (l : List (List UInt8 × List UInt8)) (w : World) (h1 : RP w B A n c l) (h2 : RP w B' A' n c' l) (hn : n ≤ 1000000) :
    Calls Try.prog 29 #[.slice A n c, .slice A' n c'] w (RetQ w (.bool true)) := by
  have H1 := Lib.hid h1; have H2 := Lib.hid h2; clear h1 h2
  go_enter Try.func29, Try.ntmps29
  go_wp2
  go_loopw [5] (fun t wr => StrRel n w t wr) (fun t _ => n - (intOf t).toNat)
  case atStart => exact ⟨0, 0, rfl, Nat.zero_le _, rfl⟩
  case round =>
    obtain ⟨k, q, rfl, hk, rfl⟩ := hrel
    by_cases hlt : k < n
    · obtain ⟨b1, o1, p, rfl, hb1, hc1, hd1, hx, _⟩ := H1.out.at_ hlt
      obtain ⟨b2, o2, p2, rfl, hb2, hc2, hd2, hx2, _⟩ := H2.out.at_ hlt
      rw [hx] at hx2
      injection hx2 with hx2
      subst hx2
      clear hx
      go_wp2_with fail
      go_quiet (fail)
      go_wp2
      go_roundw
      case rel => exact ⟨k + 1, _, by go_num, by omega, rfl⟩
      case measure => simp [intOf]; omega
    · go_wp2
      go_ret
      exact ⟨rfl, q, rfl⟩

/-- How much pairs weigh. -/
def wP : List (List UInt8 × List UInt8) → Nat
  | [] => 0
  | p :: t => 2 + p.1.length + p.2.length + wP t
theorem wP_app : ∀ (l r : List (List UInt8 × List UInt8)), wP (l ++ r) = wP l + wP r
  | [], r => by simp [wP]
  | p :: t, r => by simp only [List.cons_append, wP, wP_app t r]; omega
theorem wP_take (l : List (List UInt8 × List UInt8)) (k : Nat) : wP (l.take k) ≤ wP l := by
  have h := congrArg wP (List.take_append_drop k l)
  rw [wP_app] at h
  omega
theorem wP_snoc (l : List (List UInt8 × List UInt8)) (k : Nat) (p : List UInt8 × List UInt8) (h : l[k]? = some p) : wP (l.take (k + 1)) = wP (l.take k) + 2 + p.1.length + p.2.length := by
  rw [List.take_add_one, h, wP_app]
  simp [wP]; omega
def FewRel (l : List (List UInt8 × List UInt8)) (n : Nat) (w : World) (s i : Value) (wr : World) : Prop :=
  ∃ k q : Nat, i = .int .i64 (k : Int) ∧ k ≤ n ∧ s = .int .i64 (wP (l.take k) : Int) ∧ wP (l.take k) ≤ 4000 ∧ wr = w.drewN q

set_option maxRecDepth 100000 in
set_option maxHeartbeats 1000000 in
/-- few -/
theorem few_c (A : Option Addr) (n c B : Nat) (l : List (List UInt8 × List UInt8)) (w : World) (hr : RP w B A n c l) (hz : ∀ p ∈ l, p.1.length ≤ 140737488355328 ∧ p.2.length ≤ 140737488355328) (o : Bool) (ho : o = decide (wP l ≤ 4000)) :
    Calls Try.prog 24 #[.slice A n c] w (RetQ w (.bool o)) := by
  have hl := hr.len
  have hn : n ≤ 9223372036854775807 := by have h1 := hr.2.1; have h2 := hr.2.2.1; unfold maxLen at h2; omega
  have Hr := Lib.hid hr; have Hl := Lib.hid hl; have Hz := Lib.hid hz; have Ho := Lib.hid ho; clear hr hl hz ho
  go_enter Try.func24, Try.ntmps24
  go_wp2
  go_loopw [3, 4] (fun s i wr => FewRel l n w s i wr) (fun _ i _ => n - (intOf i).toNat)
  case atStart => exact ⟨0, 0, rfl, Nat.zero_le _, rfl, by simp [wP], rfl⟩
  case round =>
    obtain ⟨k, q, rfl, hk, rfl, h4, rfl⟩ := hrel
    by_cases hlt : k < n
    · obtain ⟨b, off, p, rfl, hb, hc1, hc2, hx, _⟩ := Hr.out.at_ hlt
      obtain ⟨z1, z2⟩ := Hz.out p (List.mem_of_getElem? hx)
      have hs := wP_snoc l k p hx
      have htk := wP_take l (k + 1)
      obtain ⟨S, hS⟩ : ∃ S, S = wP (l.take k) := ⟨_, rfl⟩
      rw [← hS] at hs h4 ⊢
      have Hs := Lib.hid hs; have Htk := Lib.hid htk; clear hs htk hx hS
      have e1 : IntKind.i64.wrap ((S : Int) + 2) = (S : Int) + 2 := IntWalk.i64_in _ (by omega)
      have e2 : IntKind.i64.wrap ((S : Int) + 2 + (p.1.length : Int)) = (S : Int) + 2 + (p.1.length : Int) := IntWalk.i64_in _ (by omega)
      have e3 : IntKind.i64.wrap ((S : Int) + 2 + (p.1.length : Int) + (p.2.length : Int)) = (S : Int) + 2 + (p.1.length : Int) + (p.2.length : Int) := IntWalk.i64_in _ (by omega)
      go_wp2_with fail
      go_quiet (fail)
      clear e1 e2 e3
      by_cases hbig : (4000 : Int) < (S : Int) + 2 + (p.1.length : Int) + (p.2.length : Int)
      · have ho' : o = false := by
          rw [Ho.out]
          have h1 := Hs.out
          have h2 := Htk.out
          exact decide_eq_false (by omega)
        subst ho'
        go_wp2
        go_ret
        exact ⟨rfl, _, rfl⟩
      · go_wp2
        go_roundw
        case rel => exact ⟨k + 1, _, by go_num, by omega, by rw [Hs.out]; go_num, by have := Hs.out; omega, rfl⟩
        case measure => simp [intOf]; omega
    · have ho' : o = true := by
        rw [Ho.out]
        rw [List.take_of_length_le (by rw [Hl.out]; omega)] at h4
        exact decide_eq_true h4
      subst ho'
      go_wp2
      go_ret
      exact ⟨rfl, q, rfl⟩
end Go.Proofs.Ytihfejjkkgnneaa
