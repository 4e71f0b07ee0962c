/-
  The law's alive, small.
-/
import Derived.Test.YthkjhenaicbepaaDoorKs
namespace Go.Proofs.YthkjhenaicbepaaDoor
open Go.RowKit Vl Cd Ck

def p1 : List Ins := [⟨0, 1, []⟩, ⟨1, 0, [97]⟩, ⟨4, 0, []⟩]
def p2 : List Ins := [⟨22, 0, []⟩, ⟨23, 0, []⟩, ⟨4, 0, []⟩]
def p3 : List Ins := [⟨2, 3, []⟩]
theorem sk_p1 : sk p1 [] = ([false, true], 2, 11) := by decide +kernel
theorem ckd_p2 : ckd p2 [false, false] [false] = 0 := by decide +kernel
theorem nd_p3 : nd p3 0 = 4 := by decide +kernel
theorem I_p1 : ∀ x ∈ p1, I x.op := by unfold I; decide
theorem I_p2 : ∀ x ∈ p2, I x.op := by unfold I; decide
theorem I_p3 : ∀ x ∈ p3, I x.op := by unfold I; decide
set_option maxRecDepth 100000 in
set_option maxHeartbeats 4000000 in
theorem alive_c (w : World) : Calls Tryd.prog 7 #[] w (RetV w (.bool true)) := by
  obtain ⟨w1, hw1⟩ : ∃ w1, w1 = w.alloc (.cells #[.int .i64 0, .int .i64 1, .string ⟨#[]⟩, .int .i64 1, .int .i64 0, .string ⟨#[97]⟩, .int .i64 4, .int .i64 0, .string ⟨#[]⟩] 37) := ⟨_, rfl⟩
  have r1 : Rc 3 w1 (w.heap.size + 1) (some ⟨w.heap.size, 0, none⟩) 3 3 (ics p1) := by rw [hw1]; exact Rc.lit w _ (ics p1).toArray 3 rfl (by simp [maxLen])
  have b1 : Below w.heap.size w w1 := by rw [hw1]; exact (Below.refl _ _).alloc (Nat.le_refl _) _
  have z1 : w.heap.size + 1 = w1.heap.size := by rw [hw1]; simp
  rw [z1] at r1
  have h1 := stack_c _ 3 3 p1 none 0 0 [] w1 r1 (by omega) I_p1 (Rc.nil 1 w1 _) (by omega)
  rw [sk_p1] at h1
  have H1 := Lib.hid h1; have W1 := Lib.hid hw1; have B1 := Lib.hid b1
  clear h1 hw1 b1 r1 z1
  go_enter Tryd.func7, Tryd.ntmps7
  go_wp2_with (rw [← W1.out])
  refine H1.out.mono ?_
  rintro e w2 ⟨A2, c2, rfl, ho2, b2⟩
  have B2 := Lib.hid (B1.out.trans (b2.mono B1.out.size))
  clear ho2 b2
  obtain ⟨w3, hw3⟩ : ∃ w3, w3 = w2.alloc (.cells #[.int .i64 22, .int .i64 0, .string ⟨#[]⟩, .int .i64 23, .int .i64 0, .string ⟨#[]⟩, .int .i64 4, .int .i64 0, .string ⟨#[]⟩] 37) := ⟨_, rfl⟩
  obtain ⟨w4, hw4⟩ : ∃ w4, w4 = w3.alloc (.cells #[.bool false, .bool false] 4) := ⟨_, rfl⟩
  obtain ⟨w5, hw5⟩ : ∃ w5, w5 = w4.alloc (.cells #[.bool false] 4) := ⟨_, rfl⟩
  have z3 : w2.heap.size + 1 = w3.heap.size := by rw [hw3]; simp
  have z4 : w3.heap.size + 1 = w4.heap.size := by rw [hw4]; simp
  have z5 : w4.heap.size + 1 = w5.heap.size := by rw [hw5]; simp
  have b3 : Below w2.heap.size w2 w3 := by rw [hw3]; exact (Below.refl _ _).alloc (Nat.le_refl _) _
  have b4 : Below w3.heap.size w3 w4 := by rw [hw4]; exact (Below.refl _ _).alloc (Nat.le_refl _) _
  have b5 : Below w4.heap.size w4 w5 := by rw [hw5]; exact (Below.refl _ _).alloc (Nat.le_refl _) _
  have r3 : Rc 3 w3 w3.heap.size (some ⟨w2.heap.size, 0, none⟩) 3 3 (ics p2) := by rw [← z3, hw3]; exact Rc.lit w2 _ (ics p2).toArray 3 rfl (by simp [maxLen])
  have r4 : Rc 1 w4 w4.heap.size (some ⟨w3.heap.size, 0, none⟩) 2 2 (lvb [false, false]) := by rw [← z4, hw4]; exact Rc.lit w3 _ (lvb [false, false]).toArray 2 rfl (by simp [maxLen])
  have r5 : Rc 1 w5 w5.heap.size (some ⟨w4.heap.size, 0, none⟩) 1 1 (lvb [false]) := by rw [← z5, hw5]; exact Rc.lit w4 _ (lvb [false]).toArray 1 rfl (by simp [maxLen])
  have h2 := check_c _ 3 3 p2 _ 2 2 [false, false] _ 1 1 [false] w5 ((((r3.below b4).more b4.size).below b5).more b5.size) (by omega) I_p2 ((r4.below b5).more b5.size) (by omega) r5
  rw [ckd_p2, ← z4, ← z3] at h2
  have BB := Lib.hid (((B2.out.trans (b3.mono B2.out.size)).trans (b4.mono (Nat.le_trans B2.out.size b3.size))).trans (b5.mono (Nat.le_trans (Nat.le_trans B2.out.size b3.size) b4.size)))
  have H2 := Lib.hid h2
  have W5 := Lib.hid (show ((w2.alloc (.cells #[.int .i64 22, .int .i64 0, .string ⟨#[]⟩, .int .i64 23, .int .i64 0, .string ⟨#[]⟩, .int .i64 4, .int .i64 0, .string ⟨#[]⟩] 37)).alloc (.cells #[.bool false, .bool false] 4)).alloc (.cells #[.bool false] 4) = w5 by rw [hw5, hw4, hw3])
  clear h2 hw3 hw4 hw5 z3 z4 z5 b3 b4 b5 r3 r4 r5
  go_wp2_with (rw [W5.out])
  refine H2.out.mono ?_
  rintro e w6 ⟨rfl, b6⟩
  have B6 := Lib.hid (BB.out.trans (b6.mono BB.out.size))
  clear b6
  obtain ⟨w7, hw7⟩ : ∃ w7, w7 = w6.alloc (.cells #[.int .i64 2, .int .i64 3, .string ⟨#[]⟩] 37) := ⟨_, rfl⟩
  have r7 : Rc 3 w7 (w6.heap.size + 1) (some ⟨w6.heap.size, 0, none⟩) 1 1 (ics p3) := by rw [hw7]; exact Rc.lit w6 _ (ics p3).toArray 1 rfl (by simp [maxLen])
  have b7 : Below w6.heap.size w6 w7 := by rw [hw7]; exact (Below.refl _ _).alloc (Nat.le_refl _) _
  have z7 : w6.heap.size + 1 = w7.heap.size := by rw [hw7]; simp
  rw [z7] at r7
  have h3 := needs_c _ 1 1 p3 w7 r7 (by omega) I_p3
  rw [nd_p3] at h3
  have H3 := Lib.hid h3; have W7 := Lib.hid hw7; have B7 := Lib.hid (B6.out.trans (b7.mono B6.out.size))
  clear h3 hw7 b7 r7 z7
  go_wp2_with (rw [← W7.out])
  refine H3.out.mono ?_
  rintro e w8 ⟨rfl, b8⟩
  have B8 := Lib.hid (B7.out.trans (b8.mono B7.out.size))
  clear b8
  go_wp2
  go_ret
  exact ⟨by first | rfl | simp, B8.out⟩

def SmRel (w : World) (n : Nat) (i : Value) (wr : World) : Prop := ∃ k : Nat, k ≤ n ∧ k ≤ 250 ∧ i = .int .i64 (k : Int) ∧ wr = w
set_option maxRecDepth 100000 in
set_option maxHeartbeats 4000000 in
theorem small_c (A : Option Addr) (n c : Nat) (p : List Ins) (w : World) (hr : Rc 3 w w.heap.size A n c (ics p)) (hn : n ≤ maxLen) :
    Calls Tryd.prog 6 #[.slice A n c] w fun e w' => ∃ b : Bool, e = .returned (.bool b) ∧ (b = true → n ≤ 250) ∧ w' = w := by
  have Hr := Lib.hid hr
  simp only [maxLen] at hn
  clear hr
  go_enter Tryd.func6, Tryd.ntmps6
  go_wp2
  go_loopw [3] (fun i wr => SmRel w n i wr) (fun i _ => n - (intOf i).toNat)
  case atStart => exact ⟨0, Nat.zero_le _, by omega, rfl, rfl⟩
  case round =>
    obtain ⟨k, hk, hk2, rfl, rfl⟩ := hrel
    by_cases hlt : k < n
    · obtain ⟨b, o, x, rfl, hb, a0, a1, a2, hx⟩ := ics_at Hr.out hlt
      clear hx
      by_cases h25 : k = 250
      · subst h25
        go_wp2
        go_ret
        exact ⟨false, rfl, fun h => (by cases h), rfl⟩
      · have d1 : ((k : Int) == 250) = false := beq_eq_false_iff_ne.2 (by omega)
        obtain ⟨op, nn, t⟩ := x
        obtain ⟨X, hX, -, -, -⟩ := hide_st t
        dsimp only at a0 a1 a2
        unfold st at a2
        rw [← hX] at a2
        have hk3 : k + 1 ≤ 250 := by omega
        by_cases h11 : (1100 : Int) < (X.size : Int)
        · have d2 : decide ((1100 : Int) < (X.size : Int)) = true := decide_eq_true h11
          clear h11 hX h25
          go_wp2
          go_ret
          exact ⟨false, rfl, fun h => (by cases h), rfl⟩
        · have d2 : decide ((1100 : Int) < (X.size : Int)) = false := decide_eq_false h11
          clear h11 hX h25
          go_wp2
          go_roundw
          case rel => exact ⟨k + 1, hlt, hk3, by go_num, rfl⟩
          case measure => simp [intOf]; omega
    · obtain rfl : k = n := by omega
      go_wp2
      go_ret
      exact ⟨true, rfl, fun _ => hk2, rfl⟩
end Go.Proofs.YthkjhenaicbepaaDoor
