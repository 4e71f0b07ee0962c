/-
  The document's texted.
-/
import Derived.Test.YtkkjgiejnblopaaDoorVB
namespace Go.Proofs.YtkkjgiejnblopaaDoor
open Go.RowKit Vl

theorem turned97 (s : List UInt8) (h : s.length ≤ 1000000) (w : World) : Calls Tryd.prog 55 #[st s, .int .u8 97] w (RetV w (st (turned s 97))) := turned_c s h 97 (by decide) w
theorem turned65 (s : List UInt8) (h : s.length ≤ 1000000) (w : World) : Calls Tryd.prog 55 #[st s, .int .u8 65] w (RetV w (st (turned s 65))) := turned_c s h 65 (by decide) w
set_option maxRecDepth 100000 in
set_option maxHeartbeats 4000000 in
theorem texted_c (op : Int) (a b c : V) (hop : op = 9 ∨ op = 10 ∨ op = 11 ∨ op = 12 ∨ op = 13 ∨ op = 18 ∨ op = 19 ∨ op = 20 ∨ op = 21) (ha : I a.n) (hla : a.s.length ≤ 1000) (hlb : b.s.length ≤ 1000) (w : World) :
    Calls Tryd.prog 24 #[.int .i64 op, vv a, vv b, vv c] w (RetV w (vv (tex op a b c))) := by
  have hfl := figures_len ha
  obtain ⟨RR, hRR⟩ : ∃ RR, RR = vv (tex op a b c) := ⟨_, rfl⟩
  have hrek : vv (tex op a b c) = RR := hRR.symm
  unfold tex at hRR
  have HRR := Lib.hid (show Ending.returned RR = Ending.returned (vv (tex op a b c)) by rw [hrek])
  obtain ⟨R0, hR0⟩ : ∃ R0, R0 = vv (tex op a b c) := ⟨_, rfl⟩
  rw [← hR0] at HRR ⊢
  clear hrek hR0
  obtain ⟨t, n, s⟩ := a
  obtain ⟨t', n', s'⟩ := b
  obtain ⟨t2, n2, s2⟩ := c
  dsimp only at *
  obtain ⟨w0, hw0⟩ : ∃ w0, w0 = w.alloc (.cells #[.bool t, .int .i64 n, .string ⟨s.toArray⟩] 27) := ⟨_, rfl⟩
  have z0 : w0.heap.size = w.heap.size + 1 := by rw [hw0]; simp
  have b0 : Below w.heap.size w w0 := by rw [hw0]; exact (Below.refl _ _).alloc (Nat.le_refl _) _
  have x0 : Bx w0 w.heap.size (.bool t) (.int .i64 n) (.string ⟨s.toArray⟩) := by rw [hw0]; exact Bx.made _ _ _ _ _
  obtain ⟨w1, hw1⟩ : ∃ w1, w1 = w0.alloc (.cells #[.bool t', .int .i64 n', .string ⟨s'.toArray⟩] 27) := ⟨_, rfl⟩
  have z1 : w1.heap.size = w.heap.size + 2 := by rw [hw1]; simp [z0]
  have b1 : Below w0.heap.size w0 w1 := by rw [hw1]; exact (Below.refl _ _).alloc (Nat.le_refl _) _
  have y1 : Bx w1 w0.heap.size (.bool t') (.int .i64 n') (.string ⟨s'.toArray⟩) := by rw [hw1]; exact Bx.made _ _ _ _ _
  rw [z0] at y1
  obtain ⟨w2, hw2⟩ : ∃ w2, w2 = w1.alloc (.cells #[.bool t2, .int .i64 n2, .string ⟨s2.toArray⟩] 27) := ⟨_, rfl⟩
  have z2 : w2.heap.size = w.heap.size + 3 := by rw [hw2]; simp [z1]
  have b2 : Below w1.heap.size w1 w2 := by rw [hw2]; exact (Below.refl _ _).alloc (Nat.le_refl _) _
  have u2 : Bx w2 w1.heap.size (.bool t2) (.int .i64 n2) (.string ⟨s2.toArray⟩) := by rw [hw2]; exact Bx.made _ _ _ _ _
  rw [z1] at u2
  obtain ⟨w3, hw3⟩ : ∃ w3, w3 = w2.alloc (.cells #[.bool false, .int .i64 0, .string ⟨#[]⟩] 27) := ⟨_, rfl⟩
  have z3 : w3.heap.size = w.heap.size + 4 := by rw [hw3]; simp [z2]
  have b3 : Below w2.heap.size w2 w3 := by rw [hw3]; exact (Below.refl _ _).alloc (Nat.le_refl _) _
  have r3 : Bx w3 w2.heap.size (.bool false) (.int .i64 0) (.string ⟨#[]⟩) := by rw [hw3]; exact Bx.made _ _ _ _ _
  rw [z2] at r3
  have b23 : Below w1.heap.size w1 w3 := b2.trans (b3.mono (by omega))
  have b13 : Below w0.heap.size w0 w3 := b1.trans (b23.mono (by omega))
  have x3 := x0.below b13 x0.lt
  have y3 := y1.below b23 y1.lt
  have u3 := u2.below b3 u2.lt
  have bw3 := b0.trans (b13.mono (by omega))
  have W0 := Lib.hid hw0; have W1 := Lib.hid hw1; have W2 := Lib.hid hw2; have W3 := Lib.hid hw3; have Z0 := Lib.hid z0; have Z1 := Lib.hid z1; have Z2 := Lib.hid z2
  have X3 := Lib.hid x3; have Y3 := Lib.hid y3; have U3 := Lib.hid u3; have R3 := Lib.hid r3; have B3 := Lib.hid bw3
  clear hw0 hw1 hw2 hw3 b0 x0 b1 y1 b2 u2 b3 b23 b13 z0 z1 z2 x3 y3 u3 r3 bw3
  obtain ⟨c0, c1, c2, -, -, -, lx⟩ := X3.out
  obtain ⟨e0, e1, e2, -, -, -, ly⟩ := Y3.out
  obtain ⟨i0, i1, i2, -, -, -, lu⟩ := U3.out
  obtain ⟨o0, o1, o2, f0, f1, f2, lr⟩ := R3.out
  have k1 : ¬ 9223372036854775807 < s.length + s'.length := by omega
  rcases hop with rfl | rfl | rfl | rfl | rfl | rfl | rfl | rfl | rfl
  · go_enter Tryd.func24, Tryd.ntmps24
    go_wp2_with (first | rw [← W0.out, ← W1.out, ← W2.out, ← W3.out, Z0.out, Z1.out, Z2.out] | rw [← W0.out, ← W1.out, ← W2.out, ← W3.out, Z0.out, Z1.out] | rw [← W0.out, ← W1.out, ← W2.out, ← W3.out])
    refine (text_p (s ++ s') (by rw [List.length_append]; omega) _).mono ?_
    rintro e w6 ⟨rfl, b6⟩
    have z6 := b6.size
    have X6 := Lib.hid (X3.out.below b6 (by omega)); have Y6 := Lib.hid (Y3.out.below b6 (by omega)); have U6 := Lib.hid (U3.out.below b6 (by omega)); have R6 := Lib.hid (R3.out.below b6 (by omega)); have B6 := Lib.hid (B3.out.trans (b6.mono (by omega)))
    clear c0 c1 c2 e0 e1 e2 i0 i1 i2 o0 o1 o2 f0 f1 f2 lx ly lu lr
    obtain ⟨c0, c1, c2, -, -, -, lx⟩ := X6.out
    obtain ⟨e0, e1, e2, -, -, -, ly⟩ := Y6.out
    obtain ⟨i0, i1, i2, -, -, -, lu⟩ := U6.out
    obtain ⟨o0, o1, o2, f0, f1, f2, lr⟩ := R6.out
    go_wp2
    change bodyPost _ _ _ _ _ (put3 w6 (w.heap.size + 3) _ _ _)
    have s0 := fun v0 v1 v2 => (put3_box R6.out v0 v1 v2).c0
    have s1 := fun v0 v1 v2 => (put3_box R6.out v0 v1 v2).c1
    have s2 := fun v0 v1 v2 => (put3_box R6.out v0 v1 v2).c2
    refine bodyPost_ret (v := RR) ?_ rfl ⟨HRR.out, B6.out.trans ((put3_below _ _ _ _ _).mono (by omega))⟩
    simp [results, Tryd.results24, go_sem, s0, s1, s2, hRR, txt]
  · go_enter Tryd.func24, Tryd.ntmps24
    go_wp2_with (first | rw [← W0.out, ← W1.out, ← W2.out, ← W3.out, Z0.out, Z1.out, Z2.out] | rw [← W0.out, ← W1.out, ← W2.out, ← W3.out, Z0.out, Z1.out] | rw [← W0.out, ← W1.out, ← W2.out, ← W3.out])
    refine (num_p _ _).mono ?_
    rintro e w6 ⟨rfl, b6⟩
    have z6 := b6.size
    have X6 := Lib.hid (X3.out.below b6 (by omega)); have Y6 := Lib.hid (Y3.out.below b6 (by omega)); have U6 := Lib.hid (U3.out.below b6 (by omega)); have R6 := Lib.hid (R3.out.below b6 (by omega)); have B6 := Lib.hid (B3.out.trans (b6.mono (by omega)))
    clear c0 c1 c2 e0 e1 e2 i0 i1 i2 o0 o1 o2 f0 f1 f2 lx ly lu lr
    obtain ⟨c0, c1, c2, -, -, -, lx⟩ := X6.out
    obtain ⟨e0, e1, e2, -, -, -, ly⟩ := Y6.out
    obtain ⟨i0, i1, i2, -, -, -, lu⟩ := U6.out
    obtain ⟨o0, o1, o2, f0, f1, f2, lr⟩ := R6.out
    go_wp2
    change bodyPost _ _ _ _ _ (put3 w6 (w.heap.size + 3) _ _ _)
    have s0 := fun v0 v1 v2 => (put3_box R6.out v0 v1 v2).c0
    have s1 := fun v0 v1 v2 => (put3_box R6.out v0 v1 v2).c1
    have s2 := fun v0 v1 v2 => (put3_box R6.out v0 v1 v2).c2
    refine bodyPost_ret (v := RR) ?_ rfl ⟨HRR.out, B6.out.trans ((put3_below _ _ _ _ _).mono (by omega))⟩
    simp [results, Tryd.results24, go_sem, s0, s1, s2, hRR, num]
  · go_enter Tryd.func24, Tryd.ntmps24
    go_wp2_with (first | rw [← W0.out, ← W1.out, ← W2.out, ← W3.out, Z0.out, Z1.out, Z2.out] | rw [← W0.out, ← W1.out, ← W2.out, ← W3.out, Z0.out, Z1.out] | rw [← W0.out, ← W1.out, ← W2.out, ← W3.out])
    refine (slice_c s (by omega) n' n2 _).mono ?_
    rintro e w4 ⟨rfl, rfl⟩
    go_wp2_with fail
    refine (text_p (slc s n' n2) (by have := slc_len s n' n2; omega) _).mono ?_
    rintro e w6 ⟨rfl, b6⟩
    have z6 := b6.size
    have X6 := Lib.hid (X3.out.below b6 (by omega)); have Y6 := Lib.hid (Y3.out.below b6 (by omega)); have U6 := Lib.hid (U3.out.below b6 (by omega)); have R6 := Lib.hid (R3.out.below b6 (by omega)); have B6 := Lib.hid (B3.out.trans (b6.mono (by omega)))
    clear c0 c1 c2 e0 e1 e2 i0 i1 i2 o0 o1 o2 f0 f1 f2 lx ly lu lr
    obtain ⟨c0, c1, c2, -, -, -, lx⟩ := X6.out
    obtain ⟨e0, e1, e2, -, -, -, ly⟩ := Y6.out
    obtain ⟨i0, i1, i2, -, -, -, lu⟩ := U6.out
    obtain ⟨o0, o1, o2, f0, f1, f2, lr⟩ := R6.out
    go_wp2
    change bodyPost _ _ _ _ _ (put3 w6 (w.heap.size + 3) _ _ _)
    have s0 := fun v0 v1 v2 => (put3_box R6.out v0 v1 v2).c0
    have s1 := fun v0 v1 v2 => (put3_box R6.out v0 v1 v2).c1
    have s2 := fun v0 v1 v2 => (put3_box R6.out v0 v1 v2).c2
    refine bodyPost_ret (v := RR) ?_ rfl ⟨HRR.out, B6.out.trans ((put3_below _ _ _ _ _).mono (by omega))⟩
    simp [results, Tryd.results24, go_sem, s0, s1, s2, hRR, txt]
  · go_enter Tryd.func24, Tryd.ntmps24
    go_wp2_with (first | rw [← W0.out, ← W1.out, ← W2.out, ← W3.out, Z0.out, Z1.out, Z2.out] | rw [← W0.out, ← W1.out, ← W2.out, ← W3.out, Z0.out, Z1.out] | rw [← W0.out, ← W1.out, ← W2.out, ← W3.out])
    refine (turned97 s (by omega) _).mono ?_
    rintro e w4 ⟨rfl, b4⟩
    have z4 := b4.size
    have X4 := Lib.hid (X3.out.below b4 (by omega)); have Y4 := Lib.hid (Y3.out.below b4 (by omega)); have U4 := Lib.hid (U3.out.below b4 (by omega)); have R4 := Lib.hid (R3.out.below b4 (by omega)); have B4 := Lib.hid (B3.out.trans (b4.mono (by omega)))
    clear c0 c1 c2 e0 e1 e2 i0 i1 i2 o0 o1 o2 f0 f1 f2 lx ly lu lr
    obtain ⟨c0, c1, c2, -, -, -, lx⟩ := X4.out
    obtain ⟨e0, e1, e2, -, -, -, ly⟩ := Y4.out
    obtain ⟨i0, i1, i2, -, -, -, lu⟩ := U4.out
    obtain ⟨o0, o1, o2, f0, f1, f2, lr⟩ := R4.out
    go_wp2_with fail
    refine (text_p (turned s 97) (by rw [turned_len]; omega) _).mono ?_
    rintro e w6 ⟨rfl, b6⟩
    have z6 := b6.size
    have X6 := Lib.hid (X4.out.below b6 (by omega)); have Y6 := Lib.hid (Y4.out.below b6 (by omega)); have U6 := Lib.hid (U4.out.below b6 (by omega)); have R6 := Lib.hid (R4.out.below b6 (by omega)); have B6 := Lib.hid (B4.out.trans (b6.mono (by omega)))
    clear c0 c1 c2 e0 e1 e2 i0 i1 i2 o0 o1 o2 f0 f1 f2 lx ly lu lr
    obtain ⟨c0, c1, c2, -, -, -, lx⟩ := X6.out
    obtain ⟨e0, e1, e2, -, -, -, ly⟩ := Y6.out
    obtain ⟨i0, i1, i2, -, -, -, lu⟩ := U6.out
    obtain ⟨o0, o1, o2, f0, f1, f2, lr⟩ := R6.out
    go_wp2
    change bodyPost _ _ _ _ _ (put3 w6 (w.heap.size + 3) _ _ _)
    have s0 := fun v0 v1 v2 => (put3_box R6.out v0 v1 v2).c0
    have s1 := fun v0 v1 v2 => (put3_box R6.out v0 v1 v2).c1
    have s2 := fun v0 v1 v2 => (put3_box R6.out v0 v1 v2).c2
    refine bodyPost_ret (v := RR) ?_ rfl ⟨HRR.out, B6.out.trans ((put3_below _ _ _ _ _).mono (by omega))⟩
    simp [results, Tryd.results24, go_sem, s0, s1, s2, hRR, txt]
  · go_enter Tryd.func24, Tryd.ntmps24
    go_wp2_with (first | rw [← W0.out, ← W1.out, ← W2.out, ← W3.out, Z0.out, Z1.out, Z2.out] | rw [← W0.out, ← W1.out, ← W2.out, ← W3.out, Z0.out, Z1.out] | rw [← W0.out, ← W1.out, ← W2.out, ← W3.out])
    refine (turned65 s (by omega) _).mono ?_
    rintro e w4 ⟨rfl, b4⟩
    have z4 := b4.size
    have X4 := Lib.hid (X3.out.below b4 (by omega)); have Y4 := Lib.hid (Y3.out.below b4 (by omega)); have U4 := Lib.hid (U3.out.below b4 (by omega)); have R4 := Lib.hid (R3.out.below b4 (by omega)); have B4 := Lib.hid (B3.out.trans (b4.mono (by omega)))
    clear c0 c1 c2 e0 e1 e2 i0 i1 i2 o0 o1 o2 f0 f1 f2 lx ly lu lr
    obtain ⟨c0, c1, c2, -, -, -, lx⟩ := X4.out
    obtain ⟨e0, e1, e2, -, -, -, ly⟩ := Y4.out
    obtain ⟨i0, i1, i2, -, -, -, lu⟩ := U4.out
    obtain ⟨o0, o1, o2, f0, f1, f2, lr⟩ := R4.out
    go_wp2_with fail
    refine (text_p (turned s 65) (by rw [turned_len]; omega) _).mono ?_
    rintro e w6 ⟨rfl, b6⟩
    have z6 := b6.size
    have X6 := Lib.hid (X4.out.below b6 (by omega)); have Y6 := Lib.hid (Y4.out.below b6 (by omega)); have U6 := Lib.hid (U4.out.below b6 (by omega)); have R6 := Lib.hid (R4.out.below b6 (by omega)); have B6 := Lib.hid (B4.out.trans (b6.mono (by omega)))
    clear c0 c1 c2 e0 e1 e2 i0 i1 i2 o0 o1 o2 f0 f1 f2 lx ly lu lr
    obtain ⟨c0, c1, c2, -, -, -, lx⟩ := X6.out
    obtain ⟨e0, e1, e2, -, -, -, ly⟩ := Y6.out
    obtain ⟨i0, i1, i2, -, -, -, lu⟩ := U6.out
    obtain ⟨o0, o1, o2, f0, f1, f2, lr⟩ := R6.out
    go_wp2
    change bodyPost _ _ _ _ _ (put3 w6 (w.heap.size + 3) _ _ _)
    have s0 := fun v0 v1 v2 => (put3_box R6.out v0 v1 v2).c0
    have s1 := fun v0 v1 v2 => (put3_box R6.out v0 v1 v2).c1
    have s2 := fun v0 v1 v2 => (put3_box R6.out v0 v1 v2).c2
    refine bodyPost_ret (v := RR) ?_ rfl ⟨HRR.out, B6.out.trans ((put3_below _ _ _ _ _).mono (by omega))⟩
    simp [results, Tryd.results24, go_sem, s0, s1, s2, hRR, txt]
  · go_enter Tryd.func24, Tryd.ntmps24
    go_wp2_with (first | rw [← W0.out, ← W1.out, ← W2.out, ← W3.out, Z0.out, Z1.out, Z2.out] | rw [← W0.out, ← W1.out, ← W2.out, ← W3.out, Z0.out, Z1.out] | rw [← W0.out, ← W1.out, ← W2.out, ← W3.out])
    refine (number_c s (by omega) _).mono ?_
    rintro e w4 ⟨rfl, rfl⟩
    go_wp2_with fail
    refine (num_p _ _).mono ?_
    rintro e w6 ⟨rfl, b6⟩
    have z6 := b6.size
    have X6 := Lib.hid (X3.out.below b6 (by omega)); have Y6 := Lib.hid (Y3.out.below b6 (by omega)); have U6 := Lib.hid (U3.out.below b6 (by omega)); have R6 := Lib.hid (R3.out.below b6 (by omega)); have B6 := Lib.hid (B3.out.trans (b6.mono (by omega)))
    clear c0 c1 c2 e0 e1 e2 i0 i1 i2 o0 o1 o2 f0 f1 f2 lx ly lu lr
    obtain ⟨c0, c1, c2, -, -, -, lx⟩ := X6.out
    obtain ⟨e0, e1, e2, -, -, -, ly⟩ := Y6.out
    obtain ⟨i0, i1, i2, -, -, -, lu⟩ := U6.out
    obtain ⟨o0, o1, o2, f0, f1, f2, lr⟩ := R6.out
    go_wp2
    change bodyPost _ _ _ _ _ (put3 w6 (w.heap.size + 3) _ _ _)
    have s0 := fun v0 v1 v2 => (put3_box R6.out v0 v1 v2).c0
    have s1 := fun v0 v1 v2 => (put3_box R6.out v0 v1 v2).c1
    have s2 := fun v0 v1 v2 => (put3_box R6.out v0 v1 v2).c2
    refine bodyPost_ret (v := RR) ?_ rfl ⟨HRR.out, B6.out.trans ((put3_below _ _ _ _ _).mono (by omega))⟩
    simp [results, Tryd.results24, go_sem, s0, s1, s2, hRR, num]
  · go_enter Tryd.func24, Tryd.ntmps24
    go_wp2_with (first | rw [← W0.out, ← W1.out, ← W2.out, ← W3.out, Z0.out, Z1.out, Z2.out] | rw [← W0.out, ← W1.out, ← W2.out, ← W3.out, Z0.out, Z1.out] | rw [← W0.out, ← W1.out, ← W2.out, ← W3.out])
    refine (figuresI_c n ha _).mono ?_
    rintro e w4 ⟨rfl, b4⟩
    have z4 := b4.size
    have X4 := Lib.hid (X3.out.below b4 (by omega)); have Y4 := Lib.hid (Y3.out.below b4 (by omega)); have U4 := Lib.hid (U3.out.below b4 (by omega)); have R4 := Lib.hid (R3.out.below b4 (by omega)); have B4 := Lib.hid (B3.out.trans (b4.mono (by omega)))
    clear c0 c1 c2 e0 e1 e2 i0 i1 i2 o0 o1 o2 f0 f1 f2 lx ly lu lr
    obtain ⟨c0, c1, c2, -, -, -, lx⟩ := X4.out
    obtain ⟨e0, e1, e2, -, -, -, ly⟩ := Y4.out
    obtain ⟨i0, i1, i2, -, -, -, lu⟩ := U4.out
    obtain ⟨o0, o1, o2, f0, f1, f2, lr⟩ := R4.out
    go_wp2_with fail
    refine (text_p (figures n) (by omega) _).mono ?_
    rintro e w6 ⟨rfl, b6⟩
    have z6 := b6.size
    have X6 := Lib.hid (X4.out.below b6 (by omega)); have Y6 := Lib.hid (Y4.out.below b6 (by omega)); have U6 := Lib.hid (U4.out.below b6 (by omega)); have R6 := Lib.hid (R4.out.below b6 (by omega)); have B6 := Lib.hid (B4.out.trans (b6.mono (by omega)))
    clear c0 c1 c2 e0 e1 e2 i0 i1 i2 o0 o1 o2 f0 f1 f2 lx ly lu lr
    obtain ⟨c0, c1, c2, -, -, -, lx⟩ := X6.out
    obtain ⟨e0, e1, e2, -, -, -, ly⟩ := Y6.out
    obtain ⟨i0, i1, i2, -, -, -, lu⟩ := U6.out
    obtain ⟨o0, o1, o2, f0, f1, f2, lr⟩ := R6.out
    go_wp2
    change bodyPost _ _ _ _ _ (put3 w6 (w.heap.size + 3) _ _ _)
    have s0 := fun v0 v1 v2 => (put3_box R6.out v0 v1 v2).c0
    have s1 := fun v0 v1 v2 => (put3_box R6.out v0 v1 v2).c1
    have s2 := fun v0 v1 v2 => (put3_box R6.out v0 v1 v2).c2
    refine bodyPost_ret (v := RR) ?_ rfl ⟨HRR.out, B6.out.trans ((put3_below _ _ _ _ _).mono (by omega))⟩
    simp [results, Tryd.results24, go_sem, s0, s1, s2, hRR, txt]
  · go_enter Tryd.func24, Tryd.ntmps24
    go_wp2_with (first | rw [← W0.out, ← W1.out, ← W2.out, ← W3.out, Z0.out, Z1.out, Z2.out] | rw [← W0.out, ← W1.out, ← W2.out, ← W3.out, Z0.out, Z1.out] | rw [← W0.out, ← W1.out, ← W2.out, ← W3.out])
    refine (hash_c s (by omega) _).mono ?_
    rintro e w4 ⟨rfl, rfl⟩
    go_wp2_with fail
    refine (num_p _ _).mono ?_
    rintro e w6 ⟨rfl, b6⟩
    have z6 := b6.size
    have X6 := Lib.hid (X3.out.below b6 (by omega)); have Y6 := Lib.hid (Y3.out.below b6 (by omega)); have U6 := Lib.hid (U3.out.below b6 (by omega)); have R6 := Lib.hid (R3.out.below b6 (by omega)); have B6 := Lib.hid (B3.out.trans (b6.mono (by omega)))
    clear c0 c1 c2 e0 e1 e2 i0 i1 i2 o0 o1 o2 f0 f1 f2 lx ly lu lr
    obtain ⟨c0, c1, c2, -, -, -, lx⟩ := X6.out
    obtain ⟨e0, e1, e2, -, -, -, ly⟩ := Y6.out
    obtain ⟨i0, i1, i2, -, -, -, lu⟩ := U6.out
    obtain ⟨o0, o1, o2, f0, f1, f2, lr⟩ := R6.out
    go_wp2
    change bodyPost _ _ _ _ _ (put3 w6 (w.heap.size + 3) _ _ _)
    have s0 := fun v0 v1 v2 => (put3_box R6.out v0 v1 v2).c0
    have s1 := fun v0 v1 v2 => (put3_box R6.out v0 v1 v2).c1
    have s2 := fun v0 v1 v2 => (put3_box R6.out v0 v1 v2).c2
    refine bodyPost_ret (v := RR) ?_ rfl ⟨HRR.out, B6.out.trans ((put3_below _ _ _ _ _).mono (by omega))⟩
    simp [results, Tryd.results24, go_sem, s0, s1, s2, hRR, num]
  · go_enter Tryd.func24, Tryd.ntmps24
    go_wp2_with (first | rw [← W0.out, ← W1.out, ← W2.out, ← W3.out, Z0.out, Z1.out, Z2.out] | rw [← W0.out, ← W1.out, ← W2.out, ← W3.out, Z0.out, Z1.out] | rw [← W0.out, ← W1.out, ← W2.out, ← W3.out])
    refine (find_c s s' (by omega) (by omega) _).mono ?_
    rintro e w4 ⟨rfl, rfl⟩
    go_wp2_with fail
    refine (num_p _ _).mono ?_
    rintro e w6 ⟨rfl, b6⟩
    have z6 := b6.size
    have X6 := Lib.hid (X3.out.below b6 (by omega)); have Y6 := Lib.hid (Y3.out.below b6 (by omega)); have U6 := Lib.hid (U3.out.below b6 (by omega)); have R6 := Lib.hid (R3.out.below b6 (by omega)); have B6 := Lib.hid (B3.out.trans (b6.mono (by omega)))
    clear c0 c1 c2 e0 e1 e2 i0 i1 i2 o0 o1 o2 f0 f1 f2 lx ly lu lr
    obtain ⟨c0, c1, c2, -, -, -, lx⟩ := X6.out
    obtain ⟨e0, e1, e2, -, -, -, ly⟩ := Y6.out
    obtain ⟨i0, i1, i2, -, -, -, lu⟩ := U6.out
    obtain ⟨o0, o1, o2, f0, f1, f2, lr⟩ := R6.out
    go_wp2
    change bodyPost _ _ _ _ _ (put3 w6 (w.heap.size + 3) _ _ _)
    have s0 := fun v0 v1 v2 => (put3_box R6.out v0 v1 v2).c0
    have s1 := fun v0 v1 v2 => (put3_box R6.out v0 v1 v2).c1
    have s2 := fun v0 v1 v2 => (put3_box R6.out v0 v1 v2).c2
    refine bodyPost_ret (v := RR) ?_ rfl ⟨HRR.out, B6.out.trans ((put3_below _ _ _ _ _).mono (by omega))⟩
    simp [results, Tryd.results24, go_sem, s0, s1, s2, hRR, num]
end Go.Proofs.YtkkjgiejnblopaaDoor
