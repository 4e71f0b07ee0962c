/-
  The document's reckoned.
-/
import Derived.Test.YtkkjgiejnblopaaDoorVA
namespace Go.Proofs.YtkkjgiejnblopaaDoor
open Go.RowKit Vl

theorem yes_p (b : Bool) (w : World) : Calls Tryd.prog 51 #[.bool b] w (RetV w (.agg #[.bool false, .int .i64 (if b then 1 else 0), .string ⟨#[]⟩])) := yes_c b w
set_option maxRecDepth 100000 in
set_option maxHeartbeats 4000000 in
theorem reckoned_c (op : Int) (a b c : V) (hop : op = 4 ∨ op = 5 ∨ op = 6 ∨ op = 7 ∨ op = 8 ∨ op = 14 ∨ op = 15 ∨ op = 16 ∨ op = 17) (ha : I a.n) (hb : I b.n) (w : World) :
    Calls Tryd.prog 23 #[.int .i64 op, vv a, vv b, vv c] w (RetV w (vv (rek op a b c))) := by
  have hdv := fun W => div_c a.n b.n ha hb W
  have hcmp := fun W => compare_c a b W
  obtain ⟨q, hq⟩ : ∃ q, q = (dv a.n b.n).1 := ⟨_, rfl⟩
  obtain ⟨r, hr⟩ : ∃ r, r = (dv a.n b.n).2 := ⟨_, rfl⟩
  obtain ⟨cm, hcm⟩ : ∃ cm, cm = cmp a b := ⟨_, rfl⟩
  simp only [← hq, ← hr] at hdv
  simp only [← hcm] at hcmp
  obtain ⟨RR, hRR⟩ : ∃ RR, RR = vv (rek op a b c) := ⟨_, rfl⟩
  have h64 : ∀ x, w64 x = RowKit.wrap64 x := fun x => IntWalk.i64_left x
  have hrek : vv (rek op a b c) = RR := hRR.symm
  unfold rek at hRR
  rw [← hq, ← hr, ← hcm, h64, h64, h64] at hRR
  have HRR := Lib.hid (show Ending.returned RR = Ending.returned (vv (rek op a b c)) by rw [hrek])
  obtain ⟨R0, hR0⟩ : ∃ R0, R0 = vv (rek op a b c) := ⟨_, rfl⟩
  rw [← hR0] at HRR ⊢
  have Hdv := Lib.hid hdv; have Hcmp := Lib.hid hcmp
  clear hq hr hcm hdv hcmp ha hb hrek hR0 h64
  obtain ⟨t, n, s⟩ := a
  obtain ⟨t', n', s'⟩ := b
  obtain ⟨t2, n2, s2⟩ := c
  dsimp only at *
  obtain ⟨w0, hw0⟩ : ∃ w0, w0 = w.alloc (.cells #[.bool t, .int .i64 n, .string ⟨s.toArray⟩] 27) := ⟨_, rfl⟩
  have z0 : w0.heap.size = w.heap.size + 1 := by rw [hw0]; simp
  have b0 : Below w.heap.size w w0 := by rw [hw0]; exact (Below.refl _ _).alloc (Nat.le_refl _) _
  have x0 : Bx w0 w.heap.size (.bool t) (.int .i64 n) (.string ⟨s.toArray⟩) := by rw [hw0]; exact Bx.made _ _ _ _ _
  obtain ⟨w1, hw1⟩ : ∃ w1, w1 = w0.alloc (.cells #[.bool t', .int .i64 n', .string ⟨s'.toArray⟩] 27) := ⟨_, rfl⟩
  have z1 : w1.heap.size = w.heap.size + 2 := by rw [hw1]; simp [z0]
  have b1 : Below w0.heap.size w0 w1 := by rw [hw1]; exact (Below.refl _ _).alloc (Nat.le_refl _) _
  have y1 : Bx w1 w0.heap.size (.bool t') (.int .i64 n') (.string ⟨s'.toArray⟩) := by rw [hw1]; exact Bx.made _ _ _ _ _
  rw [z0] at y1
  obtain ⟨w2, hw2⟩ : ∃ w2, w2 = w1.alloc (.cells #[.bool t2, .int .i64 n2, .string ⟨s2.toArray⟩] 27) := ⟨_, rfl⟩
  have z2 : w2.heap.size = w.heap.size + 3 := by rw [hw2]; simp [z1]
  have b2 : Below w1.heap.size w1 w2 := by rw [hw2]; exact (Below.refl _ _).alloc (Nat.le_refl _) _
  have u2 : Bx w2 w1.heap.size (.bool t2) (.int .i64 n2) (.string ⟨s2.toArray⟩) := by rw [hw2]; exact Bx.made _ _ _ _ _
  rw [z1] at u2
  obtain ⟨w3, hw3⟩ : ∃ w3, w3 = w2.alloc (.cells #[.bool false, .int .i64 0, .string ⟨#[]⟩] 27) := ⟨_, rfl⟩
  have z3 : w3.heap.size = w.heap.size + 4 := by rw [hw3]; simp [z2]
  have b3 : Below w2.heap.size w2 w3 := by rw [hw3]; exact (Below.refl _ _).alloc (Nat.le_refl _) _
  have r3 : Bx w3 w2.heap.size (.bool false) (.int .i64 0) (.string ⟨#[]⟩) := by rw [hw3]; exact Bx.made _ _ _ _ _
  rw [z2] at r3
  have b23 : Below w1.heap.size w1 w3 := b2.trans (b3.mono (by omega))
  have b13 : Below w0.heap.size w0 w3 := b1.trans (b23.mono (by omega))
  have x3 := x0.below b13 x0.lt
  have y3 := y1.below b23 y1.lt
  have u3 := u2.below b3 u2.lt
  have bw3 := b0.trans (b13.mono (by omega))
  have W0 := Lib.hid hw0; have W1 := Lib.hid hw1; have W2 := Lib.hid hw2; have W3 := Lib.hid hw3; have Z0 := Lib.hid z0; have Z1 := Lib.hid z1; have Z2 := Lib.hid z2
  have X3 := Lib.hid x3; have Y3 := Lib.hid y3; have U3 := Lib.hid u3; have R3 := Lib.hid r3; have B3 := Lib.hid bw3
  clear hw0 hw1 hw2 hw3 b0 x0 b1 y1 b2 u2 b3 b23 b13 z0 z1 z2 x3 y3 u3 r3 bw3
  obtain ⟨c0, c1, c2, -, -, -, lx⟩ := X3.out
  obtain ⟨e0, e1, e2, -, -, -, ly⟩ := Y3.out
  obtain ⟨i0, i1, i2, -, -, -, lu⟩ := U3.out
  obtain ⟨o0, o1, o2, f0, f1, f2, lr⟩ := R3.out
  rcases hop with rfl | rfl | rfl | rfl | rfl | rfl | rfl | rfl | rfl
  · go_enter Tryd.func23, Tryd.ntmps23
    go_wp2_with (first | rw [← W0.out, ← W1.out, ← W2.out, ← W3.out, Z0.out, Z1.out, Z2.out] | rw [← W0.out, ← W1.out, ← W2.out, ← W3.out, Z0.out, Z1.out] | rw [← W0.out, ← W1.out, ← W2.out, ← W3.out])
    refine (Hdv.out w3).mono ?_
    rintro e w4 ⟨rfl, nd, rfl⟩
    have b4 : Below w3.heap.size w3 (w3.drewN nd) := below_drewN (Below.refl _ _) _
    have X4 : Hid (Bx (w3.drewN nd) _ _ _ _) := Lib.hid (X3.out.below b4 lx); have Y4 : Hid (Bx (w3.drewN nd) _ _ _ _) := Lib.hid (Y3.out.below b4 ly); have U4 : Hid (Bx (w3.drewN nd) _ _ _ _) := Lib.hid (U3.out.below b4 lu); have R4 : Hid (Bx (w3.drewN nd) _ _ _ _) := Lib.hid (R3.out.below b4 lr); have B4 := Lib.hid (B3.out.trans (b4.mono (by omega)))
    obtain ⟨w4, hw4⟩ : ∃ w4, w4 = w3.drewN nd := ⟨_, rfl⟩
    have z4 : w4.heap.size = w3.heap.size := by rw [hw4]; rfl
    rw [← hw4] at X4 Y4 U4 R4 B4 b4 ⊢
    clear hw4 b4
    clear c0 c1 c2 e0 e1 e2 i0 i1 i2 o0 o1 o2 f0 f1 f2 lx ly lu lr
    obtain ⟨c0, c1, c2, -, -, -, lx⟩ := X4.out
    obtain ⟨e0, e1, e2, -, -, -, ly⟩ := Y4.out
    obtain ⟨i0, i1, i2, -, -, -, lu⟩ := U4.out
    obtain ⟨o0, o1, o2, f0, f1, f2, lr⟩ := R4.out
    go_wp2_with fail
    refine (num_p _ _).mono ?_
    rintro e w6 ⟨rfl, b6⟩
    have z6 := b6.size
    have X6 := Lib.hid (X4.out.below b6 (by omega)); have Y6 := Lib.hid (Y4.out.below b6 (by omega)); have U6 := Lib.hid (U4.out.below b6 (by omega)); have R6 := Lib.hid (R4.out.below b6 (by omega)); have B6 := Lib.hid (B4.out.trans (b6.mono (by omega)))
    clear c0 c1 c2 e0 e1 e2 i0 i1 i2 o0 o1 o2 f0 f1 f2 lx ly lu lr
    obtain ⟨c0, c1, c2, -, -, -, lx⟩ := X6.out
    obtain ⟨e0, e1, e2, -, -, -, ly⟩ := Y6.out
    obtain ⟨i0, i1, i2, -, -, -, lu⟩ := U6.out
    obtain ⟨o0, o1, o2, f0, f1, f2, lr⟩ := R6.out
    go_wp2
    change bodyPost _ _ _ _ _ (put3 w6 (w.heap.size + 3) _ _ _)
    have s0 := fun v0 v1 v2 => (put3_box R6.out v0 v1 v2).c0
    have s1 := fun v0 v1 v2 => (put3_box R6.out v0 v1 v2).c1
    have s2 := fun v0 v1 v2 => (put3_box R6.out v0 v1 v2).c2
    refine bodyPost_ret (v := RR) ?_ rfl ⟨HRR.out, B6.out.trans ((put3_below _ _ _ _ _).mono (by omega))⟩
    simp [results, Tryd.results23, go_sem, s0, s1, s2, hRR, num]
  · go_enter Tryd.func23, Tryd.ntmps23
    go_wp2_with (first | rw [← W0.out, ← W1.out, ← W2.out, ← W3.out, Z0.out, Z1.out, Z2.out] | rw [← W0.out, ← W1.out, ← W2.out, ← W3.out, Z0.out, Z1.out] | rw [← W0.out, ← W1.out, ← W2.out, ← W3.out])
    refine (Hdv.out w3).mono ?_
    rintro e w4 ⟨rfl, nd, rfl⟩
    have b4 : Below w3.heap.size w3 (w3.drewN nd) := below_drewN (Below.refl _ _) _
    have X4 : Hid (Bx (w3.drewN nd) _ _ _ _) := Lib.hid (X3.out.below b4 lx); have Y4 : Hid (Bx (w3.drewN nd) _ _ _ _) := Lib.hid (Y3.out.below b4 ly); have U4 : Hid (Bx (w3.drewN nd) _ _ _ _) := Lib.hid (U3.out.below b4 lu); have R4 : Hid (Bx (w3.drewN nd) _ _ _ _) := Lib.hid (R3.out.below b4 lr); have B4 := Lib.hid (B3.out.trans (b4.mono (by omega)))
    obtain ⟨w4, hw4⟩ : ∃ w4, w4 = w3.drewN nd := ⟨_, rfl⟩
    have z4 : w4.heap.size = w3.heap.size := by rw [hw4]; rfl
    rw [← hw4] at X4 Y4 U4 R4 B4 b4 ⊢
    clear hw4 b4
    clear c0 c1 c2 e0 e1 e2 i0 i1 i2 o0 o1 o2 f0 f1 f2 lx ly lu lr
    obtain ⟨c0, c1, c2, -, -, -, lx⟩ := X4.out
    obtain ⟨e0, e1, e2, -, -, -, ly⟩ := Y4.out
    obtain ⟨i0, i1, i2, -, -, -, lu⟩ := U4.out
    obtain ⟨o0, o1, o2, f0, f1, f2, lr⟩ := R4.out
    go_wp2_with fail
    refine (num_p _ _).mono ?_
    rintro e w6 ⟨rfl, b6⟩
    have z6 := b6.size
    have X6 := Lib.hid (X4.out.below b6 (by omega)); have Y6 := Lib.hid (Y4.out.below b6 (by omega)); have U6 := Lib.hid (U4.out.below b6 (by omega)); have R6 := Lib.hid (R4.out.below b6 (by omega)); have B6 := Lib.hid (B4.out.trans (b6.mono (by omega)))
    clear c0 c1 c2 e0 e1 e2 i0 i1 i2 o0 o1 o2 f0 f1 f2 lx ly lu lr
    obtain ⟨c0, c1, c2, -, -, -, lx⟩ := X6.out
    obtain ⟨e0, e1, e2, -, -, -, ly⟩ := Y6.out
    obtain ⟨i0, i1, i2, -, -, -, lu⟩ := U6.out
    obtain ⟨o0, o1, o2, f0, f1, f2, lr⟩ := R6.out
    go_wp2
    change bodyPost _ _ _ _ _ (put3 w6 (w.heap.size + 3) _ _ _)
    have s0 := fun v0 v1 v2 => (put3_box R6.out v0 v1 v2).c0
    have s1 := fun v0 v1 v2 => (put3_box R6.out v0 v1 v2).c1
    have s2 := fun v0 v1 v2 => (put3_box R6.out v0 v1 v2).c2
    refine bodyPost_ret (v := RR) ?_ rfl ⟨HRR.out, B6.out.trans ((put3_below _ _ _ _ _).mono (by omega))⟩
    simp [results, Tryd.results23, go_sem, s0, s1, s2, hRR, num]
  · go_enter Tryd.func23, Tryd.ntmps23
    go_wp2_with (first | rw [← W0.out, ← W1.out, ← W2.out, ← W3.out, Z0.out, Z1.out, Z2.out] | rw [← W0.out, ← W1.out, ← W2.out, ← W3.out, Z0.out, Z1.out] | rw [← W0.out, ← W1.out, ← W2.out, ← W3.out])
    refine (Hdv.out w3).mono ?_
    rintro e w4 ⟨rfl, nd, rfl⟩
    have b4 : Below w3.heap.size w3 (w3.drewN nd) := below_drewN (Below.refl _ _) _
    have X4 : Hid (Bx (w3.drewN nd) _ _ _ _) := Lib.hid (X3.out.below b4 lx); have Y4 : Hid (Bx (w3.drewN nd) _ _ _ _) := Lib.hid (Y3.out.below b4 ly); have U4 : Hid (Bx (w3.drewN nd) _ _ _ _) := Lib.hid (U3.out.below b4 lu); have R4 : Hid (Bx (w3.drewN nd) _ _ _ _) := Lib.hid (R3.out.below b4 lr); have B4 := Lib.hid (B3.out.trans (b4.mono (by omega)))
    obtain ⟨w4, hw4⟩ : ∃ w4, w4 = w3.drewN nd := ⟨_, rfl⟩
    have z4 : w4.heap.size = w3.heap.size := by rw [hw4]; rfl
    rw [← hw4] at X4 Y4 U4 R4 B4 b4 ⊢
    clear hw4 b4
    clear c0 c1 c2 e0 e1 e2 i0 i1 i2 o0 o1 o2 f0 f1 f2 lx ly lu lr
    obtain ⟨c0, c1, c2, -, -, -, lx⟩ := X4.out
    obtain ⟨e0, e1, e2, -, -, -, ly⟩ := Y4.out
    obtain ⟨i0, i1, i2, -, -, -, lu⟩ := U4.out
    obtain ⟨o0, o1, o2, f0, f1, f2, lr⟩ := R4.out
    go_wp2_with fail
    refine (num_p _ _).mono ?_
    rintro e w6 ⟨rfl, b6⟩
    have z6 := b6.size
    have X6 := Lib.hid (X4.out.below b6 (by omega)); have Y6 := Lib.hid (Y4.out.below b6 (by omega)); have U6 := Lib.hid (U4.out.below b6 (by omega)); have R6 := Lib.hid (R4.out.below b6 (by omega)); have B6 := Lib.hid (B4.out.trans (b6.mono (by omega)))
    clear c0 c1 c2 e0 e1 e2 i0 i1 i2 o0 o1 o2 f0 f1 f2 lx ly lu lr
    obtain ⟨c0, c1, c2, -, -, -, lx⟩ := X6.out
    obtain ⟨e0, e1, e2, -, -, -, ly⟩ := Y6.out
    obtain ⟨i0, i1, i2, -, -, -, lu⟩ := U6.out
    obtain ⟨o0, o1, o2, f0, f1, f2, lr⟩ := R6.out
    go_wp2
    change bodyPost _ _ _ _ _ (put3 w6 (w.heap.size + 3) _ _ _)
    have s0 := fun v0 v1 v2 => (put3_box R6.out v0 v1 v2).c0
    have s1 := fun v0 v1 v2 => (put3_box R6.out v0 v1 v2).c1
    have s2 := fun v0 v1 v2 => (put3_box R6.out v0 v1 v2).c2
    refine bodyPost_ret (v := RR) ?_ rfl ⟨HRR.out, B6.out.trans ((put3_below _ _ _ _ _).mono (by omega))⟩
    simp [results, Tryd.results23, go_sem, s0, s1, s2, hRR, num]
  · go_enter Tryd.func23, Tryd.ntmps23
    go_wp2_with (first | rw [← W0.out, ← W1.out, ← W2.out, ← W3.out, Z0.out, Z1.out, Z2.out] | rw [← W0.out, ← W1.out, ← W2.out, ← W3.out, Z0.out, Z1.out] | rw [← W0.out, ← W1.out, ← W2.out, ← W3.out])
    refine (Hdv.out w3).mono ?_
    rintro e w4 ⟨rfl, nd, rfl⟩
    have b4 : Below w3.heap.size w3 (w3.drewN nd) := below_drewN (Below.refl _ _) _
    have X4 : Hid (Bx (w3.drewN nd) _ _ _ _) := Lib.hid (X3.out.below b4 lx); have Y4 : Hid (Bx (w3.drewN nd) _ _ _ _) := Lib.hid (Y3.out.below b4 ly); have U4 : Hid (Bx (w3.drewN nd) _ _ _ _) := Lib.hid (U3.out.below b4 lu); have R4 : Hid (Bx (w3.drewN nd) _ _ _ _) := Lib.hid (R3.out.below b4 lr); have B4 := Lib.hid (B3.out.trans (b4.mono (by omega)))
    obtain ⟨w4, hw4⟩ : ∃ w4, w4 = w3.drewN nd := ⟨_, rfl⟩
    have z4 : w4.heap.size = w3.heap.size := by rw [hw4]; rfl
    rw [← hw4] at X4 Y4 U4 R4 B4 b4 ⊢
    clear hw4 b4
    clear c0 c1 c2 e0 e1 e2 i0 i1 i2 o0 o1 o2 f0 f1 f2 lx ly lu lr
    obtain ⟨c0, c1, c2, -, -, -, lx⟩ := X4.out
    obtain ⟨e0, e1, e2, -, -, -, ly⟩ := Y4.out
    obtain ⟨i0, i1, i2, -, -, -, lu⟩ := U4.out
    obtain ⟨o0, o1, o2, f0, f1, f2, lr⟩ := R4.out
    go_wp2_with fail
    refine (num_p _ _).mono ?_
    rintro e w6 ⟨rfl, b6⟩
    have z6 := b6.size
    have X6 := Lib.hid (X4.out.below b6 (by omega)); have Y6 := Lib.hid (Y4.out.below b6 (by omega)); have U6 := Lib.hid (U4.out.below b6 (by omega)); have R6 := Lib.hid (R4.out.below b6 (by omega)); have B6 := Lib.hid (B4.out.trans (b6.mono (by omega)))
    clear c0 c1 c2 e0 e1 e2 i0 i1 i2 o0 o1 o2 f0 f1 f2 lx ly lu lr
    obtain ⟨c0, c1, c2, -, -, -, lx⟩ := X6.out
    obtain ⟨e0, e1, e2, -, -, -, ly⟩ := Y6.out
    obtain ⟨i0, i1, i2, -, -, -, lu⟩ := U6.out
    obtain ⟨o0, o1, o2, f0, f1, f2, lr⟩ := R6.out
    go_wp2
    change bodyPost _ _ _ _ _ (put3 w6 (w.heap.size + 3) _ _ _)
    have s0 := fun v0 v1 v2 => (put3_box R6.out v0 v1 v2).c0
    have s1 := fun v0 v1 v2 => (put3_box R6.out v0 v1 v2).c1
    have s2 := fun v0 v1 v2 => (put3_box R6.out v0 v1 v2).c2
    refine bodyPost_ret (v := RR) ?_ rfl ⟨HRR.out, B6.out.trans ((put3_below _ _ _ _ _).mono (by omega))⟩
    simp [results, Tryd.results23, go_sem, s0, s1, s2, hRR, num]
  · go_enter Tryd.func23, Tryd.ntmps23
    go_wp2_with (first | rw [← W0.out, ← W1.out, ← W2.out, ← W3.out, Z0.out, Z1.out, Z2.out] | rw [← W0.out, ← W1.out, ← W2.out, ← W3.out, Z0.out, Z1.out] | rw [← W0.out, ← W1.out, ← W2.out, ← W3.out])
    refine (Hdv.out w3).mono ?_
    rintro e w4 ⟨rfl, nd, rfl⟩
    have b4 : Below w3.heap.size w3 (w3.drewN nd) := below_drewN (Below.refl _ _) _
    have X4 : Hid (Bx (w3.drewN nd) _ _ _ _) := Lib.hid (X3.out.below b4 lx); have Y4 : Hid (Bx (w3.drewN nd) _ _ _ _) := Lib.hid (Y3.out.below b4 ly); have U4 : Hid (Bx (w3.drewN nd) _ _ _ _) := Lib.hid (U3.out.below b4 lu); have R4 : Hid (Bx (w3.drewN nd) _ _ _ _) := Lib.hid (R3.out.below b4 lr); have B4 := Lib.hid (B3.out.trans (b4.mono (by omega)))
    obtain ⟨w4, hw4⟩ : ∃ w4, w4 = w3.drewN nd := ⟨_, rfl⟩
    have z4 : w4.heap.size = w3.heap.size := by rw [hw4]; rfl
    rw [← hw4] at X4 Y4 U4 R4 B4 b4 ⊢
    clear hw4 b4
    clear c0 c1 c2 e0 e1 e2 i0 i1 i2 o0 o1 o2 f0 f1 f2 lx ly lu lr
    obtain ⟨c0, c1, c2, -, -, -, lx⟩ := X4.out
    obtain ⟨e0, e1, e2, -, -, -, ly⟩ := Y4.out
    obtain ⟨i0, i1, i2, -, -, -, lu⟩ := U4.out
    obtain ⟨o0, o1, o2, f0, f1, f2, lr⟩ := R4.out
    go_wp2_with fail
    refine (num_p _ _).mono ?_
    rintro e w6 ⟨rfl, b6⟩
    have z6 := b6.size
    have X6 := Lib.hid (X4.out.below b6 (by omega)); have Y6 := Lib.hid (Y4.out.below b6 (by omega)); have U6 := Lib.hid (U4.out.below b6 (by omega)); have R6 := Lib.hid (R4.out.below b6 (by omega)); have B6 := Lib.hid (B4.out.trans (b6.mono (by omega)))
    clear c0 c1 c2 e0 e1 e2 i0 i1 i2 o0 o1 o2 f0 f1 f2 lx ly lu lr
    obtain ⟨c0, c1, c2, -, -, -, lx⟩ := X6.out
    obtain ⟨e0, e1, e2, -, -, -, ly⟩ := Y6.out
    obtain ⟨i0, i1, i2, -, -, -, lu⟩ := U6.out
    obtain ⟨o0, o1, o2, f0, f1, f2, lr⟩ := R6.out
    go_wp2
    change bodyPost _ _ _ _ _ (put3 w6 (w.heap.size + 3) _ _ _)
    have s0 := fun v0 v1 v2 => (put3_box R6.out v0 v1 v2).c0
    have s1 := fun v0 v1 v2 => (put3_box R6.out v0 v1 v2).c1
    have s2 := fun v0 v1 v2 => (put3_box R6.out v0 v1 v2).c2
    refine bodyPost_ret (v := RR) ?_ rfl ⟨HRR.out, B6.out.trans ((put3_below _ _ _ _ _).mono (by omega))⟩
    simp [results, Tryd.results23, go_sem, s0, s1, s2, hRR, num]
  · obtain ⟨bb, hbb⟩ : ∃ bb, (cm == 0) = bb := ⟨_, rfl⟩
    rw [hbb] at hRR
    cases bb
    all_goals
      go_enter Tryd.func23, Tryd.ntmps23
      go_wp2_with (first | rw [← W0.out, ← W1.out, ← W2.out, ← W3.out, Z0.out, Z1.out, Z2.out] | rw [← W0.out, ← W1.out, ← W2.out, ← W3.out, Z0.out, Z1.out] | rw [← W0.out, ← W1.out, ← W2.out, ← W3.out])
      refine (Hdv.out w3).mono ?_
      rintro e w4 ⟨rfl, nd, rfl⟩
      have b4 : Below w3.heap.size w3 (w3.drewN nd) := below_drewN (Below.refl _ _) _
      have X4 : Hid (Bx (w3.drewN nd) _ _ _ _) := Lib.hid (X3.out.below b4 lx); have Y4 : Hid (Bx (w3.drewN nd) _ _ _ _) := Lib.hid (Y3.out.below b4 ly); have U4 : Hid (Bx (w3.drewN nd) _ _ _ _) := Lib.hid (U3.out.below b4 lu); have R4 : Hid (Bx (w3.drewN nd) _ _ _ _) := Lib.hid (R3.out.below b4 lr); have B4 := Lib.hid (B3.out.trans (b4.mono (by omega)))
      obtain ⟨w4, hw4⟩ : ∃ w4, w4 = w3.drewN nd := ⟨_, rfl⟩
      have z4 : w4.heap.size = w3.heap.size := by rw [hw4]; rfl
      rw [← hw4] at X4 Y4 U4 R4 B4 b4 ⊢
      clear hw4 b4
      clear c0 c1 c2 e0 e1 e2 i0 i1 i2 o0 o1 o2 f0 f1 f2 lx ly lu lr
      obtain ⟨c0, c1, c2, -, -, -, lx⟩ := X4.out
      obtain ⟨e0, e1, e2, -, -, -, ly⟩ := Y4.out
      obtain ⟨i0, i1, i2, -, -, -, lu⟩ := U4.out
      obtain ⟨o0, o1, o2, f0, f1, f2, lr⟩ := R4.out
      go_wp2_with fail
      refine (Hcmp.out w4).mono ?_
      rintro e w5 ⟨rfl, b5⟩
      have z5 := b5.size
      have X5 := Lib.hid (X4.out.below b5 (by omega)); have Y5 := Lib.hid (Y4.out.below b5 (by omega)); have U5 := Lib.hid (U4.out.below b5 (by omega)); have R5 := Lib.hid (R4.out.below b5 (by omega)); have B5 := Lib.hid (B4.out.trans (b5.mono (by omega)))
      clear c0 c1 c2 e0 e1 e2 i0 i1 i2 o0 o1 o2 f0 f1 f2 lx ly lu lr
      obtain ⟨c0, c1, c2, -, -, -, lx⟩ := X5.out
      obtain ⟨e0, e1, e2, -, -, -, ly⟩ := Y5.out
      obtain ⟨i0, i1, i2, -, -, -, lu⟩ := U5.out
      obtain ⟨o0, o1, o2, f0, f1, f2, lr⟩ := R5.out
      go_wp2_with fail
      refine (yes_p _ _).mono ?_
      rintro e w6 ⟨rfl, b6⟩
      have z6 := b6.size
      have X6 := Lib.hid (X5.out.below b6 (by omega)); have Y6 := Lib.hid (Y5.out.below b6 (by omega)); have U6 := Lib.hid (U5.out.below b6 (by omega)); have R6 := Lib.hid (R5.out.below b6 (by omega)); have B6 := Lib.hid (B5.out.trans (b6.mono (by omega)))
      clear c0 c1 c2 e0 e1 e2 i0 i1 i2 o0 o1 o2 f0 f1 f2 lx ly lu lr
      obtain ⟨c0, c1, c2, -, -, -, lx⟩ := X6.out
      obtain ⟨e0, e1, e2, -, -, -, ly⟩ := Y6.out
      obtain ⟨i0, i1, i2, -, -, -, lu⟩ := U6.out
      obtain ⟨o0, o1, o2, f0, f1, f2, lr⟩ := R6.out
      go_wp2
      change bodyPost _ _ _ _ _ (put3 w6 (w.heap.size + 3) _ _ _)
      have s0 := fun v0 v1 v2 => (put3_box R6.out v0 v1 v2).c0
      have s1 := fun v0 v1 v2 => (put3_box R6.out v0 v1 v2).c1
      have s2 := fun v0 v1 v2 => (put3_box R6.out v0 v1 v2).c2
      refine bodyPost_ret (v := RR) ?_ rfl ⟨HRR.out, B6.out.trans ((put3_below _ _ _ _ _).mono (by omega))⟩
      simp [results, Tryd.results23, go_sem, s0, s1, s2, hRR, yes, num]
  · obtain ⟨bb, hbb⟩ : ∃ bb, decide (cm < 0) = bb := ⟨_, rfl⟩
    rw [hbb] at hRR
    cases bb
    all_goals
      go_enter Tryd.func23, Tryd.ntmps23
      go_wp2_with (first | rw [← W0.out, ← W1.out, ← W2.out, ← W3.out, Z0.out, Z1.out, Z2.out] | rw [← W0.out, ← W1.out, ← W2.out, ← W3.out, Z0.out, Z1.out] | rw [← W0.out, ← W1.out, ← W2.out, ← W3.out])
      refine (Hdv.out w3).mono ?_
      rintro e w4 ⟨rfl, nd, rfl⟩
      have b4 : Below w3.heap.size w3 (w3.drewN nd) := below_drewN (Below.refl _ _) _
      have X4 : Hid (Bx (w3.drewN nd) _ _ _ _) := Lib.hid (X3.out.below b4 lx); have Y4 : Hid (Bx (w3.drewN nd) _ _ _ _) := Lib.hid (Y3.out.below b4 ly); have U4 : Hid (Bx (w3.drewN nd) _ _ _ _) := Lib.hid (U3.out.below b4 lu); have R4 : Hid (Bx (w3.drewN nd) _ _ _ _) := Lib.hid (R3.out.below b4 lr); have B4 := Lib.hid (B3.out.trans (b4.mono (by omega)))
      obtain ⟨w4, hw4⟩ : ∃ w4, w4 = w3.drewN nd := ⟨_, rfl⟩
      have z4 : w4.heap.size = w3.heap.size := by rw [hw4]; rfl
      rw [← hw4] at X4 Y4 U4 R4 B4 b4 ⊢
      clear hw4 b4
      clear c0 c1 c2 e0 e1 e2 i0 i1 i2 o0 o1 o2 f0 f1 f2 lx ly lu lr
      obtain ⟨c0, c1, c2, -, -, -, lx⟩ := X4.out
      obtain ⟨e0, e1, e2, -, -, -, ly⟩ := Y4.out
      obtain ⟨i0, i1, i2, -, -, -, lu⟩ := U4.out
      obtain ⟨o0, o1, o2, f0, f1, f2, lr⟩ := R4.out
      go_wp2_with fail
      refine (Hcmp.out w4).mono ?_
      rintro e w5 ⟨rfl, b5⟩
      have z5 := b5.size
      have X5 := Lib.hid (X4.out.below b5 (by omega)); have Y5 := Lib.hid (Y4.out.below b5 (by omega)); have U5 := Lib.hid (U4.out.below b5 (by omega)); have R5 := Lib.hid (R4.out.below b5 (by omega)); have B5 := Lib.hid (B4.out.trans (b5.mono (by omega)))
      clear c0 c1 c2 e0 e1 e2 i0 i1 i2 o0 o1 o2 f0 f1 f2 lx ly lu lr
      obtain ⟨c0, c1, c2, -, -, -, lx⟩ := X5.out
      obtain ⟨e0, e1, e2, -, -, -, ly⟩ := Y5.out
      obtain ⟨i0, i1, i2, -, -, -, lu⟩ := U5.out
      obtain ⟨o0, o1, o2, f0, f1, f2, lr⟩ := R5.out
      go_wp2_with fail
      refine (yes_p _ _).mono ?_
      rintro e w6 ⟨rfl, b6⟩
      have z6 := b6.size
      have X6 := Lib.hid (X5.out.below b6 (by omega)); have Y6 := Lib.hid (Y5.out.below b6 (by omega)); have U6 := Lib.hid (U5.out.below b6 (by omega)); have R6 := Lib.hid (R5.out.below b6 (by omega)); have B6 := Lib.hid (B5.out.trans (b6.mono (by omega)))
      clear c0 c1 c2 e0 e1 e2 i0 i1 i2 o0 o1 o2 f0 f1 f2 lx ly lu lr
      obtain ⟨c0, c1, c2, -, -, -, lx⟩ := X6.out
      obtain ⟨e0, e1, e2, -, -, -, ly⟩ := Y6.out
      obtain ⟨i0, i1, i2, -, -, -, lu⟩ := U6.out
      obtain ⟨o0, o1, o2, f0, f1, f2, lr⟩ := R6.out
      go_wp2
      change bodyPost _ _ _ _ _ (put3 w6 (w.heap.size + 3) _ _ _)
      have s0 := fun v0 v1 v2 => (put3_box R6.out v0 v1 v2).c0
      have s1 := fun v0 v1 v2 => (put3_box R6.out v0 v1 v2).c1
      have s2 := fun v0 v1 v2 => (put3_box R6.out v0 v1 v2).c2
      refine bodyPost_ret (v := RR) ?_ rfl ⟨HRR.out, B6.out.trans ((put3_below _ _ _ _ _).mono (by omega))⟩
      simp [results, Tryd.results23, go_sem, s0, s1, s2, hRR, yes, num]
  · obtain ⟨bb, hbb⟩ : ∃ bb, (n == 0) = bb := ⟨_, rfl⟩
    rw [hbb] at hRR
    cases bb
    all_goals
      go_enter Tryd.func23, Tryd.ntmps23
      go_wp2_with (first | rw [← W0.out, ← W1.out, ← W2.out, ← W3.out, Z0.out, Z1.out, Z2.out] | rw [← W0.out, ← W1.out, ← W2.out, ← W3.out, Z0.out, Z1.out] | rw [← W0.out, ← W1.out, ← W2.out, ← W3.out])
      refine (Hdv.out w3).mono ?_
      rintro e w4 ⟨rfl, nd, rfl⟩
      have b4 : Below w3.heap.size w3 (w3.drewN nd) := below_drewN (Below.refl _ _) _
      have X4 : Hid (Bx (w3.drewN nd) _ _ _ _) := Lib.hid (X3.out.below b4 lx); have Y4 : Hid (Bx (w3.drewN nd) _ _ _ _) := Lib.hid (Y3.out.below b4 ly); have U4 : Hid (Bx (w3.drewN nd) _ _ _ _) := Lib.hid (U3.out.below b4 lu); have R4 : Hid (Bx (w3.drewN nd) _ _ _ _) := Lib.hid (R3.out.below b4 lr); have B4 := Lib.hid (B3.out.trans (b4.mono (by omega)))
      obtain ⟨w4, hw4⟩ : ∃ w4, w4 = w3.drewN nd := ⟨_, rfl⟩
      have z4 : w4.heap.size = w3.heap.size := by rw [hw4]; rfl
      rw [← hw4] at X4 Y4 U4 R4 B4 b4 ⊢
      clear hw4 b4
      clear c0 c1 c2 e0 e1 e2 i0 i1 i2 o0 o1 o2 f0 f1 f2 lx ly lu lr
      obtain ⟨c0, c1, c2, -, -, -, lx⟩ := X4.out
      obtain ⟨e0, e1, e2, -, -, -, ly⟩ := Y4.out
      obtain ⟨i0, i1, i2, -, -, -, lu⟩ := U4.out
      obtain ⟨o0, o1, o2, f0, f1, f2, lr⟩ := R4.out
      go_wp2_with fail
      refine (yes_p _ _).mono ?_
      rintro e w6 ⟨rfl, b6⟩
      have z6 := b6.size
      have X6 := Lib.hid (X4.out.below b6 (by omega)); have Y6 := Lib.hid (Y4.out.below b6 (by omega)); have U6 := Lib.hid (U4.out.below b6 (by omega)); have R6 := Lib.hid (R4.out.below b6 (by omega)); have B6 := Lib.hid (B4.out.trans (b6.mono (by omega)))
      clear c0 c1 c2 e0 e1 e2 i0 i1 i2 o0 o1 o2 f0 f1 f2 lx ly lu lr
      obtain ⟨c0, c1, c2, -, -, -, lx⟩ := X6.out
      obtain ⟨e0, e1, e2, -, -, -, ly⟩ := Y6.out
      obtain ⟨i0, i1, i2, -, -, -, lu⟩ := U6.out
      obtain ⟨o0, o1, o2, f0, f1, f2, lr⟩ := R6.out
      go_wp2
      change bodyPost _ _ _ _ _ (put3 w6 (w.heap.size + 3) _ _ _)
      have s0 := fun v0 v1 v2 => (put3_box R6.out v0 v1 v2).c0
      have s1 := fun v0 v1 v2 => (put3_box R6.out v0 v1 v2).c1
      have s2 := fun v0 v1 v2 => (put3_box R6.out v0 v1 v2).c2
      refine bodyPost_ret (v := RR) ?_ rfl ⟨HRR.out, B6.out.trans ((put3_below _ _ _ _ _).mono (by omega))⟩
      simp [results, Tryd.results23, go_sem, s0, s1, s2, hRR, yes, num]
  · by_cases hn0 : n = 0
    · subst hn0
      go_enter Tryd.func23, Tryd.ntmps23
      go_wp2_with (first | rw [← W0.out, ← W1.out, ← W2.out, ← W3.out, Z0.out, Z1.out, Z2.out] | rw [← W0.out, ← W1.out, ← W2.out, ← W3.out, Z0.out, Z1.out] | rw [← W0.out, ← W1.out, ← W2.out, ← W3.out])
      refine (Hdv.out w3).mono ?_
      rintro e w4 ⟨rfl, nd, rfl⟩
      have b4 : Below w3.heap.size w3 (w3.drewN nd) := below_drewN (Below.refl _ _) _
      have X4 : Hid (Bx (w3.drewN nd) _ _ _ _) := Lib.hid (X3.out.below b4 lx); have Y4 : Hid (Bx (w3.drewN nd) _ _ _ _) := Lib.hid (Y3.out.below b4 ly); have U4 : Hid (Bx (w3.drewN nd) _ _ _ _) := Lib.hid (U3.out.below b4 lu); have R4 : Hid (Bx (w3.drewN nd) _ _ _ _) := Lib.hid (R3.out.below b4 lr); have B4 := Lib.hid (B3.out.trans (b4.mono (by omega)))
      obtain ⟨w4, hw4⟩ : ∃ w4, w4 = w3.drewN nd := ⟨_, rfl⟩
      have z4 : w4.heap.size = w3.heap.size := by rw [hw4]; rfl
      rw [← hw4] at X4 Y4 U4 R4 B4 b4 ⊢
      clear hw4 b4
      clear c0 c1 c2 e0 e1 e2 i0 i1 i2 o0 o1 o2 f0 f1 f2 lx ly lu lr
      obtain ⟨c0, c1, c2, -, -, -, lx⟩ := X4.out
      obtain ⟨e0, e1, e2, -, -, -, ly⟩ := Y4.out
      obtain ⟨i0, i1, i2, -, -, -, lu⟩ := U4.out
      obtain ⟨o0, o1, o2, f0, f1, f2, lr⟩ := R4.out
      go_wp2
      change bodyPost _ _ _ _ _ (put3 w4 (w.heap.size + 3) _ _ _)
      have s0 := fun v0 v1 v2 => (put3_box R4.out v0 v1 v2).c0
      have s1 := fun v0 v1 v2 => (put3_box R4.out v0 v1 v2).c1
      have s2 := fun v0 v1 v2 => (put3_box R4.out v0 v1 v2).c2
      refine bodyPost_ret (v := RR) ?_ rfl ⟨HRR.out, B4.out.trans ((put3_below _ _ _ _ _).mono (by omega))⟩
      simp [results, Tryd.results23, go_sem, s0, s1, s2, hRR]
    · have d0 : (n != 0) = true := by simpa using hn0
      go_enter Tryd.func23, Tryd.ntmps23
      go_wp2_with (first | rw [← W0.out, ← W1.out, ← W2.out, ← W3.out, Z0.out, Z1.out, Z2.out] | rw [← W0.out, ← W1.out, ← W2.out, ← W3.out, Z0.out, Z1.out] | rw [← W0.out, ← W1.out, ← W2.out, ← W3.out])
      refine (Hdv.out w3).mono ?_
      rintro e w4 ⟨rfl, nd, rfl⟩
      have b4 : Below w3.heap.size w3 (w3.drewN nd) := below_drewN (Below.refl _ _) _
      have X4 : Hid (Bx (w3.drewN nd) _ _ _ _) := Lib.hid (X3.out.below b4 lx); have Y4 : Hid (Bx (w3.drewN nd) _ _ _ _) := Lib.hid (Y3.out.below b4 ly); have U4 : Hid (Bx (w3.drewN nd) _ _ _ _) := Lib.hid (U3.out.below b4 lu); have R4 : Hid (Bx (w3.drewN nd) _ _ _ _) := Lib.hid (R3.out.below b4 lr); have B4 := Lib.hid (B3.out.trans (b4.mono (by omega)))
      obtain ⟨w4, hw4⟩ : ∃ w4, w4 = w3.drewN nd := ⟨_, rfl⟩
      have z4 : w4.heap.size = w3.heap.size := by rw [hw4]; rfl
      rw [← hw4] at X4 Y4 U4 R4 B4 b4 ⊢
      clear hw4 b4
      clear c0 c1 c2 e0 e1 e2 i0 i1 i2 o0 o1 o2 f0 f1 f2 lx ly lu lr
      obtain ⟨c0, c1, c2, -, -, -, lx⟩ := X4.out
      obtain ⟨e0, e1, e2, -, -, -, ly⟩ := Y4.out
      obtain ⟨i0, i1, i2, -, -, -, lu⟩ := U4.out
      obtain ⟨o0, o1, o2, f0, f1, f2, lr⟩ := R4.out
      go_wp2
      change bodyPost _ _ _ _ _ (put3 w4 (w.heap.size + 3) _ _ _)
      have s0 := fun v0 v1 v2 => (put3_box R4.out v0 v1 v2).c0
      have s1 := fun v0 v1 v2 => (put3_box R4.out v0 v1 v2).c1
      have s2 := fun v0 v1 v2 => (put3_box R4.out v0 v1 v2).c2
      refine bodyPost_ret (v := RR) ?_ rfl ⟨HRR.out, B4.out.trans ((put3_below _ _ _ _ _).mono (by omega))⟩
      simp [results, Tryd.results23, go_sem, s0, s1, s2, hRR, hn0]
end Go.Proofs.YtkkjgiejnblopaaDoor
