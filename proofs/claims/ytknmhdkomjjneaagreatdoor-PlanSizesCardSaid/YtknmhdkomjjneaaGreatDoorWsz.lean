/-
  The walk of the law PlanSizes.
-/
import Derived.Test.YtknmhdkomjjneaaGreatDoorJ36
import Derived.Test.YtknmhdkomjjneaaGreatDoorJ8
namespace Go.Proofs.YtknmhdkomjjneaaGreatDoor
open Go.RowKit Pl

theorem zty8 : Sl Tryz.prog 22 5 (.int .u8 0) 1 1 := ⟨Tryz.underlying22, by kernel_rfl, rfl, by omega⟩

set_option maxRecDepth 100000 in
set_option maxHeartbeats 4000000 in
theorem planSizes_walk (n s : Int) (w : World) (hn : I64 n) (hs : I64 s) (hx : Sq.Mx w) :
    Calls Tryz.prog 4 #[.int .i64 n, .int .i64 s] w fun e w' => e = .returned (.bool true) ∧ Below w.heap.size w w' := by
  unfold I64 at hn hs
  obtain ⟨q, hq⟩ : ∃ q, q = IntKind.i64.wrap (200 * s) := ⟨_, rfl⟩
  have hq' := hq.symm
  have Hx := Lib.hid hx
  clear hx
  by_cases h1 : 1 ≤ s
  · have d1 : decide (1 ≤ s) = true := decide_eq_true h1
    by_cases h2 : q < n
    · have d2 : decide (q < n) = true := decide_eq_true h2
      clear hq h1 h2 hn hs
      go_enter Tryz.func4, Tryz.ntmps4
      go_wp2_with fail
      refine (alive_c _ Hx.out).mono ?_
      rintro e w1 ⟨rfl, b1⟩
      go_wp2
      go_ret
      exact ⟨rfl, b1⟩
    · have d2 : decide (q < n) = false := decide_eq_false h2
      by_cases h3 : n < 0 ∨ 100000 < n
      · have Hs := Lib.hid (sizes_err n s (by omega)); have Hr := Lib.hid (rsizes_err n s (by omega))
        clear hq h1 h2 h3 hn hs
        go_enter Tryz.func4, Tryz.ntmps4
        go_wp2_with fail
        refine (Hs.out _).mono ?_
        rintro e w1 ⟨rfl, rfl⟩
        go_wp2_with fail
        refine (Hr.out _).mono ?_
        rintro e w1 ⟨rfl, rfl⟩
        go_wp2_with fail
        refine (alive_c _ Hx.out).mono ?_
        rintro e w1 ⟨rfl, b1⟩
        go_wp2_with fail
        refine (ints_c none none 0 0 0 0 [] [] w1 (Rc.nil 1 _ _) (Rc.nil 1 _ _) true (by simp)).mono ?_
        rintro e w2 ⟨rfl, b2⟩
        have bb := b1.trans (b2.mono b1.size)
        go_wp2
        go_ret
        exact ⟨rfl, bb⟩
      · obtain ⟨N, rfl⟩ : ∃ N : Nat, n = (N : Int) := ⟨n.toNat, by omega⟩
        obtain ⟨S, rfl⟩ : ∃ S : Nat, s = (S : Int) := ⟨s.toNat, by omega⟩
        obtain ⟨C, hC⟩ : ∃ C, C = sz N S := ⟨_, rfl⟩
        have hs1 := sizes_c N S (by omega) (by omega) (by omega) w
        have hs2 := rsizes_c N S (by omega) (by omega) (by omega)
        have hcu := sz_cu (n := N) (s := S) (by omega)
        rw [← hC] at hs1 hs2 hcu
        have hCl := cu_len hcu
        have Hs1 := Lib.hid hs1; have Hs2 := Lib.hid hs2; have Hcu := Lib.hid hcu
        clear hq h1 h2 hn hs hs1 hs2 hcu hC
        go_enter Tryz.func4, Tryz.ntmps4
        go_wp2_with fail
        refine Hs1.out.mono ?_
        rintro e w1 ⟨A1, c1, rfl, h1, b1⟩
        have H1 := Lib.hid h1
        clear h1
        have z1 := b1.size
        go_wp2_with fail
        refine (Hs2.out _).mono ?_
        rintro e w2 ⟨A2, c2, rfl, h2, b2⟩
        have z2 := b2.size
        have bb2 := b1.trans (b2.mono z1)
        have r1 := (H1.out.keep b2).rc
        have r2 := h2.rc
        have R1 := Lib.hid r1; have R2 := Lib.hid r2; have BB2 := Lib.hid bb2
        clear h2 r1 r2 bb2 b1 b2
        by_cases h5 : N ≤ 1500
        · have d5 : decide ((N : Int) ≤ 1500) = true := decide_eq_true (by omega)
          obtain ⟨w3, hw3⟩ : ∃ w3, w3 = w2.alloc (.cells (Bun.mrow (.int .u8 0) N) 5) := ⟨_, rfl⟩
          have hmk := Bun.make1 zty8 rfl (by omega) w2 N (by omega)
          rw [← hw3] at hmk
          have b3 : Below w2.heap.size w2 w3 := by rw [hw3]; exact (Below.refl _ _).alloc (Nat.le_refl _) _
          have z3 : w3.heap.size = w2.heap.size + 1 := by rw [hw3]; simp
          have hrb : Rb w3 w3.heap.size (some ⟨w2.heap.size, 0, none⟩) N N (List.replicate N 0) := by
            rw [z3, hw3]
            exact Rb.lit w2 _ _ _ (List.replicate N 0) N (by simp [Bun.mrow, bvs]) (by simp) (by omega)
          have bb3 := BB2.out.trans (b3.mono (by omega))
          have Hmk := Lib.hid (make_ok 0 0 _ N N _ _ _ _ C w3 hrb (by omega) ((R1.out.below b3).more (by omega)) Hcu.out rfl (Hx.out.below bb3 Hx.out.2))
          have BB3 := Lib.hid bb3
          clear hw3 hrb bb3
          go_wp2_with fail
          refine Hmk.out.mono ?_
          rintro e w4 ⟨A4, c4, D4, d4, rfl, -, -, b4⟩
          have b24 := b3.trans (b4.mono (by omega))
          have z4 := b4.size
          have bb4 := BB3.out.trans (b4.mono (by omega))
          obtain ⟨w5, hw5⟩ : ∃ w5, w5 = w4.alloc (.cells #[.slice A4 C.length c4, .slice D4 (insF 0 (List.replicate N 0) C).length d4, .int .i64 ((scF 0 0 (List.replicate N 0)).2.1 : Int)] 36) := ⟨_, rfl⟩
          have b5 : Below w4.heap.size w4 w5 := by rw [hw5]; exact (Below.refl _ _).alloc (Nat.le_refl _) _
          have x5 : Bx w5 w4.heap.size (.slice A4 C.length c4) (.slice D4 (insF 0 (List.replicate N 0) C).length d4) (.int .i64 ((scF 0 0 (List.replicate N 0)).2.1 : Int)) := by rw [hw5]; exact Bx.made _ _ _ _ _
          have z5 := b5.size
          have b25 := b24.trans (b5.mono (by omega))
          have bb5 := bb4.trans (b5.mono (by omega))
          obtain ⟨y0, y1, y2, -, -, -, -⟩ := x5
          have W5 := Lib.hid hw5
          clear hw5 b24 bb4 b5 b4 b3
          go_wp2_with (rw [← W5.out])
          refine (alive_c _ (Hx.out.below bb5 Hx.out.2)).mono ?_
          rintro e w6 ⟨rfl, b6⟩
          have z6 := b6.size
          go_wp2_with fail
          refine (ints_c A1 A2 _ c1 _ c2 (ic C) (ic C) w6 (((R1.out.below b25).more (by omega)).below b6 |>.more (by omega)) (((R2.out.below b25).more (by omega)).below b6 |>.more (by omega)) true (by simp)).mono ?_
          rintro e w7 ⟨rfl, b7⟩
          have bb7 := (bb5.trans (b6.mono (by omega))).trans (b7.mono (by omega))
          go_wp2
          go_ret
          exact ⟨rfl, bb7⟩
        · have d5 : decide ((N : Int) ≤ 1500) = false := decide_eq_false (by omega)
          go_wp2_with fail
          refine (alive_c _ (Hx.out.below BB2.out Hx.out.2)).mono ?_
          rintro e w6 ⟨rfl, b6⟩
          have z6 := b6.size
          go_wp2_with fail
          refine (ints_c A1 A2 _ c1 _ c2 (ic C) (ic C) w6 ((R1.out.below b6).more (by omega)) ((R2.out.below b6).more (by omega)) true (by simp)).mono ?_
          rintro e w7 ⟨rfl, b7⟩
          have bb7 := (BB2.out.trans (b6.mono (by omega))).trans (b7.mono (by omega))
          go_wp2
          go_ret
          exact ⟨rfl, bb7⟩
  · have d1 : decide (1 ≤ s) = false := decide_eq_false h1
    have Hs := Lib.hid (sizes_err n s (by omega)); have Hr := Lib.hid (rsizes_err n s (by omega))
    clear hq h1 hn hs
    go_enter Tryz.func4, Tryz.ntmps4
    go_wp2_with fail
    refine (Hs.out _).mono ?_
    rintro e w1 ⟨rfl, rfl⟩
    go_wp2_with fail
    refine (Hr.out _).mono ?_
    rintro e w1 ⟨rfl, rfl⟩
    go_wp2_with fail
    refine (alive_c _ Hx.out).mono ?_
    rintro e w1 ⟨rfl, b1⟩
    go_wp2_with fail
    refine (ints_c none none 0 0 0 0 [] [] w1 (Rc.nil 1 _ _) (Rc.nil 1 _ _) true (by simp)).mono ?_
    rintro e w2 ⟨rfl, b2⟩
    have bb := b1.trans (b2.mono b1.size)
    go_wp2
    go_ret
    exact ⟨rfl, bb⟩
end Go.Proofs.YtknmhdkomjjneaaGreatDoor
