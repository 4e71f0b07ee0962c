/-
  The walk of the law ValueSums.
-/
import Derived.Test.YtkkjgiejnblopaaDoorVE
namespace Go.Proofs.YtkkjgiejnblopaaDoor
open Go.RowKit Vl

theorem do_nn (op : Int) (h : op = 4 ∨ op = 5 ∨ op = 6 ∨ op = 7 ∨ op = 8) (a b : Int) : doV op [⟨false, a, []⟩, ⟨false, b, []⟩] = (rek op ⟨false, a, []⟩ ⟨false, b, []⟩ v0, 0) := by
  have hall : ([⟨false, a, []⟩, ⟨false, b, []⟩] : List V).all isV = true := rfl
  have hres : (res op (([⟨false, a, []⟩, ⟨false, b, []⟩] : List V).map (·.t))).2 = 0 := by
    show (res op [false, false]).2 = 0
    rcases h with rfl | rfl | rfl | rfl | rfl <;> decide
  unfold doV
  rw [if_pos hall, if_pos hres, if_pos (by omega)]
  rfl
theorem do_19 (a : Int) (h : I a) : doV 19 [⟨false, a, []⟩] = (⟨true, 0, figures a⟩, 0) := by
  have hall : ([⟨false, a, []⟩] : List V).all isV = true := rfl
  have hres : (res 19 (([⟨false, a, []⟩] : List V).map (·.t))).2 = 0 := by
    show (res 19 [false]).2 = 0
    decide
  unfold doV
  rw [if_pos hall, if_pos hres, if_neg (by omega)]
  show (txt (figures a), 0) = _
  rw [txt_short (by have := figures_len h; omega)]
theorem do_18 (s : List UInt8) (h : s.length ≤ 1000) : doV 18 [⟨true, 0, s⟩] = (⟨false, number s, []⟩, 0) := by
  have hv : isV ⟨true, 0, s⟩ = true := by unfold isV; simp [h]
  have hall : ([⟨true, 0, s⟩] : List V).all isV = true := by simp [hv]
  have hres : (res 18 (([⟨true, 0, s⟩] : List V).map (·.t))).2 = 0 := by
    show (res 18 [true]).2 = 0
    decide
  unfold doV
  rw [if_pos hall, if_pos hres, if_neg (by omega)]
  rfl

theorem dv_I {a b : Int} (ha : I a) (hb : I b) : I (dv a b).1 ∧ I (dv a b).2 := by
  unfold dv
  by_cases h0 : b = 0
  · rw [if_pos h0]; exact ⟨by unfold I; dsimp only; omega, by unfold I; dsimp only; omega⟩
  rw [if_neg h0]
  by_cases h1 : b = -1
  · rw [if_pos h1]; exact ⟨w64_I _, by unfold I; dsimp only; omega⟩
  rw [if_neg h1]
  have h4 : 1 ≤ b.natAbs := by omega
  constructor
  · show I (a.tdiv b)
    by_cases hb1 : b = 1
    · subst hb1; rw [Int.tdiv_one]; exact ha
    have h2 : (a.tdiv b).natAbs ≤ a.natAbs := by rw [Int.natAbs_tdiv]; exact Nat.div_le_self _ _
    have h3 : a = -9223372036854775808 → (a.tdiv b).natAbs ≤ 4611686018427387904 := fun e => by
      rw [Int.natAbs_tdiv, e]
      have h4 : 2 ≤ b.natAbs := by omega
      exact Nat.le_trans (Nat.div_le_div_left h4 (by omega)) (by decide)
    by_cases h5 : a = -9223372036854775808
    · have h6 := h3 h5
      unfold I
      omega
    · unfold I at ha ⊢
      omega
  · show I (a.tmod b)
    have h3 : (a.tmod b).natAbs < b.natAbs := by rw [Int.natAbs_tmod]; exact Nat.mod_lt _ (by omega)
    unfold I at ha hb ⊢
    omega

set_option maxRecDepth 100000 in
set_option maxHeartbeats 4000000 in
theorem valueSums_walk' (S : Vls) (a b : Int) (w : World) (ha : I a) (hb : I b) (hG : Gl w) :
    Calls Tryd.prog 5 #[.int .i64 a, .int .i64 b] w fun e w' => e = .returned (.bool true) ∧ Below w.heap.size w w' := by
  obtain ⟨S1, hS1⟩ : ∃ S1, S1 = w64 (a + b) := ⟨_, rfl⟩
  obtain ⟨Q, hQ⟩ : ∃ Q, Q = (dv a b).1 := ⟨_, rfl⟩
  obtain ⟨R, hR⟩ : ∃ R, R = (dv a b).2 := ⟨_, rfl⟩
  obtain ⟨M, hM⟩ : ∃ M, M = w64 (Q * b) := ⟨_, rfl⟩
  obtain ⟨N, hN⟩ : ∃ N, N = w64 (M + R) := ⟨_, rfl⟩
  obtain ⟨F, hF⟩ : ∃ F, F = figures a := ⟨_, rfl⟩
  obtain ⟨K, hK⟩ : ∃ K, K = number F := ⟨_, rfl⟩
  have hFl : F.length ≤ 20 := by rw [hF]; exact figures_len ha
  have h4 := Lib.hid (show doV 4 [⟨false, a, []⟩, ⟨false, b, []⟩] = (⟨false, S1, []⟩, 0) by rw [do_nn 4 (by omega), hS1]; rfl)
  have h5 := Lib.hid (show doV 5 [⟨false, S1, []⟩, ⟨false, b, []⟩] = (⟨false, a, []⟩, 0) by
    rw [do_nn 5 (by omega)]
    show (num (w64 (S1 - b)), 0) = _
    rw [hS1, sum_diff ha]
    rfl)
  have h7 := Lib.hid (show doV 7 [⟨false, a, []⟩, ⟨false, b, []⟩] = (⟨false, Q, []⟩, 0) by rw [do_nn 7 (by omega), hQ]; rfl)
  have h8 := Lib.hid (show doV 8 [⟨false, a, []⟩, ⟨false, b, []⟩] = (⟨false, R, []⟩, 0) by rw [do_nn 8 (by omega), hR]; rfl)
  have h6 := Lib.hid (show doV 6 [⟨false, Q, []⟩, ⟨false, b, []⟩] = (⟨false, M, []⟩, 0) by rw [do_nn 6 (by omega), hM]; rfl)
  have h4n := Lib.hid (show doV 4 [⟨false, M, []⟩, ⟨false, R, []⟩] = (⟨false, N, []⟩, 0) by rw [do_nn 4 (by omega), hN]; rfl)
  have h19 := Lib.hid (show doV 19 [⟨false, a, []⟩] = (⟨true, 0, F⟩, 0) by rw [do_19 a ha, hF])
  have h18 := Lib.hid (show doV 18 [⟨true, 0, F⟩] = (⟨false, K, []⟩, 0) by rw [do_18 F (by omega), hK])
  have iS : I S1 := by rw [hS1]; exact w64_I _
  have iQ : I Q := by rw [hQ]; exact (dv_I ha hb).1
  have iR : I R := by rw [hR]; exact (dv_I ha hb).2
  have iM : I M := by rw [hM]; exact w64_I _
  have hNa : b ≠ 0 → N = a := fun h0 => by rw [hN, hM, hQ, hR]; exact quot ha hb h0
  have hKa : -1000000000000000000 < a → a < 1000000000000000000 → K = a := fun h1 h2 => by rw [hK, hF]; exact number_figures h1 h2
  have Hok := Lib.hid (show ∀ v ∈ ([⟨false, a, []⟩, ⟨false, b, []⟩, ⟨false, S1, []⟩, ⟨false, Q, []⟩, ⟨false, R, []⟩, ⟨false, M, []⟩, ⟨true, 0, F⟩] : List V), I v.n ∧ v.s.length ≤ 1000000 from fun v hv => by
    simp only [List.mem_cons, List.not_mem_nil, or_false] at hv
    rcases hv with rfl | rfl | rfl | rfl | rfl | rfl | rfl
    all_goals first | exact ⟨ha, by simp⟩ | exact ⟨hb, by simp⟩ | exact ⟨iS, by simp⟩ | exact ⟨iQ, by simp⟩ | exact ⟨iR, by simp⟩ | exact ⟨iM, by simp⟩ | exact ⟨by unfold I; dsimp only; omega, by dsimp only; omega⟩)
  have Hna := Lib.hid (fun W => S.num a W ha); have Hnb := Lib.hid (fun W => S.num b W hb); have HS := Lib.hid S; have HG := Lib.hid hG
  clear S hG hS1 hQ hR hM hN hF hK iS iQ iR iM hFl
  by_cases hb0 : b = 0
  · have db : (b == 0) = true := by simpa using hb0
    by_cases hs1 : -1000000000000000000 < a
    · have ds1 : decide (-1000000000000000000 < a) = true := decide_eq_true hs1
      by_cases hs2 : a < 1000000000000000000
      · have ds2 : decide (a < 1000000000000000000) = true := decide_eq_true hs2
        have eK := hKa hs1 hs2
        subst K
        clear hNa hKa ha hb hb0 hs1 hs2
        go_enter Tryd.func5, Tryd.ntmps5
        go_wp2_with fail
        refine (Hna.out _).mono ?_
        rintro e u1 ⟨rfl, b1⟩
        go_wp2_with fail
        refine (Hnb.out _).mono ?_
        rintro e u2 ⟨rfl, b2⟩
        have bb2 := b1.trans (b2.mono b1.size)
        obtain ⟨u3, hu3⟩ : ∃ u3, u3 = u2.alloc (.cells #[.bool false, .int .i64 a, .string ⟨#[]⟩] 27) := ⟨_, rfl⟩
        have z3 : u3.heap.size = u2.heap.size + 1 := by rw [hu3]; simp
        have b3 : Below u2.heap.size u2 u3 := by rw [hu3]; exact (Below.refl _ _).alloc (Nat.le_refl _) _
        have x3 : Bx u3 u2.heap.size (.bool false) (.int .i64 a) (.string ⟨#[]⟩) := by rw [hu3]; exact Bx.made _ _ _ _ _
        obtain ⟨w0, hw0⟩ : ∃ w0, w0 = u3.alloc (.cells #[.bool false, .int .i64 b, .string ⟨#[]⟩] 27) := ⟨_, rfl⟩
        have b4 : Below u3.heap.size u3 w0 := by rw [hw0]; exact (Below.refl _ _).alloc (Nat.le_refl _) _
        have y4 : Bx w0 u3.heap.size (.bool false) (.int .i64 b) (.string ⟨#[]⟩) := by rw [hw0]; exact Bx.made _ _ _ _ _
        rw [z3] at y4
        have x4 := x3.below b4 x3.lt
        have b34 := b3.trans (b4.mono b3.size)
        have bb4 := bb2.trans (b34.mono bb2.size)
        obtain ⟨Gx, hGx⟩ : ∃ Gx, Gx = u2.heap.size := ⟨_, rfl⟩
        have Wx := Lib.hid hu3; have Wy := Lib.hid hw0; have Zx := Lib.hid z3; have Xx0 := Lib.hid x4; have Xy0 := Lib.hid y4; have BB0 := Lib.hid bb4
        clear hu3 z3 b3 x3 hw0 b4 y4 x4 b34 bb4 b1 b2 bb2 hGx Gx
        obtain ⟨cx0, cx1, cx2, -, -, -, -⟩ := Xx0.out
        obtain ⟨cy0, cy1, cy2, -, -, -, -⟩ := Xy0.out
        obtain ⟨r0, hr0⟩ : ∃ r, r = w0.alloc (.cells #[.bool false, .int .i64 a, .string ⟨#[]⟩, .bool false, .int .i64 b, .string ⟨#[]⟩] 27) := ⟨_, rfl⟩
        have hc0 := do_lit HS.out 4 [⟨false, a, []⟩, ⟨false, b, []⟩] _ #[.bool false, .int .i64 a, .string ⟨#[]⟩, .bool false, .int .i64 b, .string ⟨#[]⟩] rfl 2 rfl (by omega) (by unfold I; omega) (fun v hv => (Hok.out v) (by simp at hv ⊢; rcases hv with rfl | rfl <;> simp)) _ _ _ _ h4.out w0 r0 (HG.out.below' BB0.out) hr0
        have Wr0 := Lib.hid hr0; have Hc0 := Lib.hid hc0
        clear hr0 hc0
        go_wp2_with (first | rw [← Wr0.out] | (first | rw [← Wx.out, ← Wy.out, Zx.out] | rw [← Wx.out, ← Wy.out]))
        refine Hc0.out.mono ?_
        rintro e v1 ⟨rfl, b1⟩
        obtain ⟨w1, hw1⟩ : ∃ w, w = v1.alloc (.cells #[.bool false, .int .i64 S1, .string ⟨#[]⟩] 27) := ⟨_, rfl⟩
        have bn : Below v1.heap.size v1 w1 := by rw [hw1]; exact (Below.refl _ _).alloc (Nat.le_refl _) _
        have bt := b1.trans (bn.mono b1.size)
        have xn : Bx w1 v1.heap.size (.bool false) (.int .i64 S1) (.string ⟨#[]⟩) := by rw [hw1]; exact Bx.made _ _ _ _ _
        have Xs1 := Lib.hid xn; have BB1 := Lib.hid (BB0.out.trans (bt.mono BB0.out.size)); have Wn1 := Lib.hid hw1
        have Xx1 := Lib.hid (Xx0.out.below bt Xx0.out.lt)
        have Xy1 := Lib.hid (Xy0.out.below bt Xy0.out.lt)
        clear cx0 cx1 cx2 cy0 cy1 cy2 bn bt xn b1 hw1
        obtain ⟨cx0, cx1, cx2, -, -, -, -⟩ := Xx1.out
        obtain ⟨cy0, cy1, cy2, -, -, -, -⟩ := Xy1.out
        obtain ⟨cs0, cs1, cs2, -, -, -, -⟩ := Xs1.out
        obtain ⟨r1, hr1⟩ : ∃ r, r = w1.alloc (.cells #[.bool false, .int .i64 S1, .string ⟨#[]⟩, .bool false, .int .i64 b, .string ⟨#[]⟩] 27) := ⟨_, rfl⟩
        have hc1 := do_lit HS.out 5 [⟨false, S1, []⟩, ⟨false, b, []⟩] _ #[.bool false, .int .i64 S1, .string ⟨#[]⟩, .bool false, .int .i64 b, .string ⟨#[]⟩] rfl 2 rfl (by omega) (by unfold I; omega) (fun v hv => (Hok.out v) (by simp at hv ⊢; rcases hv with rfl | rfl <;> simp)) _ _ _ _ h5.out w1 r1 (HG.out.below' BB1.out) hr1
        have Wr1 := Lib.hid hr1; have Hc1 := Lib.hid hc1
        clear hr1 hc1
        go_wp2_with (first | rw [← Wr1.out] | (rw [← Wn1.out]))
        refine Hc1.out.mono ?_
        rintro e v2 ⟨rfl, b2⟩
        obtain ⟨w2, hw2⟩ : ∃ w, w = v2.alloc (.cells #[.bool false, .int .i64 a, .string ⟨#[]⟩] 27) := ⟨_, rfl⟩
        have bn : Below v2.heap.size v2 w2 := by rw [hw2]; exact (Below.refl _ _).alloc (Nat.le_refl _) _
        have bt := b2.trans (bn.mono b2.size)
        have xn : Bx w2 v2.heap.size (.bool false) (.int .i64 a) (.string ⟨#[]⟩) := by rw [hw2]; exact Bx.made _ _ _ _ _
        have Xd2 := Lib.hid xn; have BB2 := Lib.hid (BB1.out.trans (bt.mono BB1.out.size)); have Wn2 := Lib.hid hw2
        have Xx2 := Lib.hid (Xx1.out.below bt Xx1.out.lt)
        have Xy2 := Lib.hid (Xy1.out.below bt Xy1.out.lt)
        have Xs2 := Lib.hid (Xs1.out.below bt Xs1.out.lt)
        clear cx0 cx1 cx2 cy0 cy1 cy2 cs0 cs1 cs2 bn bt xn b2 hw2
        obtain ⟨cx0, cx1, cx2, -, -, -, -⟩ := Xx2.out
        obtain ⟨cy0, cy1, cy2, -, -, -, -⟩ := Xy2.out
        obtain ⟨cs0, cs1, cs2, -, -, -, -⟩ := Xs2.out
        obtain ⟨cd0, cd1, cd2, -, -, -, -⟩ := Xd2.out
        obtain ⟨r2, hr2⟩ : ∃ r, r = w2.alloc (.cells #[.bool false, .int .i64 a, .string ⟨#[]⟩, .bool false, .int .i64 b, .string ⟨#[]⟩] 27) := ⟨_, rfl⟩
        have hc2 := do_lit HS.out 7 [⟨false, a, []⟩, ⟨false, b, []⟩] _ #[.bool false, .int .i64 a, .string ⟨#[]⟩, .bool false, .int .i64 b, .string ⟨#[]⟩] rfl 2 rfl (by omega) (by unfold I; omega) (fun v hv => (Hok.out v) (by simp at hv ⊢; rcases hv with rfl | rfl <;> simp)) _ _ _ _ h7.out w2 r2 (HG.out.below' BB2.out) hr2
        have Wr2 := Lib.hid hr2; have Hc2 := Lib.hid hc2
        clear hr2 hc2
        go_wp2_with (first | rw [← Wr2.out] | (rw [← Wn2.out]))
        refine Hc2.out.mono ?_
        rintro e v3 ⟨rfl, b3⟩
        obtain ⟨w3, hw3⟩ : ∃ w, w = v3.alloc (.cells #[.bool false, .int .i64 Q, .string ⟨#[]⟩] 27) := ⟨_, rfl⟩
        have bn : Below v3.heap.size v3 w3 := by rw [hw3]; exact (Below.refl _ _).alloc (Nat.le_refl _) _
        have bt := b3.trans (bn.mono b3.size)
        have xn : Bx w3 v3.heap.size (.bool false) (.int .i64 Q) (.string ⟨#[]⟩) := by rw [hw3]; exact Bx.made _ _ _ _ _
        have Xq3 := Lib.hid xn; have BB3 := Lib.hid (BB2.out.trans (bt.mono BB2.out.size)); have Wn3 := Lib.hid hw3
        have Xx3 := Lib.hid (Xx2.out.below bt Xx2.out.lt)
        have Xy3 := Lib.hid (Xy2.out.below bt Xy2.out.lt)
        have Xs3 := Lib.hid (Xs2.out.below bt Xs2.out.lt)
        have Xd3 := Lib.hid (Xd2.out.below bt Xd2.out.lt)
        clear cx0 cx1 cx2 cy0 cy1 cy2 cs0 cs1 cs2 cd0 cd1 cd2 bn bt xn b3 hw3
        obtain ⟨cx0, cx1, cx2, -, -, -, -⟩ := Xx3.out
        obtain ⟨cy0, cy1, cy2, -, -, -, -⟩ := Xy3.out
        obtain ⟨cs0, cs1, cs2, -, -, -, -⟩ := Xs3.out
        obtain ⟨cd0, cd1, cd2, -, -, -, -⟩ := Xd3.out
        obtain ⟨cq0, cq1, cq2, -, -, -, -⟩ := Xq3.out
        obtain ⟨r3, hr3⟩ : ∃ r, r = w3.alloc (.cells #[.bool false, .int .i64 a, .string ⟨#[]⟩, .bool false, .int .i64 b, .string ⟨#[]⟩] 27) := ⟨_, rfl⟩
        have hc3 := do_lit HS.out 8 [⟨false, a, []⟩, ⟨false, b, []⟩] _ #[.bool false, .int .i64 a, .string ⟨#[]⟩, .bool false, .int .i64 b, .string ⟨#[]⟩] rfl 2 rfl (by omega) (by unfold I; omega) (fun v hv => (Hok.out v) (by simp at hv ⊢; rcases hv with rfl | rfl <;> simp)) _ _ _ _ h8.out w3 r3 (HG.out.below' BB3.out) hr3
        have Wr3 := Lib.hid hr3; have Hc3 := Lib.hid hc3
        clear hr3 hc3
        go_wp2_with (first | rw [← Wr3.out] | (rw [← Wn3.out]))
        refine Hc3.out.mono ?_
        rintro e v4 ⟨rfl, b4⟩
        obtain ⟨w4, hw4⟩ : ∃ w, w = v4.alloc (.cells #[.bool false, .int .i64 R, .string ⟨#[]⟩] 27) := ⟨_, rfl⟩
        have bn : Below v4.heap.size v4 w4 := by rw [hw4]; exact (Below.refl _ _).alloc (Nat.le_refl _) _
        have bt := b4.trans (bn.mono b4.size)
        have xn : Bx w4 v4.heap.size (.bool false) (.int .i64 R) (.string ⟨#[]⟩) := by rw [hw4]; exact Bx.made _ _ _ _ _
        have Xr4 := Lib.hid xn; have BB4 := Lib.hid (BB3.out.trans (bt.mono BB3.out.size)); have Wn4 := Lib.hid hw4
        have Xx4 := Lib.hid (Xx3.out.below bt Xx3.out.lt)
        have Xy4 := Lib.hid (Xy3.out.below bt Xy3.out.lt)
        have Xs4 := Lib.hid (Xs3.out.below bt Xs3.out.lt)
        have Xd4 := Lib.hid (Xd3.out.below bt Xd3.out.lt)
        have Xq4 := Lib.hid (Xq3.out.below bt Xq3.out.lt)
        clear cx0 cx1 cx2 cy0 cy1 cy2 cs0 cs1 cs2 cd0 cd1 cd2 cq0 cq1 cq2 bn bt xn b4 hw4
        obtain ⟨cx0, cx1, cx2, -, -, -, -⟩ := Xx4.out
        obtain ⟨cy0, cy1, cy2, -, -, -, -⟩ := Xy4.out
        obtain ⟨cs0, cs1, cs2, -, -, -, -⟩ := Xs4.out
        obtain ⟨cd0, cd1, cd2, -, -, -, -⟩ := Xd4.out
        obtain ⟨cq0, cq1, cq2, -, -, -, -⟩ := Xq4.out
        obtain ⟨cr0, cr1, cr2, -, -, -, -⟩ := Xr4.out
        obtain ⟨r4, hr4⟩ : ∃ r, r = w4.alloc (.cells #[.bool false, .int .i64 Q, .string ⟨#[]⟩, .bool false, .int .i64 b, .string ⟨#[]⟩] 27) := ⟨_, rfl⟩
        have hc4 := do_lit HS.out 6 [⟨false, Q, []⟩, ⟨false, b, []⟩] _ #[.bool false, .int .i64 Q, .string ⟨#[]⟩, .bool false, .int .i64 b, .string ⟨#[]⟩] rfl 2 rfl (by omega) (by unfold I; omega) (fun v hv => (Hok.out v) (by simp at hv ⊢; rcases hv with rfl | rfl <;> simp)) _ _ _ _ h6.out w4 r4 (HG.out.below' BB4.out) hr4
        have Wr4 := Lib.hid hr4; have Hc4 := Lib.hid hc4
        clear hr4 hc4
        go_wp2_with (first | rw [← Wr4.out] | (rw [← Wn4.out]))
        refine Hc4.out.mono ?_
        rintro e v5 ⟨rfl, b5⟩
        obtain ⟨w5, hw5⟩ : ∃ w, w = v5.alloc (.cells #[.bool false, .int .i64 M, .string ⟨#[]⟩] 27) := ⟨_, rfl⟩
        have bn : Below v5.heap.size v5 w5 := by rw [hw5]; exact (Below.refl _ _).alloc (Nat.le_refl _) _
        have bt := b5.trans (bn.mono b5.size)
        have xn : Bx w5 v5.heap.size (.bool false) (.int .i64 M) (.string ⟨#[]⟩) := by rw [hw5]; exact Bx.made _ _ _ _ _
        have Xm5 := Lib.hid xn; have BB5 := Lib.hid (BB4.out.trans (bt.mono BB4.out.size)); have Wn5 := Lib.hid hw5
        have Xx5 := Lib.hid (Xx4.out.below bt Xx4.out.lt)
        have Xy5 := Lib.hid (Xy4.out.below bt Xy4.out.lt)
        have Xs5 := Lib.hid (Xs4.out.below bt Xs4.out.lt)
        have Xd5 := Lib.hid (Xd4.out.below bt Xd4.out.lt)
        have Xq5 := Lib.hid (Xq4.out.below bt Xq4.out.lt)
        have Xr5 := Lib.hid (Xr4.out.below bt Xr4.out.lt)
        clear cx0 cx1 cx2 cy0 cy1 cy2 cs0 cs1 cs2 cd0 cd1 cd2 cq0 cq1 cq2 cr0 cr1 cr2 bn bt xn b5 hw5
        obtain ⟨cx0, cx1, cx2, -, -, -, -⟩ := Xx5.out
        obtain ⟨cy0, cy1, cy2, -, -, -, -⟩ := Xy5.out
        obtain ⟨cs0, cs1, cs2, -, -, -, -⟩ := Xs5.out
        obtain ⟨cd0, cd1, cd2, -, -, -, -⟩ := Xd5.out
        obtain ⟨cq0, cq1, cq2, -, -, -, -⟩ := Xq5.out
        obtain ⟨cr0, cr1, cr2, -, -, -, -⟩ := Xr5.out
        obtain ⟨cm0, cm1, cm2, -, -, -, -⟩ := Xm5.out
        obtain ⟨r5, hr5⟩ : ∃ r, r = w5.alloc (.cells #[.bool false, .int .i64 M, .string ⟨#[]⟩, .bool false, .int .i64 R, .string ⟨#[]⟩] 27) := ⟨_, rfl⟩
        have hc5 := do_lit HS.out 4 [⟨false, M, []⟩, ⟨false, R, []⟩] _ #[.bool false, .int .i64 M, .string ⟨#[]⟩, .bool false, .int .i64 R, .string ⟨#[]⟩] rfl 2 rfl (by omega) (by unfold I; omega) (fun v hv => (Hok.out v) (by simp at hv ⊢; rcases hv with rfl | rfl <;> simp)) _ _ _ _ h4n.out w5 r5 (HG.out.below' BB5.out) hr5
        have Wr5 := Lib.hid hr5; have Hc5 := Lib.hid hc5
        clear hr5 hc5
        go_wp2_with (first | rw [← Wr5.out] | (rw [← Wn5.out]))
        refine Hc5.out.mono ?_
        rintro e v6 ⟨rfl, b6⟩
        obtain ⟨w6, hw6⟩ : ∃ w, w = v6.alloc (.cells #[.bool false, .int .i64 N, .string ⟨#[]⟩] 27) := ⟨_, rfl⟩
        have bn : Below v6.heap.size v6 w6 := by rw [hw6]; exact (Below.refl _ _).alloc (Nat.le_refl _) _
        have bt := b6.trans (bn.mono b6.size)
        have xn : Bx w6 v6.heap.size (.bool false) (.int .i64 N) (.string ⟨#[]⟩) := by rw [hw6]; exact Bx.made _ _ _ _ _
        have Xn6 := Lib.hid xn; have BB6 := Lib.hid (BB5.out.trans (bt.mono BB5.out.size)); have Wn6 := Lib.hid hw6
        have Xx6 := Lib.hid (Xx5.out.below bt Xx5.out.lt)
        have Xy6 := Lib.hid (Xy5.out.below bt Xy5.out.lt)
        have Xs6 := Lib.hid (Xs5.out.below bt Xs5.out.lt)
        have Xd6 := Lib.hid (Xd5.out.below bt Xd5.out.lt)
        have Xq6 := Lib.hid (Xq5.out.below bt Xq5.out.lt)
        have Xr6 := Lib.hid (Xr5.out.below bt Xr5.out.lt)
        have Xm6 := Lib.hid (Xm5.out.below bt Xm5.out.lt)
        clear cx0 cx1 cx2 cy0 cy1 cy2 cs0 cs1 cs2 cd0 cd1 cd2 cq0 cq1 cq2 cr0 cr1 cr2 cm0 cm1 cm2 bn bt xn b6 hw6
        obtain ⟨cx0, cx1, cx2, -, -, -, -⟩ := Xx6.out
        obtain ⟨cy0, cy1, cy2, -, -, -, -⟩ := Xy6.out
        obtain ⟨cs0, cs1, cs2, -, -, -, -⟩ := Xs6.out
        obtain ⟨cd0, cd1, cd2, -, -, -, -⟩ := Xd6.out
        obtain ⟨cq0, cq1, cq2, -, -, -, -⟩ := Xq6.out
        obtain ⟨cr0, cr1, cr2, -, -, -, -⟩ := Xr6.out
        obtain ⟨cm0, cm1, cm2, -, -, -, -⟩ := Xm6.out
        obtain ⟨cn0, cn1, cn2, -, -, -, -⟩ := Xn6.out
        obtain ⟨r6, hr6⟩ : ∃ r, r = w6.alloc (.cells #[.bool false, .int .i64 a, .string ⟨#[]⟩] 27) := ⟨_, rfl⟩
        have hc6 := do_lit HS.out 19 [⟨false, a, []⟩] _ #[.bool false, .int .i64 a, .string ⟨#[]⟩] rfl 1 rfl (by omega) (by unfold I; omega) (fun v hv => (Hok.out v) (by simp at hv ⊢; subst hv; simp)) _ _ _ _ h19.out w6 r6 (HG.out.below' BB6.out) hr6
        have Wr6 := Lib.hid hr6; have Hc6 := Lib.hid hc6
        clear hr6 hc6
        go_wp2_with (first | rw [← Wr6.out] | (rw [← Wn6.out]))
        refine Hc6.out.mono ?_
        rintro e v7 ⟨rfl, b7⟩
        obtain ⟨w7, hw7⟩ : ∃ w, w = v7.alloc (.cells #[.bool true, .int .i64 0, .string ⟨F.toArray⟩] 27) := ⟨_, rfl⟩
        have bn : Below v7.heap.size v7 w7 := by rw [hw7]; exact (Below.refl _ _).alloc (Nat.le_refl _) _
        have bt := b7.trans (bn.mono b7.size)
        have xn : Bx w7 v7.heap.size (.bool true) (.int .i64 0) (.string ⟨F.toArray⟩) := by rw [hw7]; exact Bx.made _ _ _ _ _
        have Xt7 := Lib.hid xn; have BB7 := Lib.hid (BB6.out.trans (bt.mono BB6.out.size)); have Wn7 := Lib.hid hw7
        have Xx7 := Lib.hid (Xx6.out.below bt Xx6.out.lt)
        have Xy7 := Lib.hid (Xy6.out.below bt Xy6.out.lt)
        have Xs7 := Lib.hid (Xs6.out.below bt Xs6.out.lt)
        have Xd7 := Lib.hid (Xd6.out.below bt Xd6.out.lt)
        have Xq7 := Lib.hid (Xq6.out.below bt Xq6.out.lt)
        have Xr7 := Lib.hid (Xr6.out.below bt Xr6.out.lt)
        have Xm7 := Lib.hid (Xm6.out.below bt Xm6.out.lt)
        have Xn7 := Lib.hid (Xn6.out.below bt Xn6.out.lt)
        clear cx0 cx1 cx2 cy0 cy1 cy2 cs0 cs1 cs2 cd0 cd1 cd2 cq0 cq1 cq2 cr0 cr1 cr2 cm0 cm1 cm2 cn0 cn1 cn2 bn bt xn b7 hw7
        obtain ⟨cx0, cx1, cx2, -, -, -, -⟩ := Xx7.out
        obtain ⟨cy0, cy1, cy2, -, -, -, -⟩ := Xy7.out
        obtain ⟨cs0, cs1, cs2, -, -, -, -⟩ := Xs7.out
        obtain ⟨cd0, cd1, cd2, -, -, -, -⟩ := Xd7.out
        obtain ⟨cq0, cq1, cq2, -, -, -, -⟩ := Xq7.out
        obtain ⟨cr0, cr1, cr2, -, -, -, -⟩ := Xr7.out
        obtain ⟨cm0, cm1, cm2, -, -, -, -⟩ := Xm7.out
        obtain ⟨cn0, cn1, cn2, -, -, -, -⟩ := Xn7.out
        obtain ⟨ct0, ct1, ct2, -, -, -, -⟩ := Xt7.out
        obtain ⟨r7, hr7⟩ : ∃ r, r = w7.alloc (.cells #[.bool true, .int .i64 0, .string ⟨F.toArray⟩] 27) := ⟨_, rfl⟩
        have hc7 := do_lit HS.out 18 [⟨true, 0, F⟩] _ #[.bool true, .int .i64 0, .string ⟨F.toArray⟩] rfl 1 rfl (by omega) (by unfold I; omega) (fun v hv => (Hok.out v) (by simp at hv ⊢; subst hv; simp)) _ _ _ _ h18.out w7 r7 (HG.out.below' BB7.out) hr7
        have Wr7 := Lib.hid hr7; have Hc7 := Lib.hid hc7
        clear hr7 hc7
        go_wp2_with (first | rw [← Wr7.out] | (rw [← Wn7.out]))
        refine Hc7.out.mono ?_
        rintro e v8 ⟨rfl, b8⟩
        obtain ⟨w8, hw8⟩ : ∃ w, w = v8.alloc (.cells #[.bool false, .int .i64 a, .string ⟨#[]⟩] 27) := ⟨_, rfl⟩
        have bn : Below v8.heap.size v8 w8 := by rw [hw8]; exact (Below.refl _ _).alloc (Nat.le_refl _) _
        have bt := b8.trans (bn.mono b8.size)
        have xn : Bx w8 v8.heap.size (.bool false) (.int .i64 a) (.string ⟨#[]⟩) := by rw [hw8]; exact Bx.made _ _ _ _ _
        have Xk8 := Lib.hid xn; have BB8 := Lib.hid (BB7.out.trans (bt.mono BB7.out.size)); have Wn8 := Lib.hid hw8
        have Xx8 := Lib.hid (Xx7.out.below bt Xx7.out.lt)
        have Xy8 := Lib.hid (Xy7.out.below bt Xy7.out.lt)
        have Xs8 := Lib.hid (Xs7.out.below bt Xs7.out.lt)
        have Xd8 := Lib.hid (Xd7.out.below bt Xd7.out.lt)
        have Xq8 := Lib.hid (Xq7.out.below bt Xq7.out.lt)
        have Xr8 := Lib.hid (Xr7.out.below bt Xr7.out.lt)
        have Xm8 := Lib.hid (Xm7.out.below bt Xm7.out.lt)
        have Xn8 := Lib.hid (Xn7.out.below bt Xn7.out.lt)
        have Xt8 := Lib.hid (Xt7.out.below bt Xt7.out.lt)
        clear cx0 cx1 cx2 cy0 cy1 cy2 cs0 cs1 cs2 cd0 cd1 cd2 cq0 cq1 cq2 cr0 cr1 cr2 cm0 cm1 cm2 cn0 cn1 cn2 ct0 ct1 ct2 bn bt xn b8 hw8
        obtain ⟨cx0, cx1, cx2, -, -, -, -⟩ := Xx8.out
        obtain ⟨cy0, cy1, cy2, -, -, -, -⟩ := Xy8.out
        obtain ⟨cs0, cs1, cs2, -, -, -, -⟩ := Xs8.out
        obtain ⟨cd0, cd1, cd2, -, -, -, -⟩ := Xd8.out
        obtain ⟨cq0, cq1, cq2, -, -, -, -⟩ := Xq8.out
        obtain ⟨cr0, cr1, cr2, -, -, -, -⟩ := Xr8.out
        obtain ⟨cm0, cm1, cm2, -, -, -, -⟩ := Xm8.out
        obtain ⟨cn0, cn1, cn2, -, -, -, -⟩ := Xn8.out
        obtain ⟨ct0, ct1, ct2, -, -, -, -⟩ := Xt8.out
        obtain ⟨ck0, ck1, ck2, -, -, -, -⟩ := Xk8.out
        go_wp2_with (rw [← Wn8.out])
        refine (alive13_c HS.out w8 (HG.out.below' BB8.out)).mono ?_
        rintro e wf ⟨rfl, bf⟩
        have BBf := Lib.hid (BB8.out.trans (bf.mono BB8.out.size))
        have xfx := Xx8.out.below bf Xx8.out.lt
        have xfy := Xy8.out.below bf Xy8.out.lt
        have xfs := Xs8.out.below bf Xs8.out.lt
        have xfd := Xd8.out.below bf Xd8.out.lt
        have xfq := Xq8.out.below bf Xq8.out.lt
        have xfr := Xr8.out.below bf Xr8.out.lt
        have xfm := Xm8.out.below bf Xm8.out.lt
        have xfn := Xn8.out.below bf Xn8.out.lt
        have xft := Xt8.out.below bf Xt8.out.lt
        have xfk := Xk8.out.below bf Xk8.out.lt
        clear cx0 cx1 cx2 cy0 cy1 cy2 cs0 cs1 cs2 cd0 cd1 cd2 cq0 cq1 cq2 cr0 cr1 cr2 cm0 cm1 cm2 cn0 cn1 cn2 ct0 ct1 ct2 ck0 ck1 ck2 bf
        obtain ⟨cx0, cx1, cx2, -, -, -, -⟩ := xfx
        obtain ⟨cy0, cy1, cy2, -, -, -, -⟩ := xfy
        obtain ⟨cs0, cs1, cs2, -, -, -, -⟩ := xfs
        obtain ⟨cd0, cd1, cd2, -, -, -, -⟩ := xfd
        obtain ⟨cq0, cq1, cq2, -, -, -, -⟩ := xfq
        obtain ⟨cr0, cr1, cr2, -, -, -, -⟩ := xfr
        obtain ⟨cm0, cm1, cm2, -, -, -, -⟩ := xfm
        obtain ⟨cn0, cn1, cn2, -, -, -, -⟩ := xfn
        obtain ⟨ct0, ct1, ct2, -, -, -, -⟩ := xft
        obtain ⟨ck0, ck1, ck2, -, -, -, -⟩ := xfk
        go_wp2
        go_ret
        exact ⟨rfl, BBf.out⟩
      · have ds2 : decide (a < 1000000000000000000) = false := decide_eq_false hs2
        clear hNa hKa ha hb hb0 hs1 hs2
        go_enter Tryd.func5, Tryd.ntmps5
        go_wp2_with fail
        refine (Hna.out _).mono ?_
        rintro e u1 ⟨rfl, b1⟩
        go_wp2_with fail
        refine (Hnb.out _).mono ?_
        rintro e u2 ⟨rfl, b2⟩
        have bb2 := b1.trans (b2.mono b1.size)
        obtain ⟨u3, hu3⟩ : ∃ u3, u3 = u2.alloc (.cells #[.bool false, .int .i64 a, .string ⟨#[]⟩] 27) := ⟨_, rfl⟩
        have z3 : u3.heap.size = u2.heap.size + 1 := by rw [hu3]; simp
        have b3 : Below u2.heap.size u2 u3 := by rw [hu3]; exact (Below.refl _ _).alloc (Nat.le_refl _) _
        have x3 : Bx u3 u2.heap.size (.bool false) (.int .i64 a) (.string ⟨#[]⟩) := by rw [hu3]; exact Bx.made _ _ _ _ _
        obtain ⟨w0, hw0⟩ : ∃ w0, w0 = u3.alloc (.cells #[.bool false, .int .i64 b, .string ⟨#[]⟩] 27) := ⟨_, rfl⟩
        have b4 : Below u3.heap.size u3 w0 := by rw [hw0]; exact (Below.refl _ _).alloc (Nat.le_refl _) _
        have y4 : Bx w0 u3.heap.size (.bool false) (.int .i64 b) (.string ⟨#[]⟩) := by rw [hw0]; exact Bx.made _ _ _ _ _
        rw [z3] at y4
        have x4 := x3.below b4 x3.lt
        have b34 := b3.trans (b4.mono b3.size)
        have bb4 := bb2.trans (b34.mono bb2.size)
        obtain ⟨Gx, hGx⟩ : ∃ Gx, Gx = u2.heap.size := ⟨_, rfl⟩
        have Wx := Lib.hid hu3; have Wy := Lib.hid hw0; have Zx := Lib.hid z3; have Xx0 := Lib.hid x4; have Xy0 := Lib.hid y4; have BB0 := Lib.hid bb4
        clear hu3 z3 b3 x3 hw0 b4 y4 x4 b34 bb4 b1 b2 bb2 hGx Gx
        obtain ⟨cx0, cx1, cx2, -, -, -, -⟩ := Xx0.out
        obtain ⟨cy0, cy1, cy2, -, -, -, -⟩ := Xy0.out
        obtain ⟨r0, hr0⟩ : ∃ r, r = w0.alloc (.cells #[.bool false, .int .i64 a, .string ⟨#[]⟩, .bool false, .int .i64 b, .string ⟨#[]⟩] 27) := ⟨_, rfl⟩
        have hc0 := do_lit HS.out 4 [⟨false, a, []⟩, ⟨false, b, []⟩] _ #[.bool false, .int .i64 a, .string ⟨#[]⟩, .bool false, .int .i64 b, .string ⟨#[]⟩] rfl 2 rfl (by omega) (by unfold I; omega) (fun v hv => (Hok.out v) (by simp at hv ⊢; rcases hv with rfl | rfl <;> simp)) _ _ _ _ h4.out w0 r0 (HG.out.below' BB0.out) hr0
        have Wr0 := Lib.hid hr0; have Hc0 := Lib.hid hc0
        clear hr0 hc0
        go_wp2_with (first | rw [← Wr0.out] | (first | rw [← Wx.out, ← Wy.out, Zx.out] | rw [← Wx.out, ← Wy.out]))
        refine Hc0.out.mono ?_
        rintro e v1 ⟨rfl, b1⟩
        obtain ⟨w1, hw1⟩ : ∃ w, w = v1.alloc (.cells #[.bool false, .int .i64 S1, .string ⟨#[]⟩] 27) := ⟨_, rfl⟩
        have bn : Below v1.heap.size v1 w1 := by rw [hw1]; exact (Below.refl _ _).alloc (Nat.le_refl _) _
        have bt := b1.trans (bn.mono b1.size)
        have xn : Bx w1 v1.heap.size (.bool false) (.int .i64 S1) (.string ⟨#[]⟩) := by rw [hw1]; exact Bx.made _ _ _ _ _
        have Xs1 := Lib.hid xn; have BB1 := Lib.hid (BB0.out.trans (bt.mono BB0.out.size)); have Wn1 := Lib.hid hw1
        have Xx1 := Lib.hid (Xx0.out.below bt Xx0.out.lt)
        have Xy1 := Lib.hid (Xy0.out.below bt Xy0.out.lt)
        clear cx0 cx1 cx2 cy0 cy1 cy2 bn bt xn b1 hw1
        obtain ⟨cx0, cx1, cx2, -, -, -, -⟩ := Xx1.out
        obtain ⟨cy0, cy1, cy2, -, -, -, -⟩ := Xy1.out
        obtain ⟨cs0, cs1, cs2, -, -, -, -⟩ := Xs1.out
        obtain ⟨r1, hr1⟩ : ∃ r, r = w1.alloc (.cells #[.bool false, .int .i64 S1, .string ⟨#[]⟩, .bool false, .int .i64 b, .string ⟨#[]⟩] 27) := ⟨_, rfl⟩
        have hc1 := do_lit HS.out 5 [⟨false, S1, []⟩, ⟨false, b, []⟩] _ #[.bool false, .int .i64 S1, .string ⟨#[]⟩, .bool false, .int .i64 b, .string ⟨#[]⟩] rfl 2 rfl (by omega) (by unfold I; omega) (fun v hv => (Hok.out v) (by simp at hv ⊢; rcases hv with rfl | rfl <;> simp)) _ _ _ _ h5.out w1 r1 (HG.out.below' BB1.out) hr1
        have Wr1 := Lib.hid hr1; have Hc1 := Lib.hid hc1
        clear hr1 hc1
        go_wp2_with (first | rw [← Wr1.out] | (rw [← Wn1.out]))
        refine Hc1.out.mono ?_
        rintro e v2 ⟨rfl, b2⟩
        obtain ⟨w2, hw2⟩ : ∃ w, w = v2.alloc (.cells #[.bool false, .int .i64 a, .string ⟨#[]⟩] 27) := ⟨_, rfl⟩
        have bn : Below v2.heap.size v2 w2 := by rw [hw2]; exact (Below.refl _ _).alloc (Nat.le_refl _) _
        have bt := b2.trans (bn.mono b2.size)
        have xn : Bx w2 v2.heap.size (.bool false) (.int .i64 a) (.string ⟨#[]⟩) := by rw [hw2]; exact Bx.made _ _ _ _ _
        have Xd2 := Lib.hid xn; have BB2 := Lib.hid (BB1.out.trans (bt.mono BB1.out.size)); have Wn2 := Lib.hid hw2
        have Xx2 := Lib.hid (Xx1.out.below bt Xx1.out.lt)
        have Xy2 := Lib.hid (Xy1.out.below bt Xy1.out.lt)
        have Xs2 := Lib.hid (Xs1.out.below bt Xs1.out.lt)
        clear cx0 cx1 cx2 cy0 cy1 cy2 cs0 cs1 cs2 bn bt xn b2 hw2
        obtain ⟨cx0, cx1, cx2, -, -, -, -⟩ := Xx2.out
        obtain ⟨cy0, cy1, cy2, -, -, -, -⟩ := Xy2.out
        obtain ⟨cs0, cs1, cs2, -, -, -, -⟩ := Xs2.out
        obtain ⟨cd0, cd1, cd2, -, -, -, -⟩ := Xd2.out
        obtain ⟨r2, hr2⟩ : ∃ r, r = w2.alloc (.cells #[.bool false, .int .i64 a, .string ⟨#[]⟩, .bool false, .int .i64 b, .string ⟨#[]⟩] 27) := ⟨_, rfl⟩
        have hc2 := do_lit HS.out 7 [⟨false, a, []⟩, ⟨false, b, []⟩] _ #[.bool false, .int .i64 a, .string ⟨#[]⟩, .bool false, .int .i64 b, .string ⟨#[]⟩] rfl 2 rfl (by omega) (by unfold I; omega) (fun v hv => (Hok.out v) (by simp at hv ⊢; rcases hv with rfl | rfl <;> simp)) _ _ _ _ h7.out w2 r2 (HG.out.below' BB2.out) hr2
        have Wr2 := Lib.hid hr2; have Hc2 := Lib.hid hc2
        clear hr2 hc2
        go_wp2_with (first | rw [← Wr2.out] | (rw [← Wn2.out]))
        refine Hc2.out.mono ?_
        rintro e v3 ⟨rfl, b3⟩
        obtain ⟨w3, hw3⟩ : ∃ w, w = v3.alloc (.cells #[.bool false, .int .i64 Q, .string ⟨#[]⟩] 27) := ⟨_, rfl⟩
        have bn : Below v3.heap.size v3 w3 := by rw [hw3]; exact (Below.refl _ _).alloc (Nat.le_refl _) _
        have bt := b3.trans (bn.mono b3.size)
        have xn : Bx w3 v3.heap.size (.bool false) (.int .i64 Q) (.string ⟨#[]⟩) := by rw [hw3]; exact Bx.made _ _ _ _ _
        have Xq3 := Lib.hid xn; have BB3 := Lib.hid (BB2.out.trans (bt.mono BB2.out.size)); have Wn3 := Lib.hid hw3
        have Xx3 := Lib.hid (Xx2.out.below bt Xx2.out.lt)
        have Xy3 := Lib.hid (Xy2.out.below bt Xy2.out.lt)
        have Xs3 := Lib.hid (Xs2.out.below bt Xs2.out.lt)
        have Xd3 := Lib.hid (Xd2.out.below bt Xd2.out.lt)
        clear cx0 cx1 cx2 cy0 cy1 cy2 cs0 cs1 cs2 cd0 cd1 cd2 bn bt xn b3 hw3
        obtain ⟨cx0, cx1, cx2, -, -, -, -⟩ := Xx3.out
        obtain ⟨cy0, cy1, cy2, -, -, -, -⟩ := Xy3.out
        obtain ⟨cs0, cs1, cs2, -, -, -, -⟩ := Xs3.out
        obtain ⟨cd0, cd1, cd2, -, -, -, -⟩ := Xd3.out
        obtain ⟨cq0, cq1, cq2, -, -, -, -⟩ := Xq3.out
        obtain ⟨r3, hr3⟩ : ∃ r, r = w3.alloc (.cells #[.bool false, .int .i64 a, .string ⟨#[]⟩, .bool false, .int .i64 b, .string ⟨#[]⟩] 27) := ⟨_, rfl⟩
        have hc3 := do_lit HS.out 8 [⟨false, a, []⟩, ⟨false, b, []⟩] _ #[.bool false, .int .i64 a, .string ⟨#[]⟩, .bool false, .int .i64 b, .string ⟨#[]⟩] rfl 2 rfl (by omega) (by unfold I; omega) (fun v hv => (Hok.out v) (by simp at hv ⊢; rcases hv with rfl | rfl <;> simp)) _ _ _ _ h8.out w3 r3 (HG.out.below' BB3.out) hr3
        have Wr3 := Lib.hid hr3; have Hc3 := Lib.hid hc3
        clear hr3 hc3
        go_wp2_with (first | rw [← Wr3.out] | (rw [← Wn3.out]))
        refine Hc3.out.mono ?_
        rintro e v4 ⟨rfl, b4⟩
        obtain ⟨w4, hw4⟩ : ∃ w, w = v4.alloc (.cells #[.bool false, .int .i64 R, .string ⟨#[]⟩] 27) := ⟨_, rfl⟩
        have bn : Below v4.heap.size v4 w4 := by rw [hw4]; exact (Below.refl _ _).alloc (Nat.le_refl _) _
        have bt := b4.trans (bn.mono b4.size)
        have xn : Bx w4 v4.heap.size (.bool false) (.int .i64 R) (.string ⟨#[]⟩) := by rw [hw4]; exact Bx.made _ _ _ _ _
        have Xr4 := Lib.hid xn; have BB4 := Lib.hid (BB3.out.trans (bt.mono BB3.out.size)); have Wn4 := Lib.hid hw4
        have Xx4 := Lib.hid (Xx3.out.below bt Xx3.out.lt)
        have Xy4 := Lib.hid (Xy3.out.below bt Xy3.out.lt)
        have Xs4 := Lib.hid (Xs3.out.below bt Xs3.out.lt)
        have Xd4 := Lib.hid (Xd3.out.below bt Xd3.out.lt)
        have Xq4 := Lib.hid (Xq3.out.below bt Xq3.out.lt)
        clear cx0 cx1 cx2 cy0 cy1 cy2 cs0 cs1 cs2 cd0 cd1 cd2 cq0 cq1 cq2 bn bt xn b4 hw4
        obtain ⟨cx0, cx1, cx2, -, -, -, -⟩ := Xx4.out
        obtain ⟨cy0, cy1, cy2, -, -, -, -⟩ := Xy4.out
        obtain ⟨cs0, cs1, cs2, -, -, -, -⟩ := Xs4.out
        obtain ⟨cd0, cd1, cd2, -, -, -, -⟩ := Xd4.out
        obtain ⟨cq0, cq1, cq2, -, -, -, -⟩ := Xq4.out
        obtain ⟨cr0, cr1, cr2, -, -, -, -⟩ := Xr4.out
        obtain ⟨r4, hr4⟩ : ∃ r, r = w4.alloc (.cells #[.bool false, .int .i64 Q, .string ⟨#[]⟩, .bool false, .int .i64 b, .string ⟨#[]⟩] 27) := ⟨_, rfl⟩
        have hc4 := do_lit HS.out 6 [⟨false, Q, []⟩, ⟨false, b, []⟩] _ #[.bool false, .int .i64 Q, .string ⟨#[]⟩, .bool false, .int .i64 b, .string ⟨#[]⟩] rfl 2 rfl (by omega) (by unfold I; omega) (fun v hv => (Hok.out v) (by simp at hv ⊢; rcases hv with rfl | rfl <;> simp)) _ _ _ _ h6.out w4 r4 (HG.out.below' BB4.out) hr4
        have Wr4 := Lib.hid hr4; have Hc4 := Lib.hid hc4
        clear hr4 hc4
        go_wp2_with (first | rw [← Wr4.out] | (rw [← Wn4.out]))
        refine Hc4.out.mono ?_
        rintro e v5 ⟨rfl, b5⟩
        obtain ⟨w5, hw5⟩ : ∃ w, w = v5.alloc (.cells #[.bool false, .int .i64 M, .string ⟨#[]⟩] 27) := ⟨_, rfl⟩
        have bn : Below v5.heap.size v5 w5 := by rw [hw5]; exact (Below.refl _ _).alloc (Nat.le_refl _) _
        have bt := b5.trans (bn.mono b5.size)
        have xn : Bx w5 v5.heap.size (.bool false) (.int .i64 M) (.string ⟨#[]⟩) := by rw [hw5]; exact Bx.made _ _ _ _ _
        have Xm5 := Lib.hid xn; have BB5 := Lib.hid (BB4.out.trans (bt.mono BB4.out.size)); have Wn5 := Lib.hid hw5
        have Xx5 := Lib.hid (Xx4.out.below bt Xx4.out.lt)
        have Xy5 := Lib.hid (Xy4.out.below bt Xy4.out.lt)
        have Xs5 := Lib.hid (Xs4.out.below bt Xs4.out.lt)
        have Xd5 := Lib.hid (Xd4.out.below bt Xd4.out.lt)
        have Xq5 := Lib.hid (Xq4.out.below bt Xq4.out.lt)
        have Xr5 := Lib.hid (Xr4.out.below bt Xr4.out.lt)
        clear cx0 cx1 cx2 cy0 cy1 cy2 cs0 cs1 cs2 cd0 cd1 cd2 cq0 cq1 cq2 cr0 cr1 cr2 bn bt xn b5 hw5
        obtain ⟨cx0, cx1, cx2, -, -, -, -⟩ := Xx5.out
        obtain ⟨cy0, cy1, cy2, -, -, -, -⟩ := Xy5.out
        obtain ⟨cs0, cs1, cs2, -, -, -, -⟩ := Xs5.out
        obtain ⟨cd0, cd1, cd2, -, -, -, -⟩ := Xd5.out
        obtain ⟨cq0, cq1, cq2, -, -, -, -⟩ := Xq5.out
        obtain ⟨cr0, cr1, cr2, -, -, -, -⟩ := Xr5.out
        obtain ⟨cm0, cm1, cm2, -, -, -, -⟩ := Xm5.out
        obtain ⟨r5, hr5⟩ : ∃ r, r = w5.alloc (.cells #[.bool false, .int .i64 M, .string ⟨#[]⟩, .bool false, .int .i64 R, .string ⟨#[]⟩] 27) := ⟨_, rfl⟩
        have hc5 := do_lit HS.out 4 [⟨false, M, []⟩, ⟨false, R, []⟩] _ #[.bool false, .int .i64 M, .string ⟨#[]⟩, .bool false, .int .i64 R, .string ⟨#[]⟩] rfl 2 rfl (by omega) (by unfold I; omega) (fun v hv => (Hok.out v) (by simp at hv ⊢; rcases hv with rfl | rfl <;> simp)) _ _ _ _ h4n.out w5 r5 (HG.out.below' BB5.out) hr5
        have Wr5 := Lib.hid hr5; have Hc5 := Lib.hid hc5
        clear hr5 hc5
        go_wp2_with (first | rw [← Wr5.out] | (rw [← Wn5.out]))
        refine Hc5.out.mono ?_
        rintro e v6 ⟨rfl, b6⟩
        obtain ⟨w6, hw6⟩ : ∃ w, w = v6.alloc (.cells #[.bool false, .int .i64 N, .string ⟨#[]⟩] 27) := ⟨_, rfl⟩
        have bn : Below v6.heap.size v6 w6 := by rw [hw6]; exact (Below.refl _ _).alloc (Nat.le_refl _) _
        have bt := b6.trans (bn.mono b6.size)
        have xn : Bx w6 v6.heap.size (.bool false) (.int .i64 N) (.string ⟨#[]⟩) := by rw [hw6]; exact Bx.made _ _ _ _ _
        have Xn6 := Lib.hid xn; have BB6 := Lib.hid (BB5.out.trans (bt.mono BB5.out.size)); have Wn6 := Lib.hid hw6
        have Xx6 := Lib.hid (Xx5.out.below bt Xx5.out.lt)
        have Xy6 := Lib.hid (Xy5.out.below bt Xy5.out.lt)
        have Xs6 := Lib.hid (Xs5.out.below bt Xs5.out.lt)
        have Xd6 := Lib.hid (Xd5.out.below bt Xd5.out.lt)
        have Xq6 := Lib.hid (Xq5.out.below bt Xq5.out.lt)
        have Xr6 := Lib.hid (Xr5.out.below bt Xr5.out.lt)
        have Xm6 := Lib.hid (Xm5.out.below bt Xm5.out.lt)
        clear cx0 cx1 cx2 cy0 cy1 cy2 cs0 cs1 cs2 cd0 cd1 cd2 cq0 cq1 cq2 cr0 cr1 cr2 cm0 cm1 cm2 bn bt xn b6 hw6
        obtain ⟨cx0, cx1, cx2, -, -, -, -⟩ := Xx6.out
        obtain ⟨cy0, cy1, cy2, -, -, -, -⟩ := Xy6.out
        obtain ⟨cs0, cs1, cs2, -, -, -, -⟩ := Xs6.out
        obtain ⟨cd0, cd1, cd2, -, -, -, -⟩ := Xd6.out
        obtain ⟨cq0, cq1, cq2, -, -, -, -⟩ := Xq6.out
        obtain ⟨cr0, cr1, cr2, -, -, -, -⟩ := Xr6.out
        obtain ⟨cm0, cm1, cm2, -, -, -, -⟩ := Xm6.out
        obtain ⟨cn0, cn1, cn2, -, -, -, -⟩ := Xn6.out
        obtain ⟨r6, hr6⟩ : ∃ r, r = w6.alloc (.cells #[.bool false, .int .i64 a, .string ⟨#[]⟩] 27) := ⟨_, rfl⟩
        have hc6 := do_lit HS.out 19 [⟨false, a, []⟩] _ #[.bool false, .int .i64 a, .string ⟨#[]⟩] rfl 1 rfl (by omega) (by unfold I; omega) (fun v hv => (Hok.out v) (by simp at hv ⊢; subst hv; simp)) _ _ _ _ h19.out w6 r6 (HG.out.below' BB6.out) hr6
        have Wr6 := Lib.hid hr6; have Hc6 := Lib.hid hc6
        clear hr6 hc6
        go_wp2_with (first | rw [← Wr6.out] | (rw [← Wn6.out]))
        refine Hc6.out.mono ?_
        rintro e v7 ⟨rfl, b7⟩
        obtain ⟨w7, hw7⟩ : ∃ w, w = v7.alloc (.cells #[.bool true, .int .i64 0, .string ⟨F.toArray⟩] 27) := ⟨_, rfl⟩
        have bn : Below v7.heap.size v7 w7 := by rw [hw7]; exact (Below.refl _ _).alloc (Nat.le_refl _) _
        have bt := b7.trans (bn.mono b7.size)
        have xn : Bx w7 v7.heap.size (.bool true) (.int .i64 0) (.string ⟨F.toArray⟩) := by rw [hw7]; exact Bx.made _ _ _ _ _
        have Xt7 := Lib.hid xn; have BB7 := Lib.hid (BB6.out.trans (bt.mono BB6.out.size)); have Wn7 := Lib.hid hw7
        have Xx7 := Lib.hid (Xx6.out.below bt Xx6.out.lt)
        have Xy7 := Lib.hid (Xy6.out.below bt Xy6.out.lt)
        have Xs7 := Lib.hid (Xs6.out.below bt Xs6.out.lt)
        have Xd7 := Lib.hid (Xd6.out.below bt Xd6.out.lt)
        have Xq7 := Lib.hid (Xq6.out.below bt Xq6.out.lt)
        have Xr7 := Lib.hid (Xr6.out.below bt Xr6.out.lt)
        have Xm7 := Lib.hid (Xm6.out.below bt Xm6.out.lt)
        have Xn7 := Lib.hid (Xn6.out.below bt Xn6.out.lt)
        clear cx0 cx1 cx2 cy0 cy1 cy2 cs0 cs1 cs2 cd0 cd1 cd2 cq0 cq1 cq2 cr0 cr1 cr2 cm0 cm1 cm2 cn0 cn1 cn2 bn bt xn b7 hw7
        obtain ⟨cx0, cx1, cx2, -, -, -, -⟩ := Xx7.out
        obtain ⟨cy0, cy1, cy2, -, -, -, -⟩ := Xy7.out
        obtain ⟨cs0, cs1, cs2, -, -, -, -⟩ := Xs7.out
        obtain ⟨cd0, cd1, cd2, -, -, -, -⟩ := Xd7.out
        obtain ⟨cq0, cq1, cq2, -, -, -, -⟩ := Xq7.out
        obtain ⟨cr0, cr1, cr2, -, -, -, -⟩ := Xr7.out
        obtain ⟨cm0, cm1, cm2, -, -, -, -⟩ := Xm7.out
        obtain ⟨cn0, cn1, cn2, -, -, -, -⟩ := Xn7.out
        obtain ⟨ct0, ct1, ct2, -, -, -, -⟩ := Xt7.out
        obtain ⟨r7, hr7⟩ : ∃ r, r = w7.alloc (.cells #[.bool true, .int .i64 0, .string ⟨F.toArray⟩] 27) := ⟨_, rfl⟩
        have hc7 := do_lit HS.out 18 [⟨true, 0, F⟩] _ #[.bool true, .int .i64 0, .string ⟨F.toArray⟩] rfl 1 rfl (by omega) (by unfold I; omega) (fun v hv => (Hok.out v) (by simp at hv ⊢; subst hv; simp)) _ _ _ _ h18.out w7 r7 (HG.out.below' BB7.out) hr7
        have Wr7 := Lib.hid hr7; have Hc7 := Lib.hid hc7
        clear hr7 hc7
        go_wp2_with (first | rw [← Wr7.out] | (rw [← Wn7.out]))
        refine Hc7.out.mono ?_
        rintro e v8 ⟨rfl, b8⟩
        obtain ⟨w8, hw8⟩ : ∃ w, w = v8.alloc (.cells #[.bool false, .int .i64 K, .string ⟨#[]⟩] 27) := ⟨_, rfl⟩
        have bn : Below v8.heap.size v8 w8 := by rw [hw8]; exact (Below.refl _ _).alloc (Nat.le_refl _) _
        have bt := b8.trans (bn.mono b8.size)
        have xn : Bx w8 v8.heap.size (.bool false) (.int .i64 K) (.string ⟨#[]⟩) := by rw [hw8]; exact Bx.made _ _ _ _ _
        have Xk8 := Lib.hid xn; have BB8 := Lib.hid (BB7.out.trans (bt.mono BB7.out.size)); have Wn8 := Lib.hid hw8
        have Xx8 := Lib.hid (Xx7.out.below bt Xx7.out.lt)
        have Xy8 := Lib.hid (Xy7.out.below bt Xy7.out.lt)
        have Xs8 := Lib.hid (Xs7.out.below bt Xs7.out.lt)
        have Xd8 := Lib.hid (Xd7.out.below bt Xd7.out.lt)
        have Xq8 := Lib.hid (Xq7.out.below bt Xq7.out.lt)
        have Xr8 := Lib.hid (Xr7.out.below bt Xr7.out.lt)
        have Xm8 := Lib.hid (Xm7.out.below bt Xm7.out.lt)
        have Xn8 := Lib.hid (Xn7.out.below bt Xn7.out.lt)
        have Xt8 := Lib.hid (Xt7.out.below bt Xt7.out.lt)
        clear cx0 cx1 cx2 cy0 cy1 cy2 cs0 cs1 cs2 cd0 cd1 cd2 cq0 cq1 cq2 cr0 cr1 cr2 cm0 cm1 cm2 cn0 cn1 cn2 ct0 ct1 ct2 bn bt xn b8 hw8
        obtain ⟨cx0, cx1, cx2, -, -, -, -⟩ := Xx8.out
        obtain ⟨cy0, cy1, cy2, -, -, -, -⟩ := Xy8.out
        obtain ⟨cs0, cs1, cs2, -, -, -, -⟩ := Xs8.out
        obtain ⟨cd0, cd1, cd2, -, -, -, -⟩ := Xd8.out
        obtain ⟨cq0, cq1, cq2, -, -, -, -⟩ := Xq8.out
        obtain ⟨cr0, cr1, cr2, -, -, -, -⟩ := Xr8.out
        obtain ⟨cm0, cm1, cm2, -, -, -, -⟩ := Xm8.out
        obtain ⟨cn0, cn1, cn2, -, -, -, -⟩ := Xn8.out
        obtain ⟨ct0, ct1, ct2, -, -, -, -⟩ := Xt8.out
        obtain ⟨ck0, ck1, ck2, -, -, -, -⟩ := Xk8.out
        go_wp2_with (rw [← Wn8.out])
        refine (alive13_c HS.out w8 (HG.out.below' BB8.out)).mono ?_
        rintro e wf ⟨rfl, bf⟩
        have BBf := Lib.hid (BB8.out.trans (bf.mono BB8.out.size))
        have xfx := Xx8.out.below bf Xx8.out.lt
        have xfy := Xy8.out.below bf Xy8.out.lt
        have xfs := Xs8.out.below bf Xs8.out.lt
        have xfd := Xd8.out.below bf Xd8.out.lt
        have xfq := Xq8.out.below bf Xq8.out.lt
        have xfr := Xr8.out.below bf Xr8.out.lt
        have xfm := Xm8.out.below bf Xm8.out.lt
        have xfn := Xn8.out.below bf Xn8.out.lt
        have xft := Xt8.out.below bf Xt8.out.lt
        have xfk := Xk8.out.below bf Xk8.out.lt
        clear cx0 cx1 cx2 cy0 cy1 cy2 cs0 cs1 cs2 cd0 cd1 cd2 cq0 cq1 cq2 cr0 cr1 cr2 cm0 cm1 cm2 cn0 cn1 cn2 ct0 ct1 ct2 ck0 ck1 ck2 bf
        obtain ⟨cx0, cx1, cx2, -, -, -, -⟩ := xfx
        obtain ⟨cy0, cy1, cy2, -, -, -, -⟩ := xfy
        obtain ⟨cs0, cs1, cs2, -, -, -, -⟩ := xfs
        obtain ⟨cd0, cd1, cd2, -, -, -, -⟩ := xfd
        obtain ⟨cq0, cq1, cq2, -, -, -, -⟩ := xfq
        obtain ⟨cr0, cr1, cr2, -, -, -, -⟩ := xfr
        obtain ⟨cm0, cm1, cm2, -, -, -, -⟩ := xfm
        obtain ⟨cn0, cn1, cn2, -, -, -, -⟩ := xfn
        obtain ⟨ct0, ct1, ct2, -, -, -, -⟩ := xft
        obtain ⟨ck0, ck1, ck2, -, -, -, -⟩ := xfk
        go_wp2
        go_ret
        exact ⟨rfl, BBf.out⟩
    · have ds1 : decide (-1000000000000000000 < a) = false := decide_eq_false hs1
      clear hNa hKa ha hb hb0 hs1
      go_enter Tryd.func5, Tryd.ntmps5
      go_wp2_with fail
      refine (Hna.out _).mono ?_
      rintro e u1 ⟨rfl, b1⟩
      go_wp2_with fail
      refine (Hnb.out _).mono ?_
      rintro e u2 ⟨rfl, b2⟩
      have bb2 := b1.trans (b2.mono b1.size)
      obtain ⟨u3, hu3⟩ : ∃ u3, u3 = u2.alloc (.cells #[.bool false, .int .i64 a, .string ⟨#[]⟩] 27) := ⟨_, rfl⟩
      have z3 : u3.heap.size = u2.heap.size + 1 := by rw [hu3]; simp
      have b3 : Below u2.heap.size u2 u3 := by rw [hu3]; exact (Below.refl _ _).alloc (Nat.le_refl _) _
      have x3 : Bx u3 u2.heap.size (.bool false) (.int .i64 a) (.string ⟨#[]⟩) := by rw [hu3]; exact Bx.made _ _ _ _ _
      obtain ⟨w0, hw0⟩ : ∃ w0, w0 = u3.alloc (.cells #[.bool false, .int .i64 b, .string ⟨#[]⟩] 27) := ⟨_, rfl⟩
      have b4 : Below u3.heap.size u3 w0 := by rw [hw0]; exact (Below.refl _ _).alloc (Nat.le_refl _) _
      have y4 : Bx w0 u3.heap.size (.bool false) (.int .i64 b) (.string ⟨#[]⟩) := by rw [hw0]; exact Bx.made _ _ _ _ _
      rw [z3] at y4
      have x4 := x3.below b4 x3.lt
      have b34 := b3.trans (b4.mono b3.size)
      have bb4 := bb2.trans (b34.mono bb2.size)
      obtain ⟨Gx, hGx⟩ : ∃ Gx, Gx = u2.heap.size := ⟨_, rfl⟩
      have Wx := Lib.hid hu3; have Wy := Lib.hid hw0; have Zx := Lib.hid z3; have Xx0 := Lib.hid x4; have Xy0 := Lib.hid y4; have BB0 := Lib.hid bb4
      clear hu3 z3 b3 x3 hw0 b4 y4 x4 b34 bb4 b1 b2 bb2 hGx Gx
      obtain ⟨cx0, cx1, cx2, -, -, -, -⟩ := Xx0.out
      obtain ⟨cy0, cy1, cy2, -, -, -, -⟩ := Xy0.out
      obtain ⟨r0, hr0⟩ : ∃ r, r = w0.alloc (.cells #[.bool false, .int .i64 a, .string ⟨#[]⟩, .bool false, .int .i64 b, .string ⟨#[]⟩] 27) := ⟨_, rfl⟩
      have hc0 := do_lit HS.out 4 [⟨false, a, []⟩, ⟨false, b, []⟩] _ #[.bool false, .int .i64 a, .string ⟨#[]⟩, .bool false, .int .i64 b, .string ⟨#[]⟩] rfl 2 rfl (by omega) (by unfold I; omega) (fun v hv => (Hok.out v) (by simp at hv ⊢; rcases hv with rfl | rfl <;> simp)) _ _ _ _ h4.out w0 r0 (HG.out.below' BB0.out) hr0
      have Wr0 := Lib.hid hr0; have Hc0 := Lib.hid hc0
      clear hr0 hc0
      go_wp2_with (first | rw [← Wr0.out] | (first | rw [← Wx.out, ← Wy.out, Zx.out] | rw [← Wx.out, ← Wy.out]))
      refine Hc0.out.mono ?_
      rintro e v1 ⟨rfl, b1⟩
      obtain ⟨w1, hw1⟩ : ∃ w, w = v1.alloc (.cells #[.bool false, .int .i64 S1, .string ⟨#[]⟩] 27) := ⟨_, rfl⟩
      have bn : Below v1.heap.size v1 w1 := by rw [hw1]; exact (Below.refl _ _).alloc (Nat.le_refl _) _
      have bt := b1.trans (bn.mono b1.size)
      have xn : Bx w1 v1.heap.size (.bool false) (.int .i64 S1) (.string ⟨#[]⟩) := by rw [hw1]; exact Bx.made _ _ _ _ _
      have Xs1 := Lib.hid xn; have BB1 := Lib.hid (BB0.out.trans (bt.mono BB0.out.size)); have Wn1 := Lib.hid hw1
      have Xx1 := Lib.hid (Xx0.out.below bt Xx0.out.lt)
      have Xy1 := Lib.hid (Xy0.out.below bt Xy0.out.lt)
      clear cx0 cx1 cx2 cy0 cy1 cy2 bn bt xn b1 hw1
      obtain ⟨cx0, cx1, cx2, -, -, -, -⟩ := Xx1.out
      obtain ⟨cy0, cy1, cy2, -, -, -, -⟩ := Xy1.out
      obtain ⟨cs0, cs1, cs2, -, -, -, -⟩ := Xs1.out
      obtain ⟨r1, hr1⟩ : ∃ r, r = w1.alloc (.cells #[.bool false, .int .i64 S1, .string ⟨#[]⟩, .bool false, .int .i64 b, .string ⟨#[]⟩] 27) := ⟨_, rfl⟩
      have hc1 := do_lit HS.out 5 [⟨false, S1, []⟩, ⟨false, b, []⟩] _ #[.bool false, .int .i64 S1, .string ⟨#[]⟩, .bool false, .int .i64 b, .string ⟨#[]⟩] rfl 2 rfl (by omega) (by unfold I; omega) (fun v hv => (Hok.out v) (by simp at hv ⊢; rcases hv with rfl | rfl <;> simp)) _ _ _ _ h5.out w1 r1 (HG.out.below' BB1.out) hr1
      have Wr1 := Lib.hid hr1; have Hc1 := Lib.hid hc1
      clear hr1 hc1
      go_wp2_with (first | rw [← Wr1.out] | (rw [← Wn1.out]))
      refine Hc1.out.mono ?_
      rintro e v2 ⟨rfl, b2⟩
      obtain ⟨w2, hw2⟩ : ∃ w, w = v2.alloc (.cells #[.bool false, .int .i64 a, .string ⟨#[]⟩] 27) := ⟨_, rfl⟩
      have bn : Below v2.heap.size v2 w2 := by rw [hw2]; exact (Below.refl _ _).alloc (Nat.le_refl _) _
      have bt := b2.trans (bn.mono b2.size)
      have xn : Bx w2 v2.heap.size (.bool false) (.int .i64 a) (.string ⟨#[]⟩) := by rw [hw2]; exact Bx.made _ _ _ _ _
      have Xd2 := Lib.hid xn; have BB2 := Lib.hid (BB1.out.trans (bt.mono BB1.out.size)); have Wn2 := Lib.hid hw2
      have Xx2 := Lib.hid (Xx1.out.below bt Xx1.out.lt)
      have Xy2 := Lib.hid (Xy1.out.below bt Xy1.out.lt)
      have Xs2 := Lib.hid (Xs1.out.below bt Xs1.out.lt)
      clear cx0 cx1 cx2 cy0 cy1 cy2 cs0 cs1 cs2 bn bt xn b2 hw2
      obtain ⟨cx0, cx1, cx2, -, -, -, -⟩ := Xx2.out
      obtain ⟨cy0, cy1, cy2, -, -, -, -⟩ := Xy2.out
      obtain ⟨cs0, cs1, cs2, -, -, -, -⟩ := Xs2.out
      obtain ⟨cd0, cd1, cd2, -, -, -, -⟩ := Xd2.out
      obtain ⟨r2, hr2⟩ : ∃ r, r = w2.alloc (.cells #[.bool false, .int .i64 a, .string ⟨#[]⟩, .bool false, .int .i64 b, .string ⟨#[]⟩] 27) := ⟨_, rfl⟩
      have hc2 := do_lit HS.out 7 [⟨false, a, []⟩, ⟨false, b, []⟩] _ #[.bool false, .int .i64 a, .string ⟨#[]⟩, .bool false, .int .i64 b, .string ⟨#[]⟩] rfl 2 rfl (by omega) (by unfold I; omega) (fun v hv => (Hok.out v) (by simp at hv ⊢; rcases hv with rfl | rfl <;> simp)) _ _ _ _ h7.out w2 r2 (HG.out.below' BB2.out) hr2
      have Wr2 := Lib.hid hr2; have Hc2 := Lib.hid hc2
      clear hr2 hc2
      go_wp2_with (first | rw [← Wr2.out] | (rw [← Wn2.out]))
      refine Hc2.out.mono ?_
      rintro e v3 ⟨rfl, b3⟩
      obtain ⟨w3, hw3⟩ : ∃ w, w = v3.alloc (.cells #[.bool false, .int .i64 Q, .string ⟨#[]⟩] 27) := ⟨_, rfl⟩
      have bn : Below v3.heap.size v3 w3 := by rw [hw3]; exact (Below.refl _ _).alloc (Nat.le_refl _) _
      have bt := b3.trans (bn.mono b3.size)
      have xn : Bx w3 v3.heap.size (.bool false) (.int .i64 Q) (.string ⟨#[]⟩) := by rw [hw3]; exact Bx.made _ _ _ _ _
      have Xq3 := Lib.hid xn; have BB3 := Lib.hid (BB2.out.trans (bt.mono BB2.out.size)); have Wn3 := Lib.hid hw3
      have Xx3 := Lib.hid (Xx2.out.below bt Xx2.out.lt)
      have Xy3 := Lib.hid (Xy2.out.below bt Xy2.out.lt)
      have Xs3 := Lib.hid (Xs2.out.below bt Xs2.out.lt)
      have Xd3 := Lib.hid (Xd2.out.below bt Xd2.out.lt)
      clear cx0 cx1 cx2 cy0 cy1 cy2 cs0 cs1 cs2 cd0 cd1 cd2 bn bt xn b3 hw3
      obtain ⟨cx0, cx1, cx2, -, -, -, -⟩ := Xx3.out
      obtain ⟨cy0, cy1, cy2, -, -, -, -⟩ := Xy3.out
      obtain ⟨cs0, cs1, cs2, -, -, -, -⟩ := Xs3.out
      obtain ⟨cd0, cd1, cd2, -, -, -, -⟩ := Xd3.out
      obtain ⟨cq0, cq1, cq2, -, -, -, -⟩ := Xq3.out
      obtain ⟨r3, hr3⟩ : ∃ r, r = w3.alloc (.cells #[.bool false, .int .i64 a, .string ⟨#[]⟩, .bool false, .int .i64 b, .string ⟨#[]⟩] 27) := ⟨_, rfl⟩
      have hc3 := do_lit HS.out 8 [⟨false, a, []⟩, ⟨false, b, []⟩] _ #[.bool false, .int .i64 a, .string ⟨#[]⟩, .bool false, .int .i64 b, .string ⟨#[]⟩] rfl 2 rfl (by omega) (by unfold I; omega) (fun v hv => (Hok.out v) (by simp at hv ⊢; rcases hv with rfl | rfl <;> simp)) _ _ _ _ h8.out w3 r3 (HG.out.below' BB3.out) hr3
      have Wr3 := Lib.hid hr3; have Hc3 := Lib.hid hc3
      clear hr3 hc3
      go_wp2_with (first | rw [← Wr3.out] | (rw [← Wn3.out]))
      refine Hc3.out.mono ?_
      rintro e v4 ⟨rfl, b4⟩
      obtain ⟨w4, hw4⟩ : ∃ w, w = v4.alloc (.cells #[.bool false, .int .i64 R, .string ⟨#[]⟩] 27) := ⟨_, rfl⟩
      have bn : Below v4.heap.size v4 w4 := by rw [hw4]; exact (Below.refl _ _).alloc (Nat.le_refl _) _
      have bt := b4.trans (bn.mono b4.size)
      have xn : Bx w4 v4.heap.size (.bool false) (.int .i64 R) (.string ⟨#[]⟩) := by rw [hw4]; exact Bx.made _ _ _ _ _
      have Xr4 := Lib.hid xn; have BB4 := Lib.hid (BB3.out.trans (bt.mono BB3.out.size)); have Wn4 := Lib.hid hw4
      have Xx4 := Lib.hid (Xx3.out.below bt Xx3.out.lt)
      have Xy4 := Lib.hid (Xy3.out.below bt Xy3.out.lt)
      have Xs4 := Lib.hid (Xs3.out.below bt Xs3.out.lt)
      have Xd4 := Lib.hid (Xd3.out.below bt Xd3.out.lt)
      have Xq4 := Lib.hid (Xq3.out.below bt Xq3.out.lt)
      clear cx0 cx1 cx2 cy0 cy1 cy2 cs0 cs1 cs2 cd0 cd1 cd2 cq0 cq1 cq2 bn bt xn b4 hw4
      obtain ⟨cx0, cx1, cx2, -, -, -, -⟩ := Xx4.out
      obtain ⟨cy0, cy1, cy2, -, -, -, -⟩ := Xy4.out
      obtain ⟨cs0, cs1, cs2, -, -, -, -⟩ := Xs4.out
      obtain ⟨cd0, cd1, cd2, -, -, -, -⟩ := Xd4.out
      obtain ⟨cq0, cq1, cq2, -, -, -, -⟩ := Xq4.out
      obtain ⟨cr0, cr1, cr2, -, -, -, -⟩ := Xr4.out
      obtain ⟨r4, hr4⟩ : ∃ r, r = w4.alloc (.cells #[.bool false, .int .i64 Q, .string ⟨#[]⟩, .bool false, .int .i64 b, .string ⟨#[]⟩] 27) := ⟨_, rfl⟩
      have hc4 := do_lit HS.out 6 [⟨false, Q, []⟩, ⟨false, b, []⟩] _ #[.bool false, .int .i64 Q, .string ⟨#[]⟩, .bool false, .int .i64 b, .string ⟨#[]⟩] rfl 2 rfl (by omega) (by unfold I; omega) (fun v hv => (Hok.out v) (by simp at hv ⊢; rcases hv with rfl | rfl <;> simp)) _ _ _ _ h6.out w4 r4 (HG.out.below' BB4.out) hr4
      have Wr4 := Lib.hid hr4; have Hc4 := Lib.hid hc4
      clear hr4 hc4
      go_wp2_with (first | rw [← Wr4.out] | (rw [← Wn4.out]))
      refine Hc4.out.mono ?_
      rintro e v5 ⟨rfl, b5⟩
      obtain ⟨w5, hw5⟩ : ∃ w, w = v5.alloc (.cells #[.bool false, .int .i64 M, .string ⟨#[]⟩] 27) := ⟨_, rfl⟩
      have bn : Below v5.heap.size v5 w5 := by rw [hw5]; exact (Below.refl _ _).alloc (Nat.le_refl _) _
      have bt := b5.trans (bn.mono b5.size)
      have xn : Bx w5 v5.heap.size (.bool false) (.int .i64 M) (.string ⟨#[]⟩) := by rw [hw5]; exact Bx.made _ _ _ _ _
      have Xm5 := Lib.hid xn; have BB5 := Lib.hid (BB4.out.trans (bt.mono BB4.out.size)); have Wn5 := Lib.hid hw5
      have Xx5 := Lib.hid (Xx4.out.below bt Xx4.out.lt)
      have Xy5 := Lib.hid (Xy4.out.below bt Xy4.out.lt)
      have Xs5 := Lib.hid (Xs4.out.below bt Xs4.out.lt)
      have Xd5 := Lib.hid (Xd4.out.below bt Xd4.out.lt)
      have Xq5 := Lib.hid (Xq4.out.below bt Xq4.out.lt)
      have Xr5 := Lib.hid (Xr4.out.below bt Xr4.out.lt)
      clear cx0 cx1 cx2 cy0 cy1 cy2 cs0 cs1 cs2 cd0 cd1 cd2 cq0 cq1 cq2 cr0 cr1 cr2 bn bt xn b5 hw5
      obtain ⟨cx0, cx1, cx2, -, -, -, -⟩ := Xx5.out
      obtain ⟨cy0, cy1, cy2, -, -, -, -⟩ := Xy5.out
      obtain ⟨cs0, cs1, cs2, -, -, -, -⟩ := Xs5.out
      obtain ⟨cd0, cd1, cd2, -, -, -, -⟩ := Xd5.out
      obtain ⟨cq0, cq1, cq2, -, -, -, -⟩ := Xq5.out
      obtain ⟨cr0, cr1, cr2, -, -, -, -⟩ := Xr5.out
      obtain ⟨cm0, cm1, cm2, -, -, -, -⟩ := Xm5.out
      obtain ⟨r5, hr5⟩ : ∃ r, r = w5.alloc (.cells #[.bool false, .int .i64 M, .string ⟨#[]⟩, .bool false, .int .i64 R, .string ⟨#[]⟩] 27) := ⟨_, rfl⟩
      have hc5 := do_lit HS.out 4 [⟨false, M, []⟩, ⟨false, R, []⟩] _ #[.bool false, .int .i64 M, .string ⟨#[]⟩, .bool false, .int .i64 R, .string ⟨#[]⟩] rfl 2 rfl (by omega) (by unfold I; omega) (fun v hv => (Hok.out v) (by simp at hv ⊢; rcases hv with rfl | rfl <;> simp)) _ _ _ _ h4n.out w5 r5 (HG.out.below' BB5.out) hr5
      have Wr5 := Lib.hid hr5; have Hc5 := Lib.hid hc5
      clear hr5 hc5
      go_wp2_with (first | rw [← Wr5.out] | (rw [← Wn5.out]))
      refine Hc5.out.mono ?_
      rintro e v6 ⟨rfl, b6⟩
      obtain ⟨w6, hw6⟩ : ∃ w, w = v6.alloc (.cells #[.bool false, .int .i64 N, .string ⟨#[]⟩] 27) := ⟨_, rfl⟩
      have bn : Below v6.heap.size v6 w6 := by rw [hw6]; exact (Below.refl _ _).alloc (Nat.le_refl _) _
      have bt := b6.trans (bn.mono b6.size)
      have xn : Bx w6 v6.heap.size (.bool false) (.int .i64 N) (.string ⟨#[]⟩) := by rw [hw6]; exact Bx.made _ _ _ _ _
      have Xn6 := Lib.hid xn; have BB6 := Lib.hid (BB5.out.trans (bt.mono BB5.out.size)); have Wn6 := Lib.hid hw6
      have Xx6 := Lib.hid (Xx5.out.below bt Xx5.out.lt)
      have Xy6 := Lib.hid (Xy5.out.below bt Xy5.out.lt)
      have Xs6 := Lib.hid (Xs5.out.below bt Xs5.out.lt)
      have Xd6 := Lib.hid (Xd5.out.below bt Xd5.out.lt)
      have Xq6 := Lib.hid (Xq5.out.below bt Xq5.out.lt)
      have Xr6 := Lib.hid (Xr5.out.below bt Xr5.out.lt)
      have Xm6 := Lib.hid (Xm5.out.below bt Xm5.out.lt)
      clear cx0 cx1 cx2 cy0 cy1 cy2 cs0 cs1 cs2 cd0 cd1 cd2 cq0 cq1 cq2 cr0 cr1 cr2 cm0 cm1 cm2 bn bt xn b6 hw6
      obtain ⟨cx0, cx1, cx2, -, -, -, -⟩ := Xx6.out
      obtain ⟨cy0, cy1, cy2, -, -, -, -⟩ := Xy6.out
      obtain ⟨cs0, cs1, cs2, -, -, -, -⟩ := Xs6.out
      obtain ⟨cd0, cd1, cd2, -, -, -, -⟩ := Xd6.out
      obtain ⟨cq0, cq1, cq2, -, -, -, -⟩ := Xq6.out
      obtain ⟨cr0, cr1, cr2, -, -, -, -⟩ := Xr6.out
      obtain ⟨cm0, cm1, cm2, -, -, -, -⟩ := Xm6.out
      obtain ⟨cn0, cn1, cn2, -, -, -, -⟩ := Xn6.out
      obtain ⟨r6, hr6⟩ : ∃ r, r = w6.alloc (.cells #[.bool false, .int .i64 a, .string ⟨#[]⟩] 27) := ⟨_, rfl⟩
      have hc6 := do_lit HS.out 19 [⟨false, a, []⟩] _ #[.bool false, .int .i64 a, .string ⟨#[]⟩] rfl 1 rfl (by omega) (by unfold I; omega) (fun v hv => (Hok.out v) (by simp at hv ⊢; subst hv; simp)) _ _ _ _ h19.out w6 r6 (HG.out.below' BB6.out) hr6
      have Wr6 := Lib.hid hr6; have Hc6 := Lib.hid hc6
      clear hr6 hc6
      go_wp2_with (first | rw [← Wr6.out] | (rw [← Wn6.out]))
      refine Hc6.out.mono ?_
      rintro e v7 ⟨rfl, b7⟩
      obtain ⟨w7, hw7⟩ : ∃ w, w = v7.alloc (.cells #[.bool true, .int .i64 0, .string ⟨F.toArray⟩] 27) := ⟨_, rfl⟩
      have bn : Below v7.heap.size v7 w7 := by rw [hw7]; exact (Below.refl _ _).alloc (Nat.le_refl _) _
      have bt := b7.trans (bn.mono b7.size)
      have xn : Bx w7 v7.heap.size (.bool true) (.int .i64 0) (.string ⟨F.toArray⟩) := by rw [hw7]; exact Bx.made _ _ _ _ _
      have Xt7 := Lib.hid xn; have BB7 := Lib.hid (BB6.out.trans (bt.mono BB6.out.size)); have Wn7 := Lib.hid hw7
      have Xx7 := Lib.hid (Xx6.out.below bt Xx6.out.lt)
      have Xy7 := Lib.hid (Xy6.out.below bt Xy6.out.lt)
      have Xs7 := Lib.hid (Xs6.out.below bt Xs6.out.lt)
      have Xd7 := Lib.hid (Xd6.out.below bt Xd6.out.lt)
      have Xq7 := Lib.hid (Xq6.out.below bt Xq6.out.lt)
      have Xr7 := Lib.hid (Xr6.out.below bt Xr6.out.lt)
      have Xm7 := Lib.hid (Xm6.out.below bt Xm6.out.lt)
      have Xn7 := Lib.hid (Xn6.out.below bt Xn6.out.lt)
      clear cx0 cx1 cx2 cy0 cy1 cy2 cs0 cs1 cs2 cd0 cd1 cd2 cq0 cq1 cq2 cr0 cr1 cr2 cm0 cm1 cm2 cn0 cn1 cn2 bn bt xn b7 hw7
      obtain ⟨cx0, cx1, cx2, -, -, -, -⟩ := Xx7.out
      obtain ⟨cy0, cy1, cy2, -, -, -, -⟩ := Xy7.out
      obtain ⟨cs0, cs1, cs2, -, -, -, -⟩ := Xs7.out
      obtain ⟨cd0, cd1, cd2, -, -, -, -⟩ := Xd7.out
      obtain ⟨cq0, cq1, cq2, -, -, -, -⟩ := Xq7.out
      obtain ⟨cr0, cr1, cr2, -, -, -, -⟩ := Xr7.out
      obtain ⟨cm0, cm1, cm2, -, -, -, -⟩ := Xm7.out
      obtain ⟨cn0, cn1, cn2, -, -, -, -⟩ := Xn7.out
      obtain ⟨ct0, ct1, ct2, -, -, -, -⟩ := Xt7.out
      obtain ⟨r7, hr7⟩ : ∃ r, r = w7.alloc (.cells #[.bool true, .int .i64 0, .string ⟨F.toArray⟩] 27) := ⟨_, rfl⟩
      have hc7 := do_lit HS.out 18 [⟨true, 0, F⟩] _ #[.bool true, .int .i64 0, .string ⟨F.toArray⟩] rfl 1 rfl (by omega) (by unfold I; omega) (fun v hv => (Hok.out v) (by simp at hv ⊢; subst hv; simp)) _ _ _ _ h18.out w7 r7 (HG.out.below' BB7.out) hr7
      have Wr7 := Lib.hid hr7; have Hc7 := Lib.hid hc7
      clear hr7 hc7
      go_wp2_with (first | rw [← Wr7.out] | (rw [← Wn7.out]))
      refine Hc7.out.mono ?_
      rintro e v8 ⟨rfl, b8⟩
      obtain ⟨w8, hw8⟩ : ∃ w, w = v8.alloc (.cells #[.bool false, .int .i64 K, .string ⟨#[]⟩] 27) := ⟨_, rfl⟩
      have bn : Below v8.heap.size v8 w8 := by rw [hw8]; exact (Below.refl _ _).alloc (Nat.le_refl _) _
      have bt := b8.trans (bn.mono b8.size)
      have xn : Bx w8 v8.heap.size (.bool false) (.int .i64 K) (.string ⟨#[]⟩) := by rw [hw8]; exact Bx.made _ _ _ _ _
      have Xk8 := Lib.hid xn; have BB8 := Lib.hid (BB7.out.trans (bt.mono BB7.out.size)); have Wn8 := Lib.hid hw8
      have Xx8 := Lib.hid (Xx7.out.below bt Xx7.out.lt)
      have Xy8 := Lib.hid (Xy7.out.below bt Xy7.out.lt)
      have Xs8 := Lib.hid (Xs7.out.below bt Xs7.out.lt)
      have Xd8 := Lib.hid (Xd7.out.below bt Xd7.out.lt)
      have Xq8 := Lib.hid (Xq7.out.below bt Xq7.out.lt)
      have Xr8 := Lib.hid (Xr7.out.below bt Xr7.out.lt)
      have Xm8 := Lib.hid (Xm7.out.below bt Xm7.out.lt)
      have Xn8 := Lib.hid (Xn7.out.below bt Xn7.out.lt)
      have Xt8 := Lib.hid (Xt7.out.below bt Xt7.out.lt)
      clear cx0 cx1 cx2 cy0 cy1 cy2 cs0 cs1 cs2 cd0 cd1 cd2 cq0 cq1 cq2 cr0 cr1 cr2 cm0 cm1 cm2 cn0 cn1 cn2 ct0 ct1 ct2 bn bt xn b8 hw8
      obtain ⟨cx0, cx1, cx2, -, -, -, -⟩ := Xx8.out
      obtain ⟨cy0, cy1, cy2, -, -, -, -⟩ := Xy8.out
      obtain ⟨cs0, cs1, cs2, -, -, -, -⟩ := Xs8.out
      obtain ⟨cd0, cd1, cd2, -, -, -, -⟩ := Xd8.out
      obtain ⟨cq0, cq1, cq2, -, -, -, -⟩ := Xq8.out
      obtain ⟨cr0, cr1, cr2, -, -, -, -⟩ := Xr8.out
      obtain ⟨cm0, cm1, cm2, -, -, -, -⟩ := Xm8.out
      obtain ⟨cn0, cn1, cn2, -, -, -, -⟩ := Xn8.out
      obtain ⟨ct0, ct1, ct2, -, -, -, -⟩ := Xt8.out
      obtain ⟨ck0, ck1, ck2, -, -, -, -⟩ := Xk8.out
      go_wp2_with (rw [← Wn8.out])
      refine (alive13_c HS.out w8 (HG.out.below' BB8.out)).mono ?_
      rintro e wf ⟨rfl, bf⟩
      have BBf := Lib.hid (BB8.out.trans (bf.mono BB8.out.size))
      have xfx := Xx8.out.below bf Xx8.out.lt
      have xfy := Xy8.out.below bf Xy8.out.lt
      have xfs := Xs8.out.below bf Xs8.out.lt
      have xfd := Xd8.out.below bf Xd8.out.lt
      have xfq := Xq8.out.below bf Xq8.out.lt
      have xfr := Xr8.out.below bf Xr8.out.lt
      have xfm := Xm8.out.below bf Xm8.out.lt
      have xfn := Xn8.out.below bf Xn8.out.lt
      have xft := Xt8.out.below bf Xt8.out.lt
      have xfk := Xk8.out.below bf Xk8.out.lt
      clear cx0 cx1 cx2 cy0 cy1 cy2 cs0 cs1 cs2 cd0 cd1 cd2 cq0 cq1 cq2 cr0 cr1 cr2 cm0 cm1 cm2 cn0 cn1 cn2 ct0 ct1 ct2 ck0 ck1 ck2 bf
      obtain ⟨cx0, cx1, cx2, -, -, -, -⟩ := xfx
      obtain ⟨cy0, cy1, cy2, -, -, -, -⟩ := xfy
      obtain ⟨cs0, cs1, cs2, -, -, -, -⟩ := xfs
      obtain ⟨cd0, cd1, cd2, -, -, -, -⟩ := xfd
      obtain ⟨cq0, cq1, cq2, -, -, -, -⟩ := xfq
      obtain ⟨cr0, cr1, cr2, -, -, -, -⟩ := xfr
      obtain ⟨cm0, cm1, cm2, -, -, -, -⟩ := xfm
      obtain ⟨cn0, cn1, cn2, -, -, -, -⟩ := xfn
      obtain ⟨ct0, ct1, ct2, -, -, -, -⟩ := xft
      obtain ⟨ck0, ck1, ck2, -, -, -, -⟩ := xfk
      go_wp2
      go_ret
      exact ⟨rfl, BBf.out⟩
  · have db : (b == 0) = false := beq_eq_false_iff_ne.2 hb0
    have eN := hNa hb0
    subst N
    by_cases hs1 : -1000000000000000000 < a
    · have ds1 : decide (-1000000000000000000 < a) = true := decide_eq_true hs1
      by_cases hs2 : a < 1000000000000000000
      · have ds2 : decide (a < 1000000000000000000) = true := decide_eq_true hs2
        have eK := hKa hs1 hs2
        subst K
        clear hNa hKa ha hb hb0 hs1 hs2
        go_enter Tryd.func5, Tryd.ntmps5
        go_wp2_with fail
        refine (Hna.out _).mono ?_
        rintro e u1 ⟨rfl, b1⟩
        go_wp2_with fail
        refine (Hnb.out _).mono ?_
        rintro e u2 ⟨rfl, b2⟩
        have bb2 := b1.trans (b2.mono b1.size)
        obtain ⟨u3, hu3⟩ : ∃ u3, u3 = u2.alloc (.cells #[.bool false, .int .i64 a, .string ⟨#[]⟩] 27) := ⟨_, rfl⟩
        have z3 : u3.heap.size = u2.heap.size + 1 := by rw [hu3]; simp
        have b3 : Below u2.heap.size u2 u3 := by rw [hu3]; exact (Below.refl _ _).alloc (Nat.le_refl _) _
        have x3 : Bx u3 u2.heap.size (.bool false) (.int .i64 a) (.string ⟨#[]⟩) := by rw [hu3]; exact Bx.made _ _ _ _ _
        obtain ⟨w0, hw0⟩ : ∃ w0, w0 = u3.alloc (.cells #[.bool false, .int .i64 b, .string ⟨#[]⟩] 27) := ⟨_, rfl⟩
        have b4 : Below u3.heap.size u3 w0 := by rw [hw0]; exact (Below.refl _ _).alloc (Nat.le_refl _) _
        have y4 : Bx w0 u3.heap.size (.bool false) (.int .i64 b) (.string ⟨#[]⟩) := by rw [hw0]; exact Bx.made _ _ _ _ _
        rw [z3] at y4
        have x4 := x3.below b4 x3.lt
        have b34 := b3.trans (b4.mono b3.size)
        have bb4 := bb2.trans (b34.mono bb2.size)
        obtain ⟨Gx, hGx⟩ : ∃ Gx, Gx = u2.heap.size := ⟨_, rfl⟩
        have Wx := Lib.hid hu3; have Wy := Lib.hid hw0; have Zx := Lib.hid z3; have Xx0 := Lib.hid x4; have Xy0 := Lib.hid y4; have BB0 := Lib.hid bb4
        clear hu3 z3 b3 x3 hw0 b4 y4 x4 b34 bb4 b1 b2 bb2 hGx Gx
        obtain ⟨cx0, cx1, cx2, -, -, -, -⟩ := Xx0.out
        obtain ⟨cy0, cy1, cy2, -, -, -, -⟩ := Xy0.out
        obtain ⟨r0, hr0⟩ : ∃ r, r = w0.alloc (.cells #[.bool false, .int .i64 a, .string ⟨#[]⟩, .bool false, .int .i64 b, .string ⟨#[]⟩] 27) := ⟨_, rfl⟩
        have hc0 := do_lit HS.out 4 [⟨false, a, []⟩, ⟨false, b, []⟩] _ #[.bool false, .int .i64 a, .string ⟨#[]⟩, .bool false, .int .i64 b, .string ⟨#[]⟩] rfl 2 rfl (by omega) (by unfold I; omega) (fun v hv => (Hok.out v) (by simp at hv ⊢; rcases hv with rfl | rfl <;> simp)) _ _ _ _ h4.out w0 r0 (HG.out.below' BB0.out) hr0
        have Wr0 := Lib.hid hr0; have Hc0 := Lib.hid hc0
        clear hr0 hc0
        go_wp2_with (first | rw [← Wr0.out] | (first | rw [← Wx.out, ← Wy.out, Zx.out] | rw [← Wx.out, ← Wy.out]))
        refine Hc0.out.mono ?_
        rintro e v1 ⟨rfl, b1⟩
        obtain ⟨w1, hw1⟩ : ∃ w, w = v1.alloc (.cells #[.bool false, .int .i64 S1, .string ⟨#[]⟩] 27) := ⟨_, rfl⟩
        have bn : Below v1.heap.size v1 w1 := by rw [hw1]; exact (Below.refl _ _).alloc (Nat.le_refl _) _
        have bt := b1.trans (bn.mono b1.size)
        have xn : Bx w1 v1.heap.size (.bool false) (.int .i64 S1) (.string ⟨#[]⟩) := by rw [hw1]; exact Bx.made _ _ _ _ _
        have Xs1 := Lib.hid xn; have BB1 := Lib.hid (BB0.out.trans (bt.mono BB0.out.size)); have Wn1 := Lib.hid hw1
        have Xx1 := Lib.hid (Xx0.out.below bt Xx0.out.lt)
        have Xy1 := Lib.hid (Xy0.out.below bt Xy0.out.lt)
        clear cx0 cx1 cx2 cy0 cy1 cy2 bn bt xn b1 hw1
        obtain ⟨cx0, cx1, cx2, -, -, -, -⟩ := Xx1.out
        obtain ⟨cy0, cy1, cy2, -, -, -, -⟩ := Xy1.out
        obtain ⟨cs0, cs1, cs2, -, -, -, -⟩ := Xs1.out
        obtain ⟨r1, hr1⟩ : ∃ r, r = w1.alloc (.cells #[.bool false, .int .i64 S1, .string ⟨#[]⟩, .bool false, .int .i64 b, .string ⟨#[]⟩] 27) := ⟨_, rfl⟩
        have hc1 := do_lit HS.out 5 [⟨false, S1, []⟩, ⟨false, b, []⟩] _ #[.bool false, .int .i64 S1, .string ⟨#[]⟩, .bool false, .int .i64 b, .string ⟨#[]⟩] rfl 2 rfl (by omega) (by unfold I; omega) (fun v hv => (Hok.out v) (by simp at hv ⊢; rcases hv with rfl | rfl <;> simp)) _ _ _ _ h5.out w1 r1 (HG.out.below' BB1.out) hr1
        have Wr1 := Lib.hid hr1; have Hc1 := Lib.hid hc1
        clear hr1 hc1
        go_wp2_with (first | rw [← Wr1.out] | (rw [← Wn1.out]))
        refine Hc1.out.mono ?_
        rintro e v2 ⟨rfl, b2⟩
        obtain ⟨w2, hw2⟩ : ∃ w, w = v2.alloc (.cells #[.bool false, .int .i64 a, .string ⟨#[]⟩] 27) := ⟨_, rfl⟩
        have bn : Below v2.heap.size v2 w2 := by rw [hw2]; exact (Below.refl _ _).alloc (Nat.le_refl _) _
        have bt := b2.trans (bn.mono b2.size)
        have xn : Bx w2 v2.heap.size (.bool false) (.int .i64 a) (.string ⟨#[]⟩) := by rw [hw2]; exact Bx.made _ _ _ _ _
        have Xd2 := Lib.hid xn; have BB2 := Lib.hid (BB1.out.trans (bt.mono BB1.out.size)); have Wn2 := Lib.hid hw2
        have Xx2 := Lib.hid (Xx1.out.below bt Xx1.out.lt)
        have Xy2 := Lib.hid (Xy1.out.below bt Xy1.out.lt)
        have Xs2 := Lib.hid (Xs1.out.below bt Xs1.out.lt)
        clear cx0 cx1 cx2 cy0 cy1 cy2 cs0 cs1 cs2 bn bt xn b2 hw2
        obtain ⟨cx0, cx1, cx2, -, -, -, -⟩ := Xx2.out
        obtain ⟨cy0, cy1, cy2, -, -, -, -⟩ := Xy2.out
        obtain ⟨cs0, cs1, cs2, -, -, -, -⟩ := Xs2.out
        obtain ⟨cd0, cd1, cd2, -, -, -, -⟩ := Xd2.out
        obtain ⟨r2, hr2⟩ : ∃ r, r = w2.alloc (.cells #[.bool false, .int .i64 a, .string ⟨#[]⟩, .bool false, .int .i64 b, .string ⟨#[]⟩] 27) := ⟨_, rfl⟩
        have hc2 := do_lit HS.out 7 [⟨false, a, []⟩, ⟨false, b, []⟩] _ #[.bool false, .int .i64 a, .string ⟨#[]⟩, .bool false, .int .i64 b, .string ⟨#[]⟩] rfl 2 rfl (by omega) (by unfold I; omega) (fun v hv => (Hok.out v) (by simp at hv ⊢; rcases hv with rfl | rfl <;> simp)) _ _ _ _ h7.out w2 r2 (HG.out.below' BB2.out) hr2
        have Wr2 := Lib.hid hr2; have Hc2 := Lib.hid hc2
        clear hr2 hc2
        go_wp2_with (first | rw [← Wr2.out] | (rw [← Wn2.out]))
        refine Hc2.out.mono ?_
        rintro e v3 ⟨rfl, b3⟩
        obtain ⟨w3, hw3⟩ : ∃ w, w = v3.alloc (.cells #[.bool false, .int .i64 Q, .string ⟨#[]⟩] 27) := ⟨_, rfl⟩
        have bn : Below v3.heap.size v3 w3 := by rw [hw3]; exact (Below.refl _ _).alloc (Nat.le_refl _) _
        have bt := b3.trans (bn.mono b3.size)
        have xn : Bx w3 v3.heap.size (.bool false) (.int .i64 Q) (.string ⟨#[]⟩) := by rw [hw3]; exact Bx.made _ _ _ _ _
        have Xq3 := Lib.hid xn; have BB3 := Lib.hid (BB2.out.trans (bt.mono BB2.out.size)); have Wn3 := Lib.hid hw3
        have Xx3 := Lib.hid (Xx2.out.below bt Xx2.out.lt)
        have Xy3 := Lib.hid (Xy2.out.below bt Xy2.out.lt)
        have Xs3 := Lib.hid (Xs2.out.below bt Xs2.out.lt)
        have Xd3 := Lib.hid (Xd2.out.below bt Xd2.out.lt)
        clear cx0 cx1 cx2 cy0 cy1 cy2 cs0 cs1 cs2 cd0 cd1 cd2 bn bt xn b3 hw3
        obtain ⟨cx0, cx1, cx2, -, -, -, -⟩ := Xx3.out
        obtain ⟨cy0, cy1, cy2, -, -, -, -⟩ := Xy3.out
        obtain ⟨cs0, cs1, cs2, -, -, -, -⟩ := Xs3.out
        obtain ⟨cd0, cd1, cd2, -, -, -, -⟩ := Xd3.out
        obtain ⟨cq0, cq1, cq2, -, -, -, -⟩ := Xq3.out
        obtain ⟨r3, hr3⟩ : ∃ r, r = w3.alloc (.cells #[.bool false, .int .i64 a, .string ⟨#[]⟩, .bool false, .int .i64 b, .string ⟨#[]⟩] 27) := ⟨_, rfl⟩
        have hc3 := do_lit HS.out 8 [⟨false, a, []⟩, ⟨false, b, []⟩] _ #[.bool false, .int .i64 a, .string ⟨#[]⟩, .bool false, .int .i64 b, .string ⟨#[]⟩] rfl 2 rfl (by omega) (by unfold I; omega) (fun v hv => (Hok.out v) (by simp at hv ⊢; rcases hv with rfl | rfl <;> simp)) _ _ _ _ h8.out w3 r3 (HG.out.below' BB3.out) hr3
        have Wr3 := Lib.hid hr3; have Hc3 := Lib.hid hc3
        clear hr3 hc3
        go_wp2_with (first | rw [← Wr3.out] | (rw [← Wn3.out]))
        refine Hc3.out.mono ?_
        rintro e v4 ⟨rfl, b4⟩
        obtain ⟨w4, hw4⟩ : ∃ w, w = v4.alloc (.cells #[.bool false, .int .i64 R, .string ⟨#[]⟩] 27) := ⟨_, rfl⟩
        have bn : Below v4.heap.size v4 w4 := by rw [hw4]; exact (Below.refl _ _).alloc (Nat.le_refl _) _
        have bt := b4.trans (bn.mono b4.size)
        have xn : Bx w4 v4.heap.size (.bool false) (.int .i64 R) (.string ⟨#[]⟩) := by rw [hw4]; exact Bx.made _ _ _ _ _
        have Xr4 := Lib.hid xn; have BB4 := Lib.hid (BB3.out.trans (bt.mono BB3.out.size)); have Wn4 := Lib.hid hw4
        have Xx4 := Lib.hid (Xx3.out.below bt Xx3.out.lt)
        have Xy4 := Lib.hid (Xy3.out.below bt Xy3.out.lt)
        have Xs4 := Lib.hid (Xs3.out.below bt Xs3.out.lt)
        have Xd4 := Lib.hid (Xd3.out.below bt Xd3.out.lt)
        have Xq4 := Lib.hid (Xq3.out.below bt Xq3.out.lt)
        clear cx0 cx1 cx2 cy0 cy1 cy2 cs0 cs1 cs2 cd0 cd1 cd2 cq0 cq1 cq2 bn bt xn b4 hw4
        obtain ⟨cx0, cx1, cx2, -, -, -, -⟩ := Xx4.out
        obtain ⟨cy0, cy1, cy2, -, -, -, -⟩ := Xy4.out
        obtain ⟨cs0, cs1, cs2, -, -, -, -⟩ := Xs4.out
        obtain ⟨cd0, cd1, cd2, -, -, -, -⟩ := Xd4.out
        obtain ⟨cq0, cq1, cq2, -, -, -, -⟩ := Xq4.out
        obtain ⟨cr0, cr1, cr2, -, -, -, -⟩ := Xr4.out
        obtain ⟨r4, hr4⟩ : ∃ r, r = w4.alloc (.cells #[.bool false, .int .i64 Q, .string ⟨#[]⟩, .bool false, .int .i64 b, .string ⟨#[]⟩] 27) := ⟨_, rfl⟩
        have hc4 := do_lit HS.out 6 [⟨false, Q, []⟩, ⟨false, b, []⟩] _ #[.bool false, .int .i64 Q, .string ⟨#[]⟩, .bool false, .int .i64 b, .string ⟨#[]⟩] rfl 2 rfl (by omega) (by unfold I; omega) (fun v hv => (Hok.out v) (by simp at hv ⊢; rcases hv with rfl | rfl <;> simp)) _ _ _ _ h6.out w4 r4 (HG.out.below' BB4.out) hr4
        have Wr4 := Lib.hid hr4; have Hc4 := Lib.hid hc4
        clear hr4 hc4
        go_wp2_with (first | rw [← Wr4.out] | (rw [← Wn4.out]))
        refine Hc4.out.mono ?_
        rintro e v5 ⟨rfl, b5⟩
        obtain ⟨w5, hw5⟩ : ∃ w, w = v5.alloc (.cells #[.bool false, .int .i64 M, .string ⟨#[]⟩] 27) := ⟨_, rfl⟩
        have bn : Below v5.heap.size v5 w5 := by rw [hw5]; exact (Below.refl _ _).alloc (Nat.le_refl _) _
        have bt := b5.trans (bn.mono b5.size)
        have xn : Bx w5 v5.heap.size (.bool false) (.int .i64 M) (.string ⟨#[]⟩) := by rw [hw5]; exact Bx.made _ _ _ _ _
        have Xm5 := Lib.hid xn; have BB5 := Lib.hid (BB4.out.trans (bt.mono BB4.out.size)); have Wn5 := Lib.hid hw5
        have Xx5 := Lib.hid (Xx4.out.below bt Xx4.out.lt)
        have Xy5 := Lib.hid (Xy4.out.below bt Xy4.out.lt)
        have Xs5 := Lib.hid (Xs4.out.below bt Xs4.out.lt)
        have Xd5 := Lib.hid (Xd4.out.below bt Xd4.out.lt)
        have Xq5 := Lib.hid (Xq4.out.below bt Xq4.out.lt)
        have Xr5 := Lib.hid (Xr4.out.below bt Xr4.out.lt)
        clear cx0 cx1 cx2 cy0 cy1 cy2 cs0 cs1 cs2 cd0 cd1 cd2 cq0 cq1 cq2 cr0 cr1 cr2 bn bt xn b5 hw5
        obtain ⟨cx0, cx1, cx2, -, -, -, -⟩ := Xx5.out
        obtain ⟨cy0, cy1, cy2, -, -, -, -⟩ := Xy5.out
        obtain ⟨cs0, cs1, cs2, -, -, -, -⟩ := Xs5.out
        obtain ⟨cd0, cd1, cd2, -, -, -, -⟩ := Xd5.out
        obtain ⟨cq0, cq1, cq2, -, -, -, -⟩ := Xq5.out
        obtain ⟨cr0, cr1, cr2, -, -, -, -⟩ := Xr5.out
        obtain ⟨cm0, cm1, cm2, -, -, -, -⟩ := Xm5.out
        obtain ⟨r5, hr5⟩ : ∃ r, r = w5.alloc (.cells #[.bool false, .int .i64 M, .string ⟨#[]⟩, .bool false, .int .i64 R, .string ⟨#[]⟩] 27) := ⟨_, rfl⟩
        have hc5 := do_lit HS.out 4 [⟨false, M, []⟩, ⟨false, R, []⟩] _ #[.bool false, .int .i64 M, .string ⟨#[]⟩, .bool false, .int .i64 R, .string ⟨#[]⟩] rfl 2 rfl (by omega) (by unfold I; omega) (fun v hv => (Hok.out v) (by simp at hv ⊢; rcases hv with rfl | rfl <;> simp)) _ _ _ _ h4n.out w5 r5 (HG.out.below' BB5.out) hr5
        have Wr5 := Lib.hid hr5; have Hc5 := Lib.hid hc5
        clear hr5 hc5
        go_wp2_with (first | rw [← Wr5.out] | (rw [← Wn5.out]))
        refine Hc5.out.mono ?_
        rintro e v6 ⟨rfl, b6⟩
        obtain ⟨w6, hw6⟩ : ∃ w, w = v6.alloc (.cells #[.bool false, .int .i64 a, .string ⟨#[]⟩] 27) := ⟨_, rfl⟩
        have bn : Below v6.heap.size v6 w6 := by rw [hw6]; exact (Below.refl _ _).alloc (Nat.le_refl _) _
        have bt := b6.trans (bn.mono b6.size)
        have xn : Bx w6 v6.heap.size (.bool false) (.int .i64 a) (.string ⟨#[]⟩) := by rw [hw6]; exact Bx.made _ _ _ _ _
        have Xn6 := Lib.hid xn; have BB6 := Lib.hid (BB5.out.trans (bt.mono BB5.out.size)); have Wn6 := Lib.hid hw6
        have Xx6 := Lib.hid (Xx5.out.below bt Xx5.out.lt)
        have Xy6 := Lib.hid (Xy5.out.below bt Xy5.out.lt)
        have Xs6 := Lib.hid (Xs5.out.below bt Xs5.out.lt)
        have Xd6 := Lib.hid (Xd5.out.below bt Xd5.out.lt)
        have Xq6 := Lib.hid (Xq5.out.below bt Xq5.out.lt)
        have Xr6 := Lib.hid (Xr5.out.below bt Xr5.out.lt)
        have Xm6 := Lib.hid (Xm5.out.below bt Xm5.out.lt)
        clear cx0 cx1 cx2 cy0 cy1 cy2 cs0 cs1 cs2 cd0 cd1 cd2 cq0 cq1 cq2 cr0 cr1 cr2 cm0 cm1 cm2 bn bt xn b6 hw6
        obtain ⟨cx0, cx1, cx2, -, -, -, -⟩ := Xx6.out
        obtain ⟨cy0, cy1, cy2, -, -, -, -⟩ := Xy6.out
        obtain ⟨cs0, cs1, cs2, -, -, -, -⟩ := Xs6.out
        obtain ⟨cd0, cd1, cd2, -, -, -, -⟩ := Xd6.out
        obtain ⟨cq0, cq1, cq2, -, -, -, -⟩ := Xq6.out
        obtain ⟨cr0, cr1, cr2, -, -, -, -⟩ := Xr6.out
        obtain ⟨cm0, cm1, cm2, -, -, -, -⟩ := Xm6.out
        obtain ⟨cn0, cn1, cn2, -, -, -, -⟩ := Xn6.out
        obtain ⟨r6, hr6⟩ : ∃ r, r = w6.alloc (.cells #[.bool false, .int .i64 a, .string ⟨#[]⟩] 27) := ⟨_, rfl⟩
        have hc6 := do_lit HS.out 19 [⟨false, a, []⟩] _ #[.bool false, .int .i64 a, .string ⟨#[]⟩] rfl 1 rfl (by omega) (by unfold I; omega) (fun v hv => (Hok.out v) (by simp at hv ⊢; subst hv; simp)) _ _ _ _ h19.out w6 r6 (HG.out.below' BB6.out) hr6
        have Wr6 := Lib.hid hr6; have Hc6 := Lib.hid hc6
        clear hr6 hc6
        go_wp2_with (first | rw [← Wr6.out] | (rw [← Wn6.out]))
        refine Hc6.out.mono ?_
        rintro e v7 ⟨rfl, b7⟩
        obtain ⟨w7, hw7⟩ : ∃ w, w = v7.alloc (.cells #[.bool true, .int .i64 0, .string ⟨F.toArray⟩] 27) := ⟨_, rfl⟩
        have bn : Below v7.heap.size v7 w7 := by rw [hw7]; exact (Below.refl _ _).alloc (Nat.le_refl _) _
        have bt := b7.trans (bn.mono b7.size)
        have xn : Bx w7 v7.heap.size (.bool true) (.int .i64 0) (.string ⟨F.toArray⟩) := by rw [hw7]; exact Bx.made _ _ _ _ _
        have Xt7 := Lib.hid xn; have BB7 := Lib.hid (BB6.out.trans (bt.mono BB6.out.size)); have Wn7 := Lib.hid hw7
        have Xx7 := Lib.hid (Xx6.out.below bt Xx6.out.lt)
        have Xy7 := Lib.hid (Xy6.out.below bt Xy6.out.lt)
        have Xs7 := Lib.hid (Xs6.out.below bt Xs6.out.lt)
        have Xd7 := Lib.hid (Xd6.out.below bt Xd6.out.lt)
        have Xq7 := Lib.hid (Xq6.out.below bt Xq6.out.lt)
        have Xr7 := Lib.hid (Xr6.out.below bt Xr6.out.lt)
        have Xm7 := Lib.hid (Xm6.out.below bt Xm6.out.lt)
        have Xn7 := Lib.hid (Xn6.out.below bt Xn6.out.lt)
        clear cx0 cx1 cx2 cy0 cy1 cy2 cs0 cs1 cs2 cd0 cd1 cd2 cq0 cq1 cq2 cr0 cr1 cr2 cm0 cm1 cm2 cn0 cn1 cn2 bn bt xn b7 hw7
        obtain ⟨cx0, cx1, cx2, -, -, -, -⟩ := Xx7.out
        obtain ⟨cy0, cy1, cy2, -, -, -, -⟩ := Xy7.out
        obtain ⟨cs0, cs1, cs2, -, -, -, -⟩ := Xs7.out
        obtain ⟨cd0, cd1, cd2, -, -, -, -⟩ := Xd7.out
        obtain ⟨cq0, cq1, cq2, -, -, -, -⟩ := Xq7.out
        obtain ⟨cr0, cr1, cr2, -, -, -, -⟩ := Xr7.out
        obtain ⟨cm0, cm1, cm2, -, -, -, -⟩ := Xm7.out
        obtain ⟨cn0, cn1, cn2, -, -, -, -⟩ := Xn7.out
        obtain ⟨ct0, ct1, ct2, -, -, -, -⟩ := Xt7.out
        obtain ⟨r7, hr7⟩ : ∃ r, r = w7.alloc (.cells #[.bool true, .int .i64 0, .string ⟨F.toArray⟩] 27) := ⟨_, rfl⟩
        have hc7 := do_lit HS.out 18 [⟨true, 0, F⟩] _ #[.bool true, .int .i64 0, .string ⟨F.toArray⟩] rfl 1 rfl (by omega) (by unfold I; omega) (fun v hv => (Hok.out v) (by simp at hv ⊢; subst hv; simp)) _ _ _ _ h18.out w7 r7 (HG.out.below' BB7.out) hr7
        have Wr7 := Lib.hid hr7; have Hc7 := Lib.hid hc7
        clear hr7 hc7
        go_wp2_with (first | rw [← Wr7.out] | (rw [← Wn7.out]))
        refine Hc7.out.mono ?_
        rintro e v8 ⟨rfl, b8⟩
        obtain ⟨w8, hw8⟩ : ∃ w, w = v8.alloc (.cells #[.bool false, .int .i64 a, .string ⟨#[]⟩] 27) := ⟨_, rfl⟩
        have bn : Below v8.heap.size v8 w8 := by rw [hw8]; exact (Below.refl _ _).alloc (Nat.le_refl _) _
        have bt := b8.trans (bn.mono b8.size)
        have xn : Bx w8 v8.heap.size (.bool false) (.int .i64 a) (.string ⟨#[]⟩) := by rw [hw8]; exact Bx.made _ _ _ _ _
        have Xk8 := Lib.hid xn; have BB8 := Lib.hid (BB7.out.trans (bt.mono BB7.out.size)); have Wn8 := Lib.hid hw8
        have Xx8 := Lib.hid (Xx7.out.below bt Xx7.out.lt)
        have Xy8 := Lib.hid (Xy7.out.below bt Xy7.out.lt)
        have Xs8 := Lib.hid (Xs7.out.below bt Xs7.out.lt)
        have Xd8 := Lib.hid (Xd7.out.below bt Xd7.out.lt)
        have Xq8 := Lib.hid (Xq7.out.below bt Xq7.out.lt)
        have Xr8 := Lib.hid (Xr7.out.below bt Xr7.out.lt)
        have Xm8 := Lib.hid (Xm7.out.below bt Xm7.out.lt)
        have Xn8 := Lib.hid (Xn7.out.below bt Xn7.out.lt)
        have Xt8 := Lib.hid (Xt7.out.below bt Xt7.out.lt)
        clear cx0 cx1 cx2 cy0 cy1 cy2 cs0 cs1 cs2 cd0 cd1 cd2 cq0 cq1 cq2 cr0 cr1 cr2 cm0 cm1 cm2 cn0 cn1 cn2 ct0 ct1 ct2 bn bt xn b8 hw8
        obtain ⟨cx0, cx1, cx2, -, -, -, -⟩ := Xx8.out
        obtain ⟨cy0, cy1, cy2, -, -, -, -⟩ := Xy8.out
        obtain ⟨cs0, cs1, cs2, -, -, -, -⟩ := Xs8.out
        obtain ⟨cd0, cd1, cd2, -, -, -, -⟩ := Xd8.out
        obtain ⟨cq0, cq1, cq2, -, -, -, -⟩ := Xq8.out
        obtain ⟨cr0, cr1, cr2, -, -, -, -⟩ := Xr8.out
        obtain ⟨cm0, cm1, cm2, -, -, -, -⟩ := Xm8.out
        obtain ⟨cn0, cn1, cn2, -, -, -, -⟩ := Xn8.out
        obtain ⟨ct0, ct1, ct2, -, -, -, -⟩ := Xt8.out
        obtain ⟨ck0, ck1, ck2, -, -, -, -⟩ := Xk8.out
        go_wp2_with (rw [← Wn8.out])
        refine (alive13_c HS.out w8 (HG.out.below' BB8.out)).mono ?_
        rintro e wf ⟨rfl, bf⟩
        have BBf := Lib.hid (BB8.out.trans (bf.mono BB8.out.size))
        have xfx := Xx8.out.below bf Xx8.out.lt
        have xfy := Xy8.out.below bf Xy8.out.lt
        have xfs := Xs8.out.below bf Xs8.out.lt
        have xfd := Xd8.out.below bf Xd8.out.lt
        have xfq := Xq8.out.below bf Xq8.out.lt
        have xfr := Xr8.out.below bf Xr8.out.lt
        have xfm := Xm8.out.below bf Xm8.out.lt
        have xfn := Xn8.out.below bf Xn8.out.lt
        have xft := Xt8.out.below bf Xt8.out.lt
        have xfk := Xk8.out.below bf Xk8.out.lt
        clear cx0 cx1 cx2 cy0 cy1 cy2 cs0 cs1 cs2 cd0 cd1 cd2 cq0 cq1 cq2 cr0 cr1 cr2 cm0 cm1 cm2 cn0 cn1 cn2 ct0 ct1 ct2 ck0 ck1 ck2 bf
        obtain ⟨cx0, cx1, cx2, -, -, -, -⟩ := xfx
        obtain ⟨cy0, cy1, cy2, -, -, -, -⟩ := xfy
        obtain ⟨cs0, cs1, cs2, -, -, -, -⟩ := xfs
        obtain ⟨cd0, cd1, cd2, -, -, -, -⟩ := xfd
        obtain ⟨cq0, cq1, cq2, -, -, -, -⟩ := xfq
        obtain ⟨cr0, cr1, cr2, -, -, -, -⟩ := xfr
        obtain ⟨cm0, cm1, cm2, -, -, -, -⟩ := xfm
        obtain ⟨cn0, cn1, cn2, -, -, -, -⟩ := xfn
        obtain ⟨ct0, ct1, ct2, -, -, -, -⟩ := xft
        obtain ⟨ck0, ck1, ck2, -, -, -, -⟩ := xfk
        go_wp2
        go_ret
        exact ⟨rfl, BBf.out⟩
      · have ds2 : decide (a < 1000000000000000000) = false := decide_eq_false hs2
        clear hNa hKa ha hb hb0 hs1 hs2
        go_enter Tryd.func5, Tryd.ntmps5
        go_wp2_with fail
        refine (Hna.out _).mono ?_
        rintro e u1 ⟨rfl, b1⟩
        go_wp2_with fail
        refine (Hnb.out _).mono ?_
        rintro e u2 ⟨rfl, b2⟩
        have bb2 := b1.trans (b2.mono b1.size)
        obtain ⟨u3, hu3⟩ : ∃ u3, u3 = u2.alloc (.cells #[.bool false, .int .i64 a, .string ⟨#[]⟩] 27) := ⟨_, rfl⟩
        have z3 : u3.heap.size = u2.heap.size + 1 := by rw [hu3]; simp
        have b3 : Below u2.heap.size u2 u3 := by rw [hu3]; exact (Below.refl _ _).alloc (Nat.le_refl _) _
        have x3 : Bx u3 u2.heap.size (.bool false) (.int .i64 a) (.string ⟨#[]⟩) := by rw [hu3]; exact Bx.made _ _ _ _ _
        obtain ⟨w0, hw0⟩ : ∃ w0, w0 = u3.alloc (.cells #[.bool false, .int .i64 b, .string ⟨#[]⟩] 27) := ⟨_, rfl⟩
        have b4 : Below u3.heap.size u3 w0 := by rw [hw0]; exact (Below.refl _ _).alloc (Nat.le_refl _) _
        have y4 : Bx w0 u3.heap.size (.bool false) (.int .i64 b) (.string ⟨#[]⟩) := by rw [hw0]; exact Bx.made _ _ _ _ _
        rw [z3] at y4
        have x4 := x3.below b4 x3.lt
        have b34 := b3.trans (b4.mono b3.size)
        have bb4 := bb2.trans (b34.mono bb2.size)
        obtain ⟨Gx, hGx⟩ : ∃ Gx, Gx = u2.heap.size := ⟨_, rfl⟩
        have Wx := Lib.hid hu3; have Wy := Lib.hid hw0; have Zx := Lib.hid z3; have Xx0 := Lib.hid x4; have Xy0 := Lib.hid y4; have BB0 := Lib.hid bb4
        clear hu3 z3 b3 x3 hw0 b4 y4 x4 b34 bb4 b1 b2 bb2 hGx Gx
        obtain ⟨cx0, cx1, cx2, -, -, -, -⟩ := Xx0.out
        obtain ⟨cy0, cy1, cy2, -, -, -, -⟩ := Xy0.out
        obtain ⟨r0, hr0⟩ : ∃ r, r = w0.alloc (.cells #[.bool false, .int .i64 a, .string ⟨#[]⟩, .bool false, .int .i64 b, .string ⟨#[]⟩] 27) := ⟨_, rfl⟩
        have hc0 := do_lit HS.out 4 [⟨false, a, []⟩, ⟨false, b, []⟩] _ #[.bool false, .int .i64 a, .string ⟨#[]⟩, .bool false, .int .i64 b, .string ⟨#[]⟩] rfl 2 rfl (by omega) (by unfold I; omega) (fun v hv => (Hok.out v) (by simp at hv ⊢; rcases hv with rfl | rfl <;> simp)) _ _ _ _ h4.out w0 r0 (HG.out.below' BB0.out) hr0
        have Wr0 := Lib.hid hr0; have Hc0 := Lib.hid hc0
        clear hr0 hc0
        go_wp2_with (first | rw [← Wr0.out] | (first | rw [← Wx.out, ← Wy.out, Zx.out] | rw [← Wx.out, ← Wy.out]))
        refine Hc0.out.mono ?_
        rintro e v1 ⟨rfl, b1⟩
        obtain ⟨w1, hw1⟩ : ∃ w, w = v1.alloc (.cells #[.bool false, .int .i64 S1, .string ⟨#[]⟩] 27) := ⟨_, rfl⟩
        have bn : Below v1.heap.size v1 w1 := by rw [hw1]; exact (Below.refl _ _).alloc (Nat.le_refl _) _
        have bt := b1.trans (bn.mono b1.size)
        have xn : Bx w1 v1.heap.size (.bool false) (.int .i64 S1) (.string ⟨#[]⟩) := by rw [hw1]; exact Bx.made _ _ _ _ _
        have Xs1 := Lib.hid xn; have BB1 := Lib.hid (BB0.out.trans (bt.mono BB0.out.size)); have Wn1 := Lib.hid hw1
        have Xx1 := Lib.hid (Xx0.out.below bt Xx0.out.lt)
        have Xy1 := Lib.hid (Xy0.out.below bt Xy0.out.lt)
        clear cx0 cx1 cx2 cy0 cy1 cy2 bn bt xn b1 hw1
        obtain ⟨cx0, cx1, cx2, -, -, -, -⟩ := Xx1.out
        obtain ⟨cy0, cy1, cy2, -, -, -, -⟩ := Xy1.out
        obtain ⟨cs0, cs1, cs2, -, -, -, -⟩ := Xs1.out
        obtain ⟨r1, hr1⟩ : ∃ r, r = w1.alloc (.cells #[.bool false, .int .i64 S1, .string ⟨#[]⟩, .bool false, .int .i64 b, .string ⟨#[]⟩] 27) := ⟨_, rfl⟩
        have hc1 := do_lit HS.out 5 [⟨false, S1, []⟩, ⟨false, b, []⟩] _ #[.bool false, .int .i64 S1, .string ⟨#[]⟩, .bool false, .int .i64 b, .string ⟨#[]⟩] rfl 2 rfl (by omega) (by unfold I; omega) (fun v hv => (Hok.out v) (by simp at hv ⊢; rcases hv with rfl | rfl <;> simp)) _ _ _ _ h5.out w1 r1 (HG.out.below' BB1.out) hr1
        have Wr1 := Lib.hid hr1; have Hc1 := Lib.hid hc1
        clear hr1 hc1
        go_wp2_with (first | rw [← Wr1.out] | (rw [← Wn1.out]))
        refine Hc1.out.mono ?_
        rintro e v2 ⟨rfl, b2⟩
        obtain ⟨w2, hw2⟩ : ∃ w, w = v2.alloc (.cells #[.bool false, .int .i64 a, .string ⟨#[]⟩] 27) := ⟨_, rfl⟩
        have bn : Below v2.heap.size v2 w2 := by rw [hw2]; exact (Below.refl _ _).alloc (Nat.le_refl _) _
        have bt := b2.trans (bn.mono b2.size)
        have xn : Bx w2 v2.heap.size (.bool false) (.int .i64 a) (.string ⟨#[]⟩) := by rw [hw2]; exact Bx.made _ _ _ _ _
        have Xd2 := Lib.hid xn; have BB2 := Lib.hid (BB1.out.trans (bt.mono BB1.out.size)); have Wn2 := Lib.hid hw2
        have Xx2 := Lib.hid (Xx1.out.below bt Xx1.out.lt)
        have Xy2 := Lib.hid (Xy1.out.below bt Xy1.out.lt)
        have Xs2 := Lib.hid (Xs1.out.below bt Xs1.out.lt)
        clear cx0 cx1 cx2 cy0 cy1 cy2 cs0 cs1 cs2 bn bt xn b2 hw2
        obtain ⟨cx0, cx1, cx2, -, -, -, -⟩ := Xx2.out
        obtain ⟨cy0, cy1, cy2, -, -, -, -⟩ := Xy2.out
        obtain ⟨cs0, cs1, cs2, -, -, -, -⟩ := Xs2.out
        obtain ⟨cd0, cd1, cd2, -, -, -, -⟩ := Xd2.out
        obtain ⟨r2, hr2⟩ : ∃ r, r = w2.alloc (.cells #[.bool false, .int .i64 a, .string ⟨#[]⟩, .bool false, .int .i64 b, .string ⟨#[]⟩] 27) := ⟨_, rfl⟩
        have hc2 := do_lit HS.out 7 [⟨false, a, []⟩, ⟨false, b, []⟩] _ #[.bool false, .int .i64 a, .string ⟨#[]⟩, .bool false, .int .i64 b, .string ⟨#[]⟩] rfl 2 rfl (by omega) (by unfold I; omega) (fun v hv => (Hok.out v) (by simp at hv ⊢; rcases hv with rfl | rfl <;> simp)) _ _ _ _ h7.out w2 r2 (HG.out.below' BB2.out) hr2
        have Wr2 := Lib.hid hr2; have Hc2 := Lib.hid hc2
        clear hr2 hc2
        go_wp2_with (first | rw [← Wr2.out] | (rw [← Wn2.out]))
        refine Hc2.out.mono ?_
        rintro e v3 ⟨rfl, b3⟩
        obtain ⟨w3, hw3⟩ : ∃ w, w = v3.alloc (.cells #[.bool false, .int .i64 Q, .string ⟨#[]⟩] 27) := ⟨_, rfl⟩
        have bn : Below v3.heap.size v3 w3 := by rw [hw3]; exact (Below.refl _ _).alloc (Nat.le_refl _) _
        have bt := b3.trans (bn.mono b3.size)
        have xn : Bx w3 v3.heap.size (.bool false) (.int .i64 Q) (.string ⟨#[]⟩) := by rw [hw3]; exact Bx.made _ _ _ _ _
        have Xq3 := Lib.hid xn; have BB3 := Lib.hid (BB2.out.trans (bt.mono BB2.out.size)); have Wn3 := Lib.hid hw3
        have Xx3 := Lib.hid (Xx2.out.below bt Xx2.out.lt)
        have Xy3 := Lib.hid (Xy2.out.below bt Xy2.out.lt)
        have Xs3 := Lib.hid (Xs2.out.below bt Xs2.out.lt)
        have Xd3 := Lib.hid (Xd2.out.below bt Xd2.out.lt)
        clear cx0 cx1 cx2 cy0 cy1 cy2 cs0 cs1 cs2 cd0 cd1 cd2 bn bt xn b3 hw3
        obtain ⟨cx0, cx1, cx2, -, -, -, -⟩ := Xx3.out
        obtain ⟨cy0, cy1, cy2, -, -, -, -⟩ := Xy3.out
        obtain ⟨cs0, cs1, cs2, -, -, -, -⟩ := Xs3.out
        obtain ⟨cd0, cd1, cd2, -, -, -, -⟩ := Xd3.out
        obtain ⟨cq0, cq1, cq2, -, -, -, -⟩ := Xq3.out
        obtain ⟨r3, hr3⟩ : ∃ r, r = w3.alloc (.cells #[.bool false, .int .i64 a, .string ⟨#[]⟩, .bool false, .int .i64 b, .string ⟨#[]⟩] 27) := ⟨_, rfl⟩
        have hc3 := do_lit HS.out 8 [⟨false, a, []⟩, ⟨false, b, []⟩] _ #[.bool false, .int .i64 a, .string ⟨#[]⟩, .bool false, .int .i64 b, .string ⟨#[]⟩] rfl 2 rfl (by omega) (by unfold I; omega) (fun v hv => (Hok.out v) (by simp at hv ⊢; rcases hv with rfl | rfl <;> simp)) _ _ _ _ h8.out w3 r3 (HG.out.below' BB3.out) hr3
        have Wr3 := Lib.hid hr3; have Hc3 := Lib.hid hc3
        clear hr3 hc3
        go_wp2_with (first | rw [← Wr3.out] | (rw [← Wn3.out]))
        refine Hc3.out.mono ?_
        rintro e v4 ⟨rfl, b4⟩
        obtain ⟨w4, hw4⟩ : ∃ w, w = v4.alloc (.cells #[.bool false, .int .i64 R, .string ⟨#[]⟩] 27) := ⟨_, rfl⟩
        have bn : Below v4.heap.size v4 w4 := by rw [hw4]; exact (Below.refl _ _).alloc (Nat.le_refl _) _
        have bt := b4.trans (bn.mono b4.size)
        have xn : Bx w4 v4.heap.size (.bool false) (.int .i64 R) (.string ⟨#[]⟩) := by rw [hw4]; exact Bx.made _ _ _ _ _
        have Xr4 := Lib.hid xn; have BB4 := Lib.hid (BB3.out.trans (bt.mono BB3.out.size)); have Wn4 := Lib.hid hw4
        have Xx4 := Lib.hid (Xx3.out.below bt Xx3.out.lt)
        have Xy4 := Lib.hid (Xy3.out.below bt Xy3.out.lt)
        have Xs4 := Lib.hid (Xs3.out.below bt Xs3.out.lt)
        have Xd4 := Lib.hid (Xd3.out.below bt Xd3.out.lt)
        have Xq4 := Lib.hid (Xq3.out.below bt Xq3.out.lt)
        clear cx0 cx1 cx2 cy0 cy1 cy2 cs0 cs1 cs2 cd0 cd1 cd2 cq0 cq1 cq2 bn bt xn b4 hw4
        obtain ⟨cx0, cx1, cx2, -, -, -, -⟩ := Xx4.out
        obtain ⟨cy0, cy1, cy2, -, -, -, -⟩ := Xy4.out
        obtain ⟨cs0, cs1, cs2, -, -, -, -⟩ := Xs4.out
        obtain ⟨cd0, cd1, cd2, -, -, -, -⟩ := Xd4.out
        obtain ⟨cq0, cq1, cq2, -, -, -, -⟩ := Xq4.out
        obtain ⟨cr0, cr1, cr2, -, -, -, -⟩ := Xr4.out
        obtain ⟨r4, hr4⟩ : ∃ r, r = w4.alloc (.cells #[.bool false, .int .i64 Q, .string ⟨#[]⟩, .bool false, .int .i64 b, .string ⟨#[]⟩] 27) := ⟨_, rfl⟩
        have hc4 := do_lit HS.out 6 [⟨false, Q, []⟩, ⟨false, b, []⟩] _ #[.bool false, .int .i64 Q, .string ⟨#[]⟩, .bool false, .int .i64 b, .string ⟨#[]⟩] rfl 2 rfl (by omega) (by unfold I; omega) (fun v hv => (Hok.out v) (by simp at hv ⊢; rcases hv with rfl | rfl <;> simp)) _ _ _ _ h6.out w4 r4 (HG.out.below' BB4.out) hr4
        have Wr4 := Lib.hid hr4; have Hc4 := Lib.hid hc4
        clear hr4 hc4
        go_wp2_with (first | rw [← Wr4.out] | (rw [← Wn4.out]))
        refine Hc4.out.mono ?_
        rintro e v5 ⟨rfl, b5⟩
        obtain ⟨w5, hw5⟩ : ∃ w, w = v5.alloc (.cells #[.bool false, .int .i64 M, .string ⟨#[]⟩] 27) := ⟨_, rfl⟩
        have bn : Below v5.heap.size v5 w5 := by rw [hw5]; exact (Below.refl _ _).alloc (Nat.le_refl _) _
        have bt := b5.trans (bn.mono b5.size)
        have xn : Bx w5 v5.heap.size (.bool false) (.int .i64 M) (.string ⟨#[]⟩) := by rw [hw5]; exact Bx.made _ _ _ _ _
        have Xm5 := Lib.hid xn; have BB5 := Lib.hid (BB4.out.trans (bt.mono BB4.out.size)); have Wn5 := Lib.hid hw5
        have Xx5 := Lib.hid (Xx4.out.below bt Xx4.out.lt)
        have Xy5 := Lib.hid (Xy4.out.below bt Xy4.out.lt)
        have Xs5 := Lib.hid (Xs4.out.below bt Xs4.out.lt)
        have Xd5 := Lib.hid (Xd4.out.below bt Xd4.out.lt)
        have Xq5 := Lib.hid (Xq4.out.below bt Xq4.out.lt)
        have Xr5 := Lib.hid (Xr4.out.below bt Xr4.out.lt)
        clear cx0 cx1 cx2 cy0 cy1 cy2 cs0 cs1 cs2 cd0 cd1 cd2 cq0 cq1 cq2 cr0 cr1 cr2 bn bt xn b5 hw5
        obtain ⟨cx0, cx1, cx2, -, -, -, -⟩ := Xx5.out
        obtain ⟨cy0, cy1, cy2, -, -, -, -⟩ := Xy5.out
        obtain ⟨cs0, cs1, cs2, -, -, -, -⟩ := Xs5.out
        obtain ⟨cd0, cd1, cd2, -, -, -, -⟩ := Xd5.out
        obtain ⟨cq0, cq1, cq2, -, -, -, -⟩ := Xq5.out
        obtain ⟨cr0, cr1, cr2, -, -, -, -⟩ := Xr5.out
        obtain ⟨cm0, cm1, cm2, -, -, -, -⟩ := Xm5.out
        obtain ⟨r5, hr5⟩ : ∃ r, r = w5.alloc (.cells #[.bool false, .int .i64 M, .string ⟨#[]⟩, .bool false, .int .i64 R, .string ⟨#[]⟩] 27) := ⟨_, rfl⟩
        have hc5 := do_lit HS.out 4 [⟨false, M, []⟩, ⟨false, R, []⟩] _ #[.bool false, .int .i64 M, .string ⟨#[]⟩, .bool false, .int .i64 R, .string ⟨#[]⟩] rfl 2 rfl (by omega) (by unfold I; omega) (fun v hv => (Hok.out v) (by simp at hv ⊢; rcases hv with rfl | rfl <;> simp)) _ _ _ _ h4n.out w5 r5 (HG.out.below' BB5.out) hr5
        have Wr5 := Lib.hid hr5; have Hc5 := Lib.hid hc5
        clear hr5 hc5
        go_wp2_with (first | rw [← Wr5.out] | (rw [← Wn5.out]))
        refine Hc5.out.mono ?_
        rintro e v6 ⟨rfl, b6⟩
        obtain ⟨w6, hw6⟩ : ∃ w, w = v6.alloc (.cells #[.bool false, .int .i64 a, .string ⟨#[]⟩] 27) := ⟨_, rfl⟩
        have bn : Below v6.heap.size v6 w6 := by rw [hw6]; exact (Below.refl _ _).alloc (Nat.le_refl _) _
        have bt := b6.trans (bn.mono b6.size)
        have xn : Bx w6 v6.heap.size (.bool false) (.int .i64 a) (.string ⟨#[]⟩) := by rw [hw6]; exact Bx.made _ _ _ _ _
        have Xn6 := Lib.hid xn; have BB6 := Lib.hid (BB5.out.trans (bt.mono BB5.out.size)); have Wn6 := Lib.hid hw6
        have Xx6 := Lib.hid (Xx5.out.below bt Xx5.out.lt)
        have Xy6 := Lib.hid (Xy5.out.below bt Xy5.out.lt)
        have Xs6 := Lib.hid (Xs5.out.below bt Xs5.out.lt)
        have Xd6 := Lib.hid (Xd5.out.below bt Xd5.out.lt)
        have Xq6 := Lib.hid (Xq5.out.below bt Xq5.out.lt)
        have Xr6 := Lib.hid (Xr5.out.below bt Xr5.out.lt)
        have Xm6 := Lib.hid (Xm5.out.below bt Xm5.out.lt)
        clear cx0 cx1 cx2 cy0 cy1 cy2 cs0 cs1 cs2 cd0 cd1 cd2 cq0 cq1 cq2 cr0 cr1 cr2 cm0 cm1 cm2 bn bt xn b6 hw6
        obtain ⟨cx0, cx1, cx2, -, -, -, -⟩ := Xx6.out
        obtain ⟨cy0, cy1, cy2, -, -, -, -⟩ := Xy6.out
        obtain ⟨cs0, cs1, cs2, -, -, -, -⟩ := Xs6.out
        obtain ⟨cd0, cd1, cd2, -, -, -, -⟩ := Xd6.out
        obtain ⟨cq0, cq1, cq2, -, -, -, -⟩ := Xq6.out
        obtain ⟨cr0, cr1, cr2, -, -, -, -⟩ := Xr6.out
        obtain ⟨cm0, cm1, cm2, -, -, -, -⟩ := Xm6.out
        obtain ⟨cn0, cn1, cn2, -, -, -, -⟩ := Xn6.out
        obtain ⟨r6, hr6⟩ : ∃ r, r = w6.alloc (.cells #[.bool false, .int .i64 a, .string ⟨#[]⟩] 27) := ⟨_, rfl⟩
        have hc6 := do_lit HS.out 19 [⟨false, a, []⟩] _ #[.bool false, .int .i64 a, .string ⟨#[]⟩] rfl 1 rfl (by omega) (by unfold I; omega) (fun v hv => (Hok.out v) (by simp at hv ⊢; subst hv; simp)) _ _ _ _ h19.out w6 r6 (HG.out.below' BB6.out) hr6
        have Wr6 := Lib.hid hr6; have Hc6 := Lib.hid hc6
        clear hr6 hc6
        go_wp2_with (first | rw [← Wr6.out] | (rw [← Wn6.out]))
        refine Hc6.out.mono ?_
        rintro e v7 ⟨rfl, b7⟩
        obtain ⟨w7, hw7⟩ : ∃ w, w = v7.alloc (.cells #[.bool true, .int .i64 0, .string ⟨F.toArray⟩] 27) := ⟨_, rfl⟩
        have bn : Below v7.heap.size v7 w7 := by rw [hw7]; exact (Below.refl _ _).alloc (Nat.le_refl _) _
        have bt := b7.trans (bn.mono b7.size)
        have xn : Bx w7 v7.heap.size (.bool true) (.int .i64 0) (.string ⟨F.toArray⟩) := by rw [hw7]; exact Bx.made _ _ _ _ _
        have Xt7 := Lib.hid xn; have BB7 := Lib.hid (BB6.out.trans (bt.mono BB6.out.size)); have Wn7 := Lib.hid hw7
        have Xx7 := Lib.hid (Xx6.out.below bt Xx6.out.lt)
        have Xy7 := Lib.hid (Xy6.out.below bt Xy6.out.lt)
        have Xs7 := Lib.hid (Xs6.out.below bt Xs6.out.lt)
        have Xd7 := Lib.hid (Xd6.out.below bt Xd6.out.lt)
        have Xq7 := Lib.hid (Xq6.out.below bt Xq6.out.lt)
        have Xr7 := Lib.hid (Xr6.out.below bt Xr6.out.lt)
        have Xm7 := Lib.hid (Xm6.out.below bt Xm6.out.lt)
        have Xn7 := Lib.hid (Xn6.out.below bt Xn6.out.lt)
        clear cx0 cx1 cx2 cy0 cy1 cy2 cs0 cs1 cs2 cd0 cd1 cd2 cq0 cq1 cq2 cr0 cr1 cr2 cm0 cm1 cm2 cn0 cn1 cn2 bn bt xn b7 hw7
        obtain ⟨cx0, cx1, cx2, -, -, -, -⟩ := Xx7.out
        obtain ⟨cy0, cy1, cy2, -, -, -, -⟩ := Xy7.out
        obtain ⟨cs0, cs1, cs2, -, -, -, -⟩ := Xs7.out
        obtain ⟨cd0, cd1, cd2, -, -, -, -⟩ := Xd7.out
        obtain ⟨cq0, cq1, cq2, -, -, -, -⟩ := Xq7.out
        obtain ⟨cr0, cr1, cr2, -, -, -, -⟩ := Xr7.out
        obtain ⟨cm0, cm1, cm2, -, -, -, -⟩ := Xm7.out
        obtain ⟨cn0, cn1, cn2, -, -, -, -⟩ := Xn7.out
        obtain ⟨ct0, ct1, ct2, -, -, -, -⟩ := Xt7.out
        obtain ⟨r7, hr7⟩ : ∃ r, r = w7.alloc (.cells #[.bool true, .int .i64 0, .string ⟨F.toArray⟩] 27) := ⟨_, rfl⟩
        have hc7 := do_lit HS.out 18 [⟨true, 0, F⟩] _ #[.bool true, .int .i64 0, .string ⟨F.toArray⟩] rfl 1 rfl (by omega) (by unfold I; omega) (fun v hv => (Hok.out v) (by simp at hv ⊢; subst hv; simp)) _ _ _ _ h18.out w7 r7 (HG.out.below' BB7.out) hr7
        have Wr7 := Lib.hid hr7; have Hc7 := Lib.hid hc7
        clear hr7 hc7
        go_wp2_with (first | rw [← Wr7.out] | (rw [← Wn7.out]))
        refine Hc7.out.mono ?_
        rintro e v8 ⟨rfl, b8⟩
        obtain ⟨w8, hw8⟩ : ∃ w, w = v8.alloc (.cells #[.bool false, .int .i64 K, .string ⟨#[]⟩] 27) := ⟨_, rfl⟩
        have bn : Below v8.heap.size v8 w8 := by rw [hw8]; exact (Below.refl _ _).alloc (Nat.le_refl _) _
        have bt := b8.trans (bn.mono b8.size)
        have xn : Bx w8 v8.heap.size (.bool false) (.int .i64 K) (.string ⟨#[]⟩) := by rw [hw8]; exact Bx.made _ _ _ _ _
        have Xk8 := Lib.hid xn; have BB8 := Lib.hid (BB7.out.trans (bt.mono BB7.out.size)); have Wn8 := Lib.hid hw8
        have Xx8 := Lib.hid (Xx7.out.below bt Xx7.out.lt)
        have Xy8 := Lib.hid (Xy7.out.below bt Xy7.out.lt)
        have Xs8 := Lib.hid (Xs7.out.below bt Xs7.out.lt)
        have Xd8 := Lib.hid (Xd7.out.below bt Xd7.out.lt)
        have Xq8 := Lib.hid (Xq7.out.below bt Xq7.out.lt)
        have Xr8 := Lib.hid (Xr7.out.below bt Xr7.out.lt)
        have Xm8 := Lib.hid (Xm7.out.below bt Xm7.out.lt)
        have Xn8 := Lib.hid (Xn7.out.below bt Xn7.out.lt)
        have Xt8 := Lib.hid (Xt7.out.below bt Xt7.out.lt)
        clear cx0 cx1 cx2 cy0 cy1 cy2 cs0 cs1 cs2 cd0 cd1 cd2 cq0 cq1 cq2 cr0 cr1 cr2 cm0 cm1 cm2 cn0 cn1 cn2 ct0 ct1 ct2 bn bt xn b8 hw8
        obtain ⟨cx0, cx1, cx2, -, -, -, -⟩ := Xx8.out
        obtain ⟨cy0, cy1, cy2, -, -, -, -⟩ := Xy8.out
        obtain ⟨cs0, cs1, cs2, -, -, -, -⟩ := Xs8.out
        obtain ⟨cd0, cd1, cd2, -, -, -, -⟩ := Xd8.out
        obtain ⟨cq0, cq1, cq2, -, -, -, -⟩ := Xq8.out
        obtain ⟨cr0, cr1, cr2, -, -, -, -⟩ := Xr8.out
        obtain ⟨cm0, cm1, cm2, -, -, -, -⟩ := Xm8.out
        obtain ⟨cn0, cn1, cn2, -, -, -, -⟩ := Xn8.out
        obtain ⟨ct0, ct1, ct2, -, -, -, -⟩ := Xt8.out
        obtain ⟨ck0, ck1, ck2, -, -, -, -⟩ := Xk8.out
        go_wp2_with (rw [← Wn8.out])
        refine (alive13_c HS.out w8 (HG.out.below' BB8.out)).mono ?_
        rintro e wf ⟨rfl, bf⟩
        have BBf := Lib.hid (BB8.out.trans (bf.mono BB8.out.size))
        have xfx := Xx8.out.below bf Xx8.out.lt
        have xfy := Xy8.out.below bf Xy8.out.lt
        have xfs := Xs8.out.below bf Xs8.out.lt
        have xfd := Xd8.out.below bf Xd8.out.lt
        have xfq := Xq8.out.below bf Xq8.out.lt
        have xfr := Xr8.out.below bf Xr8.out.lt
        have xfm := Xm8.out.below bf Xm8.out.lt
        have xfn := Xn8.out.below bf Xn8.out.lt
        have xft := Xt8.out.below bf Xt8.out.lt
        have xfk := Xk8.out.below bf Xk8.out.lt
        clear cx0 cx1 cx2 cy0 cy1 cy2 cs0 cs1 cs2 cd0 cd1 cd2 cq0 cq1 cq2 cr0 cr1 cr2 cm0 cm1 cm2 cn0 cn1 cn2 ct0 ct1 ct2 ck0 ck1 ck2 bf
        obtain ⟨cx0, cx1, cx2, -, -, -, -⟩ := xfx
        obtain ⟨cy0, cy1, cy2, -, -, -, -⟩ := xfy
        obtain ⟨cs0, cs1, cs2, -, -, -, -⟩ := xfs
        obtain ⟨cd0, cd1, cd2, -, -, -, -⟩ := xfd
        obtain ⟨cq0, cq1, cq2, -, -, -, -⟩ := xfq
        obtain ⟨cr0, cr1, cr2, -, -, -, -⟩ := xfr
        obtain ⟨cm0, cm1, cm2, -, -, -, -⟩ := xfm
        obtain ⟨cn0, cn1, cn2, -, -, -, -⟩ := xfn
        obtain ⟨ct0, ct1, ct2, -, -, -, -⟩ := xft
        obtain ⟨ck0, ck1, ck2, -, -, -, -⟩ := xfk
        go_wp2
        go_ret
        exact ⟨rfl, BBf.out⟩
    · have ds1 : decide (-1000000000000000000 < a) = false := decide_eq_false hs1
      clear hNa hKa ha hb hb0 hs1
      go_enter Tryd.func5, Tryd.ntmps5
      go_wp2_with fail
      refine (Hna.out _).mono ?_
      rintro e u1 ⟨rfl, b1⟩
      go_wp2_with fail
      refine (Hnb.out _).mono ?_
      rintro e u2 ⟨rfl, b2⟩
      have bb2 := b1.trans (b2.mono b1.size)
      obtain ⟨u3, hu3⟩ : ∃ u3, u3 = u2.alloc (.cells #[.bool false, .int .i64 a, .string ⟨#[]⟩] 27) := ⟨_, rfl⟩
      have z3 : u3.heap.size = u2.heap.size + 1 := by rw [hu3]; simp
      have b3 : Below u2.heap.size u2 u3 := by rw [hu3]; exact (Below.refl _ _).alloc (Nat.le_refl _) _
      have x3 : Bx u3 u2.heap.size (.bool false) (.int .i64 a) (.string ⟨#[]⟩) := by rw [hu3]; exact Bx.made _ _ _ _ _
      obtain ⟨w0, hw0⟩ : ∃ w0, w0 = u3.alloc (.cells #[.bool false, .int .i64 b, .string ⟨#[]⟩] 27) := ⟨_, rfl⟩
      have b4 : Below u3.heap.size u3 w0 := by rw [hw0]; exact (Below.refl _ _).alloc (Nat.le_refl _) _
      have y4 : Bx w0 u3.heap.size (.bool false) (.int .i64 b) (.string ⟨#[]⟩) := by rw [hw0]; exact Bx.made _ _ _ _ _
      rw [z3] at y4
      have x4 := x3.below b4 x3.lt
      have b34 := b3.trans (b4.mono b3.size)
      have bb4 := bb2.trans (b34.mono bb2.size)
      obtain ⟨Gx, hGx⟩ : ∃ Gx, Gx = u2.heap.size := ⟨_, rfl⟩
      have Wx := Lib.hid hu3; have Wy := Lib.hid hw0; have Zx := Lib.hid z3; have Xx0 := Lib.hid x4; have Xy0 := Lib.hid y4; have BB0 := Lib.hid bb4
      clear hu3 z3 b3 x3 hw0 b4 y4 x4 b34 bb4 b1 b2 bb2 hGx Gx
      obtain ⟨cx0, cx1, cx2, -, -, -, -⟩ := Xx0.out
      obtain ⟨cy0, cy1, cy2, -, -, -, -⟩ := Xy0.out
      obtain ⟨r0, hr0⟩ : ∃ r, r = w0.alloc (.cells #[.bool false, .int .i64 a, .string ⟨#[]⟩, .bool false, .int .i64 b, .string ⟨#[]⟩] 27) := ⟨_, rfl⟩
      have hc0 := do_lit HS.out 4 [⟨false, a, []⟩, ⟨false, b, []⟩] _ #[.bool false, .int .i64 a, .string ⟨#[]⟩, .bool false, .int .i64 b, .string ⟨#[]⟩] rfl 2 rfl (by omega) (by unfold I; omega) (fun v hv => (Hok.out v) (by simp at hv ⊢; rcases hv with rfl | rfl <;> simp)) _ _ _ _ h4.out w0 r0 (HG.out.below' BB0.out) hr0
      have Wr0 := Lib.hid hr0; have Hc0 := Lib.hid hc0
      clear hr0 hc0
      go_wp2_with (first | rw [← Wr0.out] | (first | rw [← Wx.out, ← Wy.out, Zx.out] | rw [← Wx.out, ← Wy.out]))
      refine Hc0.out.mono ?_
      rintro e v1 ⟨rfl, b1⟩
      obtain ⟨w1, hw1⟩ : ∃ w, w = v1.alloc (.cells #[.bool false, .int .i64 S1, .string ⟨#[]⟩] 27) := ⟨_, rfl⟩
      have bn : Below v1.heap.size v1 w1 := by rw [hw1]; exact (Below.refl _ _).alloc (Nat.le_refl _) _
      have bt := b1.trans (bn.mono b1.size)
      have xn : Bx w1 v1.heap.size (.bool false) (.int .i64 S1) (.string ⟨#[]⟩) := by rw [hw1]; exact Bx.made _ _ _ _ _
      have Xs1 := Lib.hid xn; have BB1 := Lib.hid (BB0.out.trans (bt.mono BB0.out.size)); have Wn1 := Lib.hid hw1
      have Xx1 := Lib.hid (Xx0.out.below bt Xx0.out.lt)
      have Xy1 := Lib.hid (Xy0.out.below bt Xy0.out.lt)
      clear cx0 cx1 cx2 cy0 cy1 cy2 bn bt xn b1 hw1
      obtain ⟨cx0, cx1, cx2, -, -, -, -⟩ := Xx1.out
      obtain ⟨cy0, cy1, cy2, -, -, -, -⟩ := Xy1.out
      obtain ⟨cs0, cs1, cs2, -, -, -, -⟩ := Xs1.out
      obtain ⟨r1, hr1⟩ : ∃ r, r = w1.alloc (.cells #[.bool false, .int .i64 S1, .string ⟨#[]⟩, .bool false, .int .i64 b, .string ⟨#[]⟩] 27) := ⟨_, rfl⟩
      have hc1 := do_lit HS.out 5 [⟨false, S1, []⟩, ⟨false, b, []⟩] _ #[.bool false, .int .i64 S1, .string ⟨#[]⟩, .bool false, .int .i64 b, .string ⟨#[]⟩] rfl 2 rfl (by omega) (by unfold I; omega) (fun v hv => (Hok.out v) (by simp at hv ⊢; rcases hv with rfl | rfl <;> simp)) _ _ _ _ h5.out w1 r1 (HG.out.below' BB1.out) hr1
      have Wr1 := Lib.hid hr1; have Hc1 := Lib.hid hc1
      clear hr1 hc1
      go_wp2_with (first | rw [← Wr1.out] | (rw [← Wn1.out]))
      refine Hc1.out.mono ?_
      rintro e v2 ⟨rfl, b2⟩
      obtain ⟨w2, hw2⟩ : ∃ w, w = v2.alloc (.cells #[.bool false, .int .i64 a, .string ⟨#[]⟩] 27) := ⟨_, rfl⟩
      have bn : Below v2.heap.size v2 w2 := by rw [hw2]; exact (Below.refl _ _).alloc (Nat.le_refl _) _
      have bt := b2.trans (bn.mono b2.size)
      have xn : Bx w2 v2.heap.size (.bool false) (.int .i64 a) (.string ⟨#[]⟩) := by rw [hw2]; exact Bx.made _ _ _ _ _
      have Xd2 := Lib.hid xn; have BB2 := Lib.hid (BB1.out.trans (bt.mono BB1.out.size)); have Wn2 := Lib.hid hw2
      have Xx2 := Lib.hid (Xx1.out.below bt Xx1.out.lt)
      have Xy2 := Lib.hid (Xy1.out.below bt Xy1.out.lt)
      have Xs2 := Lib.hid (Xs1.out.below bt Xs1.out.lt)
      clear cx0 cx1 cx2 cy0 cy1 cy2 cs0 cs1 cs2 bn bt xn b2 hw2
      obtain ⟨cx0, cx1, cx2, -, -, -, -⟩ := Xx2.out
      obtain ⟨cy0, cy1, cy2, -, -, -, -⟩ := Xy2.out
      obtain ⟨cs0, cs1, cs2, -, -, -, -⟩ := Xs2.out
      obtain ⟨cd0, cd1, cd2, -, -, -, -⟩ := Xd2.out
      obtain ⟨r2, hr2⟩ : ∃ r, r = w2.alloc (.cells #[.bool false, .int .i64 a, .string ⟨#[]⟩, .bool false, .int .i64 b, .string ⟨#[]⟩] 27) := ⟨_, rfl⟩
      have hc2 := do_lit HS.out 7 [⟨false, a, []⟩, ⟨false, b, []⟩] _ #[.bool false, .int .i64 a, .string ⟨#[]⟩, .bool false, .int .i64 b, .string ⟨#[]⟩] rfl 2 rfl (by omega) (by unfold I; omega) (fun v hv => (Hok.out v) (by simp at hv ⊢; rcases hv with rfl | rfl <;> simp)) _ _ _ _ h7.out w2 r2 (HG.out.below' BB2.out) hr2
      have Wr2 := Lib.hid hr2; have Hc2 := Lib.hid hc2
      clear hr2 hc2
      go_wp2_with (first | rw [← Wr2.out] | (rw [← Wn2.out]))
      refine Hc2.out.mono ?_
      rintro e v3 ⟨rfl, b3⟩
      obtain ⟨w3, hw3⟩ : ∃ w, w = v3.alloc (.cells #[.bool false, .int .i64 Q, .string ⟨#[]⟩] 27) := ⟨_, rfl⟩
      have bn : Below v3.heap.size v3 w3 := by rw [hw3]; exact (Below.refl _ _).alloc (Nat.le_refl _) _
      have bt := b3.trans (bn.mono b3.size)
      have xn : Bx w3 v3.heap.size (.bool false) (.int .i64 Q) (.string ⟨#[]⟩) := by rw [hw3]; exact Bx.made _ _ _ _ _
      have Xq3 := Lib.hid xn; have BB3 := Lib.hid (BB2.out.trans (bt.mono BB2.out.size)); have Wn3 := Lib.hid hw3
      have Xx3 := Lib.hid (Xx2.out.below bt Xx2.out.lt)
      have Xy3 := Lib.hid (Xy2.out.below bt Xy2.out.lt)
      have Xs3 := Lib.hid (Xs2.out.below bt Xs2.out.lt)
      have Xd3 := Lib.hid (Xd2.out.below bt Xd2.out.lt)
      clear cx0 cx1 cx2 cy0 cy1 cy2 cs0 cs1 cs2 cd0 cd1 cd2 bn bt xn b3 hw3
      obtain ⟨cx0, cx1, cx2, -, -, -, -⟩ := Xx3.out
      obtain ⟨cy0, cy1, cy2, -, -, -, -⟩ := Xy3.out
      obtain ⟨cs0, cs1, cs2, -, -, -, -⟩ := Xs3.out
      obtain ⟨cd0, cd1, cd2, -, -, -, -⟩ := Xd3.out
      obtain ⟨cq0, cq1, cq2, -, -, -, -⟩ := Xq3.out
      obtain ⟨r3, hr3⟩ : ∃ r, r = w3.alloc (.cells #[.bool false, .int .i64 a, .string ⟨#[]⟩, .bool false, .int .i64 b, .string ⟨#[]⟩] 27) := ⟨_, rfl⟩
      have hc3 := do_lit HS.out 8 [⟨false, a, []⟩, ⟨false, b, []⟩] _ #[.bool false, .int .i64 a, .string ⟨#[]⟩, .bool false, .int .i64 b, .string ⟨#[]⟩] rfl 2 rfl (by omega) (by unfold I; omega) (fun v hv => (Hok.out v) (by simp at hv ⊢; rcases hv with rfl | rfl <;> simp)) _ _ _ _ h8.out w3 r3 (HG.out.below' BB3.out) hr3
      have Wr3 := Lib.hid hr3; have Hc3 := Lib.hid hc3
      clear hr3 hc3
      go_wp2_with (first | rw [← Wr3.out] | (rw [← Wn3.out]))
      refine Hc3.out.mono ?_
      rintro e v4 ⟨rfl, b4⟩
      obtain ⟨w4, hw4⟩ : ∃ w, w = v4.alloc (.cells #[.bool false, .int .i64 R, .string ⟨#[]⟩] 27) := ⟨_, rfl⟩
      have bn : Below v4.heap.size v4 w4 := by rw [hw4]; exact (Below.refl _ _).alloc (Nat.le_refl _) _
      have bt := b4.trans (bn.mono b4.size)
      have xn : Bx w4 v4.heap.size (.bool false) (.int .i64 R) (.string ⟨#[]⟩) := by rw [hw4]; exact Bx.made _ _ _ _ _
      have Xr4 := Lib.hid xn; have BB4 := Lib.hid (BB3.out.trans (bt.mono BB3.out.size)); have Wn4 := Lib.hid hw4
      have Xx4 := Lib.hid (Xx3.out.below bt Xx3.out.lt)
      have Xy4 := Lib.hid (Xy3.out.below bt Xy3.out.lt)
      have Xs4 := Lib.hid (Xs3.out.below bt Xs3.out.lt)
      have Xd4 := Lib.hid (Xd3.out.below bt Xd3.out.lt)
      have Xq4 := Lib.hid (Xq3.out.below bt Xq3.out.lt)
      clear cx0 cx1 cx2 cy0 cy1 cy2 cs0 cs1 cs2 cd0 cd1 cd2 cq0 cq1 cq2 bn bt xn b4 hw4
      obtain ⟨cx0, cx1, cx2, -, -, -, -⟩ := Xx4.out
      obtain ⟨cy0, cy1, cy2, -, -, -, -⟩ := Xy4.out
      obtain ⟨cs0, cs1, cs2, -, -, -, -⟩ := Xs4.out
      obtain ⟨cd0, cd1, cd2, -, -, -, -⟩ := Xd4.out
      obtain ⟨cq0, cq1, cq2, -, -, -, -⟩ := Xq4.out
      obtain ⟨cr0, cr1, cr2, -, -, -, -⟩ := Xr4.out
      obtain ⟨r4, hr4⟩ : ∃ r, r = w4.alloc (.cells #[.bool false, .int .i64 Q, .string ⟨#[]⟩, .bool false, .int .i64 b, .string ⟨#[]⟩] 27) := ⟨_, rfl⟩
      have hc4 := do_lit HS.out 6 [⟨false, Q, []⟩, ⟨false, b, []⟩] _ #[.bool false, .int .i64 Q, .string ⟨#[]⟩, .bool false, .int .i64 b, .string ⟨#[]⟩] rfl 2 rfl (by omega) (by unfold I; omega) (fun v hv => (Hok.out v) (by simp at hv ⊢; rcases hv with rfl | rfl <;> simp)) _ _ _ _ h6.out w4 r4 (HG.out.below' BB4.out) hr4
      have Wr4 := Lib.hid hr4; have Hc4 := Lib.hid hc4
      clear hr4 hc4
      go_wp2_with (first | rw [← Wr4.out] | (rw [← Wn4.out]))
      refine Hc4.out.mono ?_
      rintro e v5 ⟨rfl, b5⟩
      obtain ⟨w5, hw5⟩ : ∃ w, w = v5.alloc (.cells #[.bool false, .int .i64 M, .string ⟨#[]⟩] 27) := ⟨_, rfl⟩
      have bn : Below v5.heap.size v5 w5 := by rw [hw5]; exact (Below.refl _ _).alloc (Nat.le_refl _) _
      have bt := b5.trans (bn.mono b5.size)
      have xn : Bx w5 v5.heap.size (.bool false) (.int .i64 M) (.string ⟨#[]⟩) := by rw [hw5]; exact Bx.made _ _ _ _ _
      have Xm5 := Lib.hid xn; have BB5 := Lib.hid (BB4.out.trans (bt.mono BB4.out.size)); have Wn5 := Lib.hid hw5
      have Xx5 := Lib.hid (Xx4.out.below bt Xx4.out.lt)
      have Xy5 := Lib.hid (Xy4.out.below bt Xy4.out.lt)
      have Xs5 := Lib.hid (Xs4.out.below bt Xs4.out.lt)
      have Xd5 := Lib.hid (Xd4.out.below bt Xd4.out.lt)
      have Xq5 := Lib.hid (Xq4.out.below bt Xq4.out.lt)
      have Xr5 := Lib.hid (Xr4.out.below bt Xr4.out.lt)
      clear cx0 cx1 cx2 cy0 cy1 cy2 cs0 cs1 cs2 cd0 cd1 cd2 cq0 cq1 cq2 cr0 cr1 cr2 bn bt xn b5 hw5
      obtain ⟨cx0, cx1, cx2, -, -, -, -⟩ := Xx5.out
      obtain ⟨cy0, cy1, cy2, -, -, -, -⟩ := Xy5.out
      obtain ⟨cs0, cs1, cs2, -, -, -, -⟩ := Xs5.out
      obtain ⟨cd0, cd1, cd2, -, -, -, -⟩ := Xd5.out
      obtain ⟨cq0, cq1, cq2, -, -, -, -⟩ := Xq5.out
      obtain ⟨cr0, cr1, cr2, -, -, -, -⟩ := Xr5.out
      obtain ⟨cm0, cm1, cm2, -, -, -, -⟩ := Xm5.out
      obtain ⟨r5, hr5⟩ : ∃ r, r = w5.alloc (.cells #[.bool false, .int .i64 M, .string ⟨#[]⟩, .bool false, .int .i64 R, .string ⟨#[]⟩] 27) := ⟨_, rfl⟩
      have hc5 := do_lit HS.out 4 [⟨false, M, []⟩, ⟨false, R, []⟩] _ #[.bool false, .int .i64 M, .string ⟨#[]⟩, .bool false, .int .i64 R, .string ⟨#[]⟩] rfl 2 rfl (by omega) (by unfold I; omega) (fun v hv => (Hok.out v) (by simp at hv ⊢; rcases hv with rfl | rfl <;> simp)) _ _ _ _ h4n.out w5 r5 (HG.out.below' BB5.out) hr5
      have Wr5 := Lib.hid hr5; have Hc5 := Lib.hid hc5
      clear hr5 hc5
      go_wp2_with (first | rw [← Wr5.out] | (rw [← Wn5.out]))
      refine Hc5.out.mono ?_
      rintro e v6 ⟨rfl, b6⟩
      obtain ⟨w6, hw6⟩ : ∃ w, w = v6.alloc (.cells #[.bool false, .int .i64 a, .string ⟨#[]⟩] 27) := ⟨_, rfl⟩
      have bn : Below v6.heap.size v6 w6 := by rw [hw6]; exact (Below.refl _ _).alloc (Nat.le_refl _) _
      have bt := b6.trans (bn.mono b6.size)
      have xn : Bx w6 v6.heap.size (.bool false) (.int .i64 a) (.string ⟨#[]⟩) := by rw [hw6]; exact Bx.made _ _ _ _ _
      have Xn6 := Lib.hid xn; have BB6 := Lib.hid (BB5.out.trans (bt.mono BB5.out.size)); have Wn6 := Lib.hid hw6
      have Xx6 := Lib.hid (Xx5.out.below bt Xx5.out.lt)
      have Xy6 := Lib.hid (Xy5.out.below bt Xy5.out.lt)
      have Xs6 := Lib.hid (Xs5.out.below bt Xs5.out.lt)
      have Xd6 := Lib.hid (Xd5.out.below bt Xd5.out.lt)
      have Xq6 := Lib.hid (Xq5.out.below bt Xq5.out.lt)
      have Xr6 := Lib.hid (Xr5.out.below bt Xr5.out.lt)
      have Xm6 := Lib.hid (Xm5.out.below bt Xm5.out.lt)
      clear cx0 cx1 cx2 cy0 cy1 cy2 cs0 cs1 cs2 cd0 cd1 cd2 cq0 cq1 cq2 cr0 cr1 cr2 cm0 cm1 cm2 bn bt xn b6 hw6
      obtain ⟨cx0, cx1, cx2, -, -, -, -⟩ := Xx6.out
      obtain ⟨cy0, cy1, cy2, -, -, -, -⟩ := Xy6.out
      obtain ⟨cs0, cs1, cs2, -, -, -, -⟩ := Xs6.out
      obtain ⟨cd0, cd1, cd2, -, -, -, -⟩ := Xd6.out
      obtain ⟨cq0, cq1, cq2, -, -, -, -⟩ := Xq6.out
      obtain ⟨cr0, cr1, cr2, -, -, -, -⟩ := Xr6.out
      obtain ⟨cm0, cm1, cm2, -, -, -, -⟩ := Xm6.out
      obtain ⟨cn0, cn1, cn2, -, -, -, -⟩ := Xn6.out
      obtain ⟨r6, hr6⟩ : ∃ r, r = w6.alloc (.cells #[.bool false, .int .i64 a, .string ⟨#[]⟩] 27) := ⟨_, rfl⟩
      have hc6 := do_lit HS.out 19 [⟨false, a, []⟩] _ #[.bool false, .int .i64 a, .string ⟨#[]⟩] rfl 1 rfl (by omega) (by unfold I; omega) (fun v hv => (Hok.out v) (by simp at hv ⊢; subst hv; simp)) _ _ _ _ h19.out w6 r6 (HG.out.below' BB6.out) hr6
      have Wr6 := Lib.hid hr6; have Hc6 := Lib.hid hc6
      clear hr6 hc6
      go_wp2_with (first | rw [← Wr6.out] | (rw [← Wn6.out]))
      refine Hc6.out.mono ?_
      rintro e v7 ⟨rfl, b7⟩
      obtain ⟨w7, hw7⟩ : ∃ w, w = v7.alloc (.cells #[.bool true, .int .i64 0, .string ⟨F.toArray⟩] 27) := ⟨_, rfl⟩
      have bn : Below v7.heap.size v7 w7 := by rw [hw7]; exact (Below.refl _ _).alloc (Nat.le_refl _) _
      have bt := b7.trans (bn.mono b7.size)
      have xn : Bx w7 v7.heap.size (.bool true) (.int .i64 0) (.string ⟨F.toArray⟩) := by rw [hw7]; exact Bx.made _ _ _ _ _
      have Xt7 := Lib.hid xn; have BB7 := Lib.hid (BB6.out.trans (bt.mono BB6.out.size)); have Wn7 := Lib.hid hw7
      have Xx7 := Lib.hid (Xx6.out.below bt Xx6.out.lt)
      have Xy7 := Lib.hid (Xy6.out.below bt Xy6.out.lt)
      have Xs7 := Lib.hid (Xs6.out.below bt Xs6.out.lt)
      have Xd7 := Lib.hid (Xd6.out.below bt Xd6.out.lt)
      have Xq7 := Lib.hid (Xq6.out.below bt Xq6.out.lt)
      have Xr7 := Lib.hid (Xr6.out.below bt Xr6.out.lt)
      have Xm7 := Lib.hid (Xm6.out.below bt Xm6.out.lt)
      have Xn7 := Lib.hid (Xn6.out.below bt Xn6.out.lt)
      clear cx0 cx1 cx2 cy0 cy1 cy2 cs0 cs1 cs2 cd0 cd1 cd2 cq0 cq1 cq2 cr0 cr1 cr2 cm0 cm1 cm2 cn0 cn1 cn2 bn bt xn b7 hw7
      obtain ⟨cx0, cx1, cx2, -, -, -, -⟩ := Xx7.out
      obtain ⟨cy0, cy1, cy2, -, -, -, -⟩ := Xy7.out
      obtain ⟨cs0, cs1, cs2, -, -, -, -⟩ := Xs7.out
      obtain ⟨cd0, cd1, cd2, -, -, -, -⟩ := Xd7.out
      obtain ⟨cq0, cq1, cq2, -, -, -, -⟩ := Xq7.out
      obtain ⟨cr0, cr1, cr2, -, -, -, -⟩ := Xr7.out
      obtain ⟨cm0, cm1, cm2, -, -, -, -⟩ := Xm7.out
      obtain ⟨cn0, cn1, cn2, -, -, -, -⟩ := Xn7.out
      obtain ⟨ct0, ct1, ct2, -, -, -, -⟩ := Xt7.out
      obtain ⟨r7, hr7⟩ : ∃ r, r = w7.alloc (.cells #[.bool true, .int .i64 0, .string ⟨F.toArray⟩] 27) := ⟨_, rfl⟩
      have hc7 := do_lit HS.out 18 [⟨true, 0, F⟩] _ #[.bool true, .int .i64 0, .string ⟨F.toArray⟩] rfl 1 rfl (by omega) (by unfold I; omega) (fun v hv => (Hok.out v) (by simp at hv ⊢; subst hv; simp)) _ _ _ _ h18.out w7 r7 (HG.out.below' BB7.out) hr7
      have Wr7 := Lib.hid hr7; have Hc7 := Lib.hid hc7
      clear hr7 hc7
      go_wp2_with (first | rw [← Wr7.out] | (rw [← Wn7.out]))
      refine Hc7.out.mono ?_
      rintro e v8 ⟨rfl, b8⟩
      obtain ⟨w8, hw8⟩ : ∃ w, w = v8.alloc (.cells #[.bool false, .int .i64 K, .string ⟨#[]⟩] 27) := ⟨_, rfl⟩
      have bn : Below v8.heap.size v8 w8 := by rw [hw8]; exact (Below.refl _ _).alloc (Nat.le_refl _) _
      have bt := b8.trans (bn.mono b8.size)
      have xn : Bx w8 v8.heap.size (.bool false) (.int .i64 K) (.string ⟨#[]⟩) := by rw [hw8]; exact Bx.made _ _ _ _ _
      have Xk8 := Lib.hid xn; have BB8 := Lib.hid (BB7.out.trans (bt.mono BB7.out.size)); have Wn8 := Lib.hid hw8
      have Xx8 := Lib.hid (Xx7.out.below bt Xx7.out.lt)
      have Xy8 := Lib.hid (Xy7.out.below bt Xy7.out.lt)
      have Xs8 := Lib.hid (Xs7.out.below bt Xs7.out.lt)
      have Xd8 := Lib.hid (Xd7.out.below bt Xd7.out.lt)
      have Xq8 := Lib.hid (Xq7.out.below bt Xq7.out.lt)
      have Xr8 := Lib.hid (Xr7.out.below bt Xr7.out.lt)
      have Xm8 := Lib.hid (Xm7.out.below bt Xm7.out.lt)
      have Xn8 := Lib.hid (Xn7.out.below bt Xn7.out.lt)
      have Xt8 := Lib.hid (Xt7.out.below bt Xt7.out.lt)
      clear cx0 cx1 cx2 cy0 cy1 cy2 cs0 cs1 cs2 cd0 cd1 cd2 cq0 cq1 cq2 cr0 cr1 cr2 cm0 cm1 cm2 cn0 cn1 cn2 ct0 ct1 ct2 bn bt xn b8 hw8
      obtain ⟨cx0, cx1, cx2, -, -, -, -⟩ := Xx8.out
      obtain ⟨cy0, cy1, cy2, -, -, -, -⟩ := Xy8.out
      obtain ⟨cs0, cs1, cs2, -, -, -, -⟩ := Xs8.out
      obtain ⟨cd0, cd1, cd2, -, -, -, -⟩ := Xd8.out
      obtain ⟨cq0, cq1, cq2, -, -, -, -⟩ := Xq8.out
      obtain ⟨cr0, cr1, cr2, -, -, -, -⟩ := Xr8.out
      obtain ⟨cm0, cm1, cm2, -, -, -, -⟩ := Xm8.out
      obtain ⟨cn0, cn1, cn2, -, -, -, -⟩ := Xn8.out
      obtain ⟨ct0, ct1, ct2, -, -, -, -⟩ := Xt8.out
      obtain ⟨ck0, ck1, ck2, -, -, -, -⟩ := Xk8.out
      go_wp2_with (rw [← Wn8.out])
      refine (alive13_c HS.out w8 (HG.out.below' BB8.out)).mono ?_
      rintro e wf ⟨rfl, bf⟩
      have BBf := Lib.hid (BB8.out.trans (bf.mono BB8.out.size))
      have xfx := Xx8.out.below bf Xx8.out.lt
      have xfy := Xy8.out.below bf Xy8.out.lt
      have xfs := Xs8.out.below bf Xs8.out.lt
      have xfd := Xd8.out.below bf Xd8.out.lt
      have xfq := Xq8.out.below bf Xq8.out.lt
      have xfr := Xr8.out.below bf Xr8.out.lt
      have xfm := Xm8.out.below bf Xm8.out.lt
      have xfn := Xn8.out.below bf Xn8.out.lt
      have xft := Xt8.out.below bf Xt8.out.lt
      have xfk := Xk8.out.below bf Xk8.out.lt
      clear cx0 cx1 cx2 cy0 cy1 cy2 cs0 cs1 cs2 cd0 cd1 cd2 cq0 cq1 cq2 cr0 cr1 cr2 cm0 cm1 cm2 cn0 cn1 cn2 ct0 ct1 ct2 ck0 ck1 ck2 bf
      obtain ⟨cx0, cx1, cx2, -, -, -, -⟩ := xfx
      obtain ⟨cy0, cy1, cy2, -, -, -, -⟩ := xfy
      obtain ⟨cs0, cs1, cs2, -, -, -, -⟩ := xfs
      obtain ⟨cd0, cd1, cd2, -, -, -, -⟩ := xfd
      obtain ⟨cq0, cq1, cq2, -, -, -, -⟩ := xfq
      obtain ⟨cr0, cr1, cr2, -, -, -, -⟩ := xfr
      obtain ⟨cm0, cm1, cm2, -, -, -, -⟩ := xfm
      obtain ⟨cn0, cn1, cn2, -, -, -, -⟩ := xfn
      obtain ⟨ct0, ct1, ct2, -, -, -, -⟩ := xft
      obtain ⟨ck0, ck1, ck2, -, -, -, -⟩ := xfk
      go_wp2
      go_ret
      exact ⟨rfl, BBf.out⟩
end Go.Proofs.YtkkjgiejnblopaaDoor
