/-
  The program's methods of arguments: add to mod, join, length, eq, less, not, choose, hash.
-/
import Derived.Test.YtkkjgiejnblopaaDoorPD
namespace Go.Proofs.YtkkjgiejnblopaaDoor
open Go.RowKit Vl

/-- Three values as one flat array. -/
abbrev ar9 (x y z : V) : Value := .agg #[.bool x.t, .int .i64 x.n, st x.s, .bool y.t, .int .i64 y.n, st y.s, .bool z.t, .int .i64 z.n, st z.s]
/-- A block of nine cells. -/
structure Ar9 (w : World) (g : Nat) (x y z : V) : Prop where
  lt : g < w.heap.size
  c0 : w.cell? ⟨g, 0, none⟩ = some (.bool x.t)
  c1 : w.cell? ⟨g, 1, none⟩ = some (.int .i64 x.n)
  c2 : w.cell? ⟨g, 2, none⟩ = some (.string ⟨x.s.toArray⟩)
  c3 : w.cell? ⟨g, 3, none⟩ = some (.bool y.t)
  c4 : w.cell? ⟨g, 4, none⟩ = some (.int .i64 y.n)
  c5 : w.cell? ⟨g, 5, none⟩ = some (.string ⟨y.s.toArray⟩)
  c6 : w.cell? ⟨g, 6, none⟩ = some (.bool z.t)
  c7 : w.cell? ⟨g, 7, none⟩ = some (.int .i64 z.n)
  c8 : w.cell? ⟨g, 8, none⟩ = some (.string ⟨z.s.toArray⟩)
theorem Ar9.made (w : World) (T : TypeId) (x y z : V) : Ar9 (w.alloc (.cells #[.bool x.t, .int .i64 x.n, st x.s, .bool y.t, .int .i64 y.n, st y.s, .bool z.t, .int .i64 z.n, st z.s] T)) w.heap.size x y z := ⟨by simp, by simp, by simp, by simp, by simp, by simp, by simp, by simp, by simp, by simp⟩
theorem Ar9.below {w w' : World} {g B : Nat} {x y z : V} (h : Ar9 w g x y z) (hb : Below B w w') (hg : g < B) : Ar9 w' g x y z := by
  have hq := hb.block g hg
  have c : ∀ k, w'.cell? ⟨g, k, none⟩ = w.cell? ⟨g, k, none⟩ := fun k => by unfold World.cell?; rw [hq]
  exact ⟨Nat.lt_of_lt_of_le h.lt hb.size, (c 0).trans h.c0, (c 1).trans h.c1, (c 2).trans h.c2, (c 3).trans h.c3, (c 4).trans h.c4, (c 5).trans h.c5, (c 6).trans h.c6, (c 7).trans h.c7, (c 8).trans h.c8⟩
/-- How a method begins: its arguments in a block, a box for the result. -/
theorem open9 (w : World) (x y z : V) : ∃ w1 w2, Hid (w1 = w.alloc (.cells #[.bool x.t, .int .i64 x.n, st x.s, .bool y.t, .int .i64 y.n, st y.s, .bool z.t, .int .i64 z.n, st z.s] 53)) ∧ Hid (w2 = w1.alloc (.cells #[.bool false, .int .i64 0, .string ⟨#[]⟩] 27)) ∧ Hid (w1.heap.size = w.heap.size + 1) ∧ Hid (Below w.heap.size w w2) ∧ Ar9 w2 w.heap.size x y z ∧ Bx w2 (w.heap.size + 1) (.bool false) (.int .i64 0) (.string ⟨#[]⟩) := by
  refine ⟨_, _, rfl, rfl, by show _ = _; simp, ?_, ?_, ?_⟩
  · exact ((Below.refl _ _).alloc (Nat.le_refl _) _).alloc (by simp) _
  · exact (Ar9.made w 53 x y z).below ((Below.refl _ _).alloc (Nat.le_refl _) _) (by simp)
  · have h := Bx.made (w.alloc (.cells #[.bool x.t, .int .i64 x.n, st x.s, .bool y.t, .int .i64 y.n, st y.s, .bool z.t, .int .i64 z.n, st z.s] 53)) 27 (.bool false) (.int .i64 0) (.string ⟨#[]⟩)
    rw [show (w.alloc (.cells #[.bool x.t, .int .i64 x.n, st x.s, .bool y.t, .int .i64 y.n, st y.s, .bool z.t, .int .i64 z.n, st z.s] 53)).heap.size = w.heap.size + 1 by simp] at h
    exact h

set_option maxRecDepth 100000 in
set_option maxHeartbeats 1000000 in
theorem p_add (x y z : V) (w : World) : Calls Tryd.prog 31 #[ar9 x y z] w (RetV w (vv (num (w64 (x.n + y.n))))) := by
  obtain ⟨w1, w2, W1, W2, Z1, BB, A2, X2⟩ := open9 w x y z
  have XX := Lib.hid X2
  have AA := Lib.hid A2
  obtain ⟨-, c0, c1, c2, c3, c4, c5, c6, c7, c8⟩ := A2
  obtain ⟨e0, e1, e2, f0, f1, f2, hlt⟩ := X2
  obtain ⟨N, hN⟩ : ∃ N, N = w64 (x.n + y.n) := ⟨_, rfl⟩
  rw [← hN]
  have eN : IntKind.i64.wrap (x.n + y.n) = N := hN.symm
  rw [IntWalk.i64_left] at eN
  clear hN
  go_enter Tryd.func31, Tryd.ntmps31
  go_wp2_with (first | rw [← W1.out, ← W2.out, Z1.out] | rw [← W1.out, ← W2.out])
  refine (pnum_c N _).mono ?_
  rintro e w3 ⟨rfl, bq⟩
  have xq := XX.out.below bq XX.out.lt
  have BB := Lib.hid (BB.out.trans (bq.mono BB.out.size))
  have XX := Lib.hid xq
  clear e0 e1 e2 f0 f1 f2 hlt bq c0 c1 c2 c3 c4 c5 c6 c7 c8
  obtain ⟨e0, e1, e2, f0, f1, f2, hlt⟩ := xq
  go_wp2
  change bodyPost _ _ _ _ _ (put3 w3 (w.heap.size + 1) _ _ _)
  have s0 := fun v0 v1 v2 => (put3_box XX.out v0 v1 v2).c0
  have s1 := fun v0 v1 v2 => (put3_box XX.out v0 v1 v2).c1
  have s2 := fun v0 v1 v2 => (put3_box XX.out v0 v1 v2).c2
  refine bodyPost_ret (v := .agg #[.bool false, .int .i64 N, .string ⟨#[]⟩]) ?_ rfl ⟨rfl, BB.out.trans ((put3_below _ _ _ _ _).mono (by omega))⟩
  simp [results, Tryd.results31, go_sem, s0, s1, s2]

set_option maxRecDepth 100000 in
set_option maxHeartbeats 1000000 in
theorem p_sub (x y z : V) (w : World) : Calls Tryd.prog 32 #[ar9 x y z] w (RetV w (vv (num (w64 (x.n - y.n))))) := by
  obtain ⟨w1, w2, W1, W2, Z1, BB, A2, X2⟩ := open9 w x y z
  have XX := Lib.hid X2
  have AA := Lib.hid A2
  obtain ⟨-, c0, c1, c2, c3, c4, c5, c6, c7, c8⟩ := A2
  obtain ⟨e0, e1, e2, f0, f1, f2, hlt⟩ := X2
  obtain ⟨N, hN⟩ : ∃ N, N = w64 (x.n - y.n) := ⟨_, rfl⟩
  rw [← hN]
  have eN : IntKind.i64.wrap (x.n - y.n) = N := hN.symm
  rw [IntWalk.i64_left] at eN
  clear hN
  go_enter Tryd.func32, Tryd.ntmps32
  go_wp2_with (first | rw [← W1.out, ← W2.out, Z1.out] | rw [← W1.out, ← W2.out])
  refine (pnum_c N _).mono ?_
  rintro e w3 ⟨rfl, bq⟩
  have xq := XX.out.below bq XX.out.lt
  have BB := Lib.hid (BB.out.trans (bq.mono BB.out.size))
  have XX := Lib.hid xq
  clear e0 e1 e2 f0 f1 f2 hlt bq c0 c1 c2 c3 c4 c5 c6 c7 c8
  obtain ⟨e0, e1, e2, f0, f1, f2, hlt⟩ := xq
  go_wp2
  change bodyPost _ _ _ _ _ (put3 w3 (w.heap.size + 1) _ _ _)
  have s0 := fun v0 v1 v2 => (put3_box XX.out v0 v1 v2).c0
  have s1 := fun v0 v1 v2 => (put3_box XX.out v0 v1 v2).c1
  have s2 := fun v0 v1 v2 => (put3_box XX.out v0 v1 v2).c2
  refine bodyPost_ret (v := .agg #[.bool false, .int .i64 N, .string ⟨#[]⟩]) ?_ rfl ⟨rfl, BB.out.trans ((put3_below _ _ _ _ _).mono (by omega))⟩
  simp [results, Tryd.results32, go_sem, s0, s1, s2]

set_option maxRecDepth 100000 in
set_option maxHeartbeats 1000000 in
theorem p_mul (x y z : V) (w : World) : Calls Tryd.prog 33 #[ar9 x y z] w (RetV w (vv (num (w64 (x.n * y.n))))) := by
  obtain ⟨w1, w2, W1, W2, Z1, BB, A2, X2⟩ := open9 w x y z
  have XX := Lib.hid X2
  have AA := Lib.hid A2
  obtain ⟨-, c0, c1, c2, c3, c4, c5, c6, c7, c8⟩ := A2
  obtain ⟨e0, e1, e2, f0, f1, f2, hlt⟩ := X2
  obtain ⟨N, hN⟩ : ∃ N, N = w64 (x.n * y.n) := ⟨_, rfl⟩
  rw [← hN]
  have eN : IntKind.i64.wrap (x.n * y.n) = N := hN.symm
  rw [IntWalk.i64_left] at eN
  clear hN
  go_enter Tryd.func33, Tryd.ntmps33
  go_wp2_with (first | rw [← W1.out, ← W2.out, Z1.out] | rw [← W1.out, ← W2.out])
  refine (pnum_c N _).mono ?_
  rintro e w3 ⟨rfl, bq⟩
  have xq := XX.out.below bq XX.out.lt
  have BB := Lib.hid (BB.out.trans (bq.mono BB.out.size))
  have XX := Lib.hid xq
  clear e0 e1 e2 f0 f1 f2 hlt bq c0 c1 c2 c3 c4 c5 c6 c7 c8
  obtain ⟨e0, e1, e2, f0, f1, f2, hlt⟩ := xq
  go_wp2
  change bodyPost _ _ _ _ _ (put3 w3 (w.heap.size + 1) _ _ _)
  have s0 := fun v0 v1 v2 => (put3_box XX.out v0 v1 v2).c0
  have s1 := fun v0 v1 v2 => (put3_box XX.out v0 v1 v2).c1
  have s2 := fun v0 v1 v2 => (put3_box XX.out v0 v1 v2).c2
  refine bodyPost_ret (v := .agg #[.bool false, .int .i64 N, .string ⟨#[]⟩]) ?_ rfl ⟨rfl, BB.out.trans ((put3_below _ _ _ _ _).mono (by omega))⟩
  simp [results, Tryd.results33, go_sem, s0, s1, s2]

theorem quo_dv {a b : Int} (ha : I a) (h0 : b ≠ 0) : IntKind.i64.wrap (a.tdiv b) = (dv a b).1 := by
  unfold dv
  rw [if_neg h0]
  by_cases h1 : b = -1
  · subst h1
    rw [if_pos rfl, Int.tdiv_neg, Int.tdiv_one]
    rfl
  · rw [if_neg h1]
    refine w64_in ?_
    by_cases hb1 : b = 1
    · subst hb1; rw [Int.tdiv_one]; exact ha
    have h2 : (a.tdiv b).natAbs ≤ a.natAbs := by rw [Int.natAbs_tdiv]; exact Nat.div_le_self _ _
    have h3 : a = -9223372036854775808 → (a.tdiv b).natAbs ≤ 4611686018427387904 := fun e => by
      rw [Int.natAbs_tdiv, e]
      have h4 : 2 ≤ b.natAbs := by omega
      exact Nat.le_trans (Nat.div_le_div_left h4 (by omega)) (by decide)
    by_cases h5 : a = -9223372036854775808
    · have h6 := h3 h5
      unfold I
      omega
    · unfold I at ha ⊢
      omega
theorem rem_dv {a b : Int} (hb : I b) (h0 : b ≠ 0) : IntKind.i64.wrap (a.tmod b) = (dv a b).2 := by
  unfold dv
  rw [if_neg h0]
  by_cases h1 : b = -1
  · subst h1
    rw [if_pos rfl, Int.tmod_neg, Int.tmod_one]
    rfl
  · rw [if_neg h1]
    refine w64_in ?_
    have h3 : (a.tmod b).natAbs < b.natAbs := by rw [Int.natAbs_tmod]; exact Nat.mod_lt _ (by omega)
    unfold I at hb ⊢
    omega
theorem rem_dv2 (a : Int) {b : Int} (h0 : b ≠ 0) : a.tmod b = (dv a b).2 := by
  unfold dv
  rw [if_neg h0]
  by_cases h1 : b = -1
  · subst h1
    rw [if_pos rfl, Int.tmod_neg, Int.tmod_one]
  · rw [if_neg h1]
theorem dv_zero (a : Int) : dv a 0 = (0, 0) := by unfold dv; rw [if_pos rfl]
set_option maxRecDepth 100000 in
set_option maxHeartbeats 1000000 in
theorem p_div (x y z : V) (hx : I x.n) (w : World) : Calls Tryd.prog 34 #[ar9 x y z] w (RetV w (vv (num (dv x.n y.n).1))) := by
  obtain ⟨w1, w2, W1, W2, Z1, BB, A2, X2⟩ := open9 w x y z
  have XX := Lib.hid X2
  have AA := Lib.hid A2
  obtain ⟨-, c0, c1, c2, c3, c4, c5, c6, c7, c8⟩ := A2
  obtain ⟨e0, e1, e2, f0, f1, f2, hlt⟩ := X2
  by_cases h0 : y.n = 0
  · rw [h0, dv_zero]
    have d0 : (y.n == 0) = true := beq_iff_eq.2 h0
    clear h0
    go_enter Tryd.func34, Tryd.ntmps34
    go_wp2_with (first | rw [← W1.out, ← W2.out, Z1.out] | rw [← W1.out, ← W2.out])
    refine (pnum_c 0 _).mono ?_
    rintro e w3 ⟨rfl, bq⟩
    have xq := XX.out.below bq XX.out.lt
    have BB := Lib.hid (BB.out.trans (bq.mono BB.out.size))
    have XX := Lib.hid xq
    clear e0 e1 e2 f0 f1 f2 hlt bq c0 c1 c2 c3 c4 c5 c6 c7 c8
    obtain ⟨e0, e1, e2, f0, f1, f2, hlt⟩ := xq
    go_wp2
    change bodyPost _ _ _ _ _ (put3 w3 (w.heap.size + 1) _ _ _)
    have s0 := fun v0 v1 v2 => (put3_box XX.out v0 v1 v2).c0
    have s1 := fun v0 v1 v2 => (put3_box XX.out v0 v1 v2).c1
    have s2 := fun v0 v1 v2 => (put3_box XX.out v0 v1 v2).c2
    refine bodyPost_ret (v := .agg #[.bool false, .int .i64 0, .string ⟨#[]⟩]) ?_ rfl ⟨rfl, BB.out.trans ((put3_below _ _ _ _ _).mono (by omega))⟩
    simp [results, Tryd.results34, go_sem, s0, s1, s2]
  · obtain ⟨N, hN⟩ : ∃ N, N = (dv x.n y.n).1 := ⟨_, rfl⟩
    rw [← hN]
    have d0 : (y.n == 0) = false := beq_eq_false_iff_ne.2 h0
    have eN := quo_dv hx h0
    rw [← hN, IntWalk.i64_left] at eN
    clear hN
    go_enter Tryd.func34, Tryd.ntmps34
    go_wp2_with (first | rw [← W1.out, ← W2.out, Z1.out] | rw [← W1.out, ← W2.out])
    refine (pnum_c N _).mono ?_
    rintro e w3 ⟨rfl, bq⟩
    have xq := XX.out.below bq XX.out.lt
    have BB := Lib.hid (BB.out.trans (bq.mono BB.out.size))
    have XX := Lib.hid xq
    clear e0 e1 e2 f0 f1 f2 hlt bq c0 c1 c2 c3 c4 c5 c6 c7 c8
    obtain ⟨e0, e1, e2, f0, f1, f2, hlt⟩ := xq
    go_wp2
    change bodyPost _ _ _ _ _ (put3 w3 (w.heap.size + 1) _ _ _)
    have s0 := fun v0 v1 v2 => (put3_box XX.out v0 v1 v2).c0
    have s1 := fun v0 v1 v2 => (put3_box XX.out v0 v1 v2).c1
    have s2 := fun v0 v1 v2 => (put3_box XX.out v0 v1 v2).c2
    refine bodyPost_ret (v := .agg #[.bool false, .int .i64 N, .string ⟨#[]⟩]) ?_ rfl ⟨rfl, BB.out.trans ((put3_below _ _ _ _ _).mono (by omega))⟩
    simp [results, Tryd.results34, go_sem, s0, s1, s2]

set_option maxRecDepth 100000 in
set_option maxHeartbeats 1000000 in
theorem p_mod (x y z : V) (hy : I y.n) (w : World) : Calls Tryd.prog 35 #[ar9 x y z] w (RetV w (vv (num (dv x.n y.n).2))) := by
  obtain ⟨w1, w2, W1, W2, Z1, BB, A2, X2⟩ := open9 w x y z
  have XX := Lib.hid X2
  have AA := Lib.hid A2
  obtain ⟨-, c0, c1, c2, c3, c4, c5, c6, c7, c8⟩ := A2
  obtain ⟨e0, e1, e2, f0, f1, f2, hlt⟩ := X2
  by_cases h0 : y.n = 0
  · rw [h0, dv_zero]
    have d0 : (y.n == 0) = true := beq_iff_eq.2 h0
    clear h0
    go_enter Tryd.func35, Tryd.ntmps35
    go_wp2_with (first | rw [← W1.out, ← W2.out, Z1.out] | rw [← W1.out, ← W2.out])
    refine (pnum_c 0 _).mono ?_
    rintro e w3 ⟨rfl, bq⟩
    have xq := XX.out.below bq XX.out.lt
    have BB := Lib.hid (BB.out.trans (bq.mono BB.out.size))
    have XX := Lib.hid xq
    clear e0 e1 e2 f0 f1 f2 hlt bq c0 c1 c2 c3 c4 c5 c6 c7 c8
    obtain ⟨e0, e1, e2, f0, f1, f2, hlt⟩ := xq
    go_wp2
    change bodyPost _ _ _ _ _ (put3 w3 (w.heap.size + 1) _ _ _)
    have s0 := fun v0 v1 v2 => (put3_box XX.out v0 v1 v2).c0
    have s1 := fun v0 v1 v2 => (put3_box XX.out v0 v1 v2).c1
    have s2 := fun v0 v1 v2 => (put3_box XX.out v0 v1 v2).c2
    refine bodyPost_ret (v := .agg #[.bool false, .int .i64 0, .string ⟨#[]⟩]) ?_ rfl ⟨rfl, BB.out.trans ((put3_below _ _ _ _ _).mono (by omega))⟩
    simp [results, Tryd.results35, go_sem, s0, s1, s2]
  · obtain ⟨N, hN⟩ : ∃ N, N = (dv x.n y.n).2 := ⟨_, rfl⟩
    rw [← hN]
    have d0 : (y.n == 0) = false := beq_eq_false_iff_ne.2 h0
    have eN := rem_dv (a := x.n) hy h0
    rw [← hN, IntWalk.i64_left] at eN
    have eM : x.n.tmod y.n = N := by rw [hN]; exact rem_dv2 _ h0
    rw [eM] at eN
    clear hN
    go_enter Tryd.func35, Tryd.ntmps35
    go_wp2_with (first | rw [← W1.out, ← W2.out, Z1.out] | rw [← W1.out, ← W2.out])
    refine (pnum_c N _).mono ?_
    rintro e w3 ⟨rfl, bq⟩
    have xq := XX.out.below bq XX.out.lt
    have BB := Lib.hid (BB.out.trans (bq.mono BB.out.size))
    have XX := Lib.hid xq
    clear e0 e1 e2 f0 f1 f2 hlt bq c0 c1 c2 c3 c4 c5 c6 c7 c8
    obtain ⟨e0, e1, e2, f0, f1, f2, hlt⟩ := xq
    go_wp2
    change bodyPost _ _ _ _ _ (put3 w3 (w.heap.size + 1) _ _ _)
    have s0 := fun v0 v1 v2 => (put3_box XX.out v0 v1 v2).c0
    have s1 := fun v0 v1 v2 => (put3_box XX.out v0 v1 v2).c1
    have s2 := fun v0 v1 v2 => (put3_box XX.out v0 v1 v2).c2
    refine bodyPost_ret (v := .agg #[.bool false, .int .i64 N, .string ⟨#[]⟩]) ?_ rfl ⟨rfl, BB.out.trans ((put3_below _ _ _ _ _).mono (by omega))⟩
    simp [results, Tryd.results35, go_sem, s0, s1, s2]

set_option maxRecDepth 100000 in
set_option maxHeartbeats 1000000 in
theorem p_join (x y z : V) (hx : x.s.length + y.s.length ≤ 1000000) (w : World) : Calls Tryd.prog 36 #[ar9 x y z] w (RetV w (vv (txt (x.s ++ y.s)))) := by
  obtain ⟨w1, w2, W1, W2, Z1, BB, A2, X2⟩ := open9 w x y z
  have XX := Lib.hid X2
  have AA := Lib.hid A2
  obtain ⟨-, c0, c1, c2, c3, c4, c5, c6, c7, c8⟩ := A2
  obtain ⟨e0, e1, e2, f0, f1, f2, hlt⟩ := X2
  go_enter Tryd.func36, Tryd.ntmps36
  go_wp2_with (first | rw [← W1.out, ← W2.out, Z1.out] | rw [← W1.out, ← W2.out])
  refine (ptext_c (x.s ++ y.s) (by rw [List.length_append]; exact hx) _).mono ?_
  rintro e w3 ⟨rfl, bq⟩
  have xq := XX.out.below bq XX.out.lt
  have BB := Lib.hid (BB.out.trans (bq.mono BB.out.size))
  have XX := Lib.hid xq
  clear e0 e1 e2 f0 f1 f2 hlt bq c0 c1 c2 c3 c4 c5 c6 c7 c8
  obtain ⟨e0, e1, e2, f0, f1, f2, hlt⟩ := xq
  go_wp2
  change bodyPost _ _ _ _ _ (put3 w3 (w.heap.size + 1) _ _ _)
  have s0 := fun v0 v1 v2 => (put3_box XX.out v0 v1 v2).c0
  have s1 := fun v0 v1 v2 => (put3_box XX.out v0 v1 v2).c1
  have s2 := fun v0 v1 v2 => (put3_box XX.out v0 v1 v2).c2
  refine bodyPost_ret (v := .agg #[.bool true, .int .i64 0, .string ⟨((x.s ++ y.s).take 1000).toArray⟩]) ?_ rfl ⟨rfl, BB.out.trans ((put3_below _ _ _ _ _).mono (by omega))⟩
  simp [results, Tryd.results36, go_sem, s0, s1, s2]

set_option maxRecDepth 100000 in
set_option maxHeartbeats 1000000 in
theorem p_length (x y z : V) (w : World) : Calls Tryd.prog 37 #[ar9 x y z] w (RetV w (vv (num x.s.length))) := by
  obtain ⟨w1, w2, W1, W2, Z1, BB, A2, X2⟩ := open9 w x y z
  have XX := Lib.hid X2
  have AA := Lib.hid A2
  obtain ⟨-, c0, c1, c2, c3, c4, c5, c6, c7, c8⟩ := A2
  obtain ⟨e0, e1, e2, f0, f1, f2, hlt⟩ := X2
  go_enter Tryd.func37, Tryd.ntmps37
  go_wp2_with (first | rw [← W1.out, ← W2.out, Z1.out] | rw [← W1.out, ← W2.out])
  refine (pnum_c (x.s.length : Int) _).mono ?_
  rintro e w3 ⟨rfl, bq⟩
  have xq := XX.out.below bq XX.out.lt
  have BB := Lib.hid (BB.out.trans (bq.mono BB.out.size))
  have XX := Lib.hid xq
  clear e0 e1 e2 f0 f1 f2 hlt bq c0 c1 c2 c3 c4 c5 c6 c7 c8
  obtain ⟨e0, e1, e2, f0, f1, f2, hlt⟩ := xq
  go_wp2
  change bodyPost _ _ _ _ _ (put3 w3 (w.heap.size + 1) _ _ _)
  have s0 := fun v0 v1 v2 => (put3_box XX.out v0 v1 v2).c0
  have s1 := fun v0 v1 v2 => (put3_box XX.out v0 v1 v2).c1
  have s2 := fun v0 v1 v2 => (put3_box XX.out v0 v1 v2).c2
  refine bodyPost_ret (v := .agg #[.bool false, .int .i64 (x.s.length : Int), .string ⟨#[]⟩]) ?_ rfl ⟨rfl, BB.out.trans ((put3_below _ _ _ _ _).mono (by omega))⟩
  simp [results, Tryd.results37, go_sem, s0, s1, s2]

set_option maxRecDepth 100000 in
set_option maxHeartbeats 1000000 in
theorem p_eq (x y z : V) (hx : isV x = true) (hy : isV y = true) (w : World) : Calls Tryd.prog 41 #[ar9 x y z] w (RetV w (vv (yes (cmp x y == 0)))) := by
  obtain ⟨w1, w2, W1, W2, Z1, BB, A2, X2⟩ := open9 w x y z
  have XX := Lib.hid X2
  have AA := Lib.hid A2
  obtain ⟨-, c0, c1, c2, c3, c4, c5, c6, c7, c8⟩ := A2
  obtain ⟨e0, e1, e2, f0, f1, f2, hlt⟩ := X2
  obtain ⟨C, hC⟩ : ∃ C, C = cmp x y := ⟨_, rfl⟩
  have hc := fun W => pcompare_c x y W hx hy
  rw [← hC] at hc
  rw [← hC]
  have Hc := Lib.hid hc
  obtain ⟨Q, hQ⟩ : ∃ Q, Q = (C == 0) := ⟨_, rfl⟩
  rw [← hQ]
  have d := hQ.symm
  clear hc hC hQ
  go_enter Tryd.func41, Tryd.ntmps41
  go_wp2_with (first | rw [← W1.out, ← W2.out, Z1.out] | rw [← W1.out, ← W2.out])
  refine (Hc.out _).mono ?_
  rintro e w3 ⟨rfl, bq⟩
  have xq := XX.out.below bq XX.out.lt
  have BB := Lib.hid (BB.out.trans (bq.mono BB.out.size))
  have XX := Lib.hid xq
  have AA := Lib.hid (AA.out.below bq AA.out.lt)
  clear c0 c1 c2 c3 c4 c5 c6 c7 c8 e0 e1 e2 f0 f1 f2 hlt bq
  obtain ⟨-, c0, c1, c2, c3, c4, c5, c6, c7, c8⟩ := AA.out
  obtain ⟨e0, e1, e2, f0, f1, f2, hlt⟩ := xq
  go_wp2_with (fail)
  refine (truth_c Q _).mono ?_
  rintro e w4 ⟨rfl, bq⟩
  have xq := XX.out.below bq XX.out.lt
  have BB := Lib.hid (BB.out.trans (bq.mono BB.out.size))
  have XX := Lib.hid xq
  clear e0 e1 e2 f0 f1 f2 hlt bq c0 c1 c2 c3 c4 c5 c6 c7 c8
  obtain ⟨e0, e1, e2, f0, f1, f2, hlt⟩ := xq
  go_wp2
  change bodyPost _ _ _ _ _ (put3 w4 (w.heap.size + 1) _ _ _)
  have s0 := fun v0 v1 v2 => (put3_box XX.out v0 v1 v2).c0
  have s1 := fun v0 v1 v2 => (put3_box XX.out v0 v1 v2).c1
  have s2 := fun v0 v1 v2 => (put3_box XX.out v0 v1 v2).c2
  refine bodyPost_ret (v := vv (yes Q)) ?_ rfl ⟨rfl, BB.out.trans ((put3_below _ _ _ _ _).mono (by omega))⟩
  simp [results, Tryd.results41, go_sem, s0, s1, s2]

set_option maxRecDepth 100000 in
set_option maxHeartbeats 1000000 in
theorem p_less (x y z : V) (hx : isV x = true) (hy : isV y = true) (w : World) : Calls Tryd.prog 42 #[ar9 x y z] w (RetV w (vv (yes (decide (cmp x y < 0))))) := by
  obtain ⟨w1, w2, W1, W2, Z1, BB, A2, X2⟩ := open9 w x y z
  have XX := Lib.hid X2
  have AA := Lib.hid A2
  obtain ⟨-, c0, c1, c2, c3, c4, c5, c6, c7, c8⟩ := A2
  obtain ⟨e0, e1, e2, f0, f1, f2, hlt⟩ := X2
  obtain ⟨C, hC⟩ : ∃ C, C = cmp x y := ⟨_, rfl⟩
  have hc := fun W => pcompare_c x y W hx hy
  rw [← hC] at hc
  rw [← hC]
  have Hc := Lib.hid hc
  obtain ⟨Q, hQ⟩ : ∃ Q, Q = (decide (C < 0)) := ⟨_, rfl⟩
  rw [← hQ]
  have d := hQ.symm
  clear hc hC hQ
  go_enter Tryd.func42, Tryd.ntmps42
  go_wp2_with (first | rw [← W1.out, ← W2.out, Z1.out] | rw [← W1.out, ← W2.out])
  refine (Hc.out _).mono ?_
  rintro e w3 ⟨rfl, bq⟩
  have xq := XX.out.below bq XX.out.lt
  have BB := Lib.hid (BB.out.trans (bq.mono BB.out.size))
  have XX := Lib.hid xq
  have AA := Lib.hid (AA.out.below bq AA.out.lt)
  clear c0 c1 c2 c3 c4 c5 c6 c7 c8 e0 e1 e2 f0 f1 f2 hlt bq
  obtain ⟨-, c0, c1, c2, c3, c4, c5, c6, c7, c8⟩ := AA.out
  obtain ⟨e0, e1, e2, f0, f1, f2, hlt⟩ := xq
  go_wp2_with (fail)
  refine (truth_c Q _).mono ?_
  rintro e w4 ⟨rfl, bq⟩
  have xq := XX.out.below bq XX.out.lt
  have BB := Lib.hid (BB.out.trans (bq.mono BB.out.size))
  have XX := Lib.hid xq
  clear e0 e1 e2 f0 f1 f2 hlt bq c0 c1 c2 c3 c4 c5 c6 c7 c8
  obtain ⟨e0, e1, e2, f0, f1, f2, hlt⟩ := xq
  go_wp2
  change bodyPost _ _ _ _ _ (put3 w4 (w.heap.size + 1) _ _ _)
  have s0 := fun v0 v1 v2 => (put3_box XX.out v0 v1 v2).c0
  have s1 := fun v0 v1 v2 => (put3_box XX.out v0 v1 v2).c1
  have s2 := fun v0 v1 v2 => (put3_box XX.out v0 v1 v2).c2
  refine bodyPost_ret (v := vv (yes Q)) ?_ rfl ⟨rfl, BB.out.trans ((put3_below _ _ _ _ _).mono (by omega))⟩
  simp [results, Tryd.results42, go_sem, s0, s1, s2]

set_option maxRecDepth 100000 in
set_option maxHeartbeats 1000000 in
theorem p_not (x y z : V) (w : World) : Calls Tryd.prog 43 #[ar9 x y z] w (RetV w (vv (yes (x.n == 0)))) := by
  obtain ⟨w1, w2, W1, W2, Z1, BB, A2, X2⟩ := open9 w x y z
  have XX := Lib.hid X2
  have AA := Lib.hid A2
  obtain ⟨-, c0, c1, c2, c3, c4, c5, c6, c7, c8⟩ := A2
  obtain ⟨e0, e1, e2, f0, f1, f2, hlt⟩ := X2
  obtain ⟨Q, hQ⟩ : ∃ Q, Q = (x.n == 0) := ⟨_, rfl⟩
  rw [← hQ]
  have d := hQ.symm
  clear hQ
  go_enter Tryd.func43, Tryd.ntmps43
  go_wp2_with (first | rw [← W1.out, ← W2.out, Z1.out] | rw [← W1.out, ← W2.out])
  refine (truth_c Q _).mono ?_
  rintro e w3 ⟨rfl, bq⟩
  have xq := XX.out.below bq XX.out.lt
  have BB := Lib.hid (BB.out.trans (bq.mono BB.out.size))
  have XX := Lib.hid xq
  clear e0 e1 e2 f0 f1 f2 hlt bq c0 c1 c2 c3 c4 c5 c6 c7 c8
  obtain ⟨e0, e1, e2, f0, f1, f2, hlt⟩ := xq
  go_wp2
  change bodyPost _ _ _ _ _ (put3 w3 (w.heap.size + 1) _ _ _)
  have s0 := fun v0 v1 v2 => (put3_box XX.out v0 v1 v2).c0
  have s1 := fun v0 v1 v2 => (put3_box XX.out v0 v1 v2).c1
  have s2 := fun v0 v1 v2 => (put3_box XX.out v0 v1 v2).c2
  refine bodyPost_ret (v := vv (yes Q)) ?_ rfl ⟨rfl, BB.out.trans ((put3_below _ _ _ _ _).mono (by omega))⟩
  simp [results, Tryd.results43, go_sem, s0, s1, s2]

set_option maxRecDepth 100000 in
set_option maxHeartbeats 1000000 in
theorem p_choose (x y z : V) (w : World) : Calls Tryd.prog 44 #[ar9 x y z] w (RetV w (vv (if x.n ≠ 0 then y else z))) := by
  obtain ⟨w1, w2, W1, W2, Z1, BB, A2, X2⟩ := open9 w x y z
  have XX := Lib.hid X2
  have AA := Lib.hid A2
  obtain ⟨-, c0, c1, c2, c3, c4, c5, c6, c7, c8⟩ := A2
  obtain ⟨e0, e1, e2, f0, f1, f2, hlt⟩ := X2
  by_cases h0 : x.n = 0
  · rw [if_neg (by simpa using h0)]
    have d0 : (x.n == 0) = true := beq_iff_eq.2 h0
    have d1 : (x.n != 0) = false := by simp [h0]
    clear h0
    go_enter Tryd.func44, Tryd.ntmps44
    go_wp2_with (first | rw [← W1.out, ← W2.out, Z1.out] | rw [← W1.out, ← W2.out])
    change bodyPost _ _ _ _ _ (put3 w2 (w.heap.size + 1) _ _ _)
    have s0 := fun v0 v1 v2 => (put3_box XX.out v0 v1 v2).c0
    have s1 := fun v0 v1 v2 => (put3_box XX.out v0 v1 v2).c1
    have s2 := fun v0 v1 v2 => (put3_box XX.out v0 v1 v2).c2
    refine bodyPost_ret (v := vv z) ?_ rfl ⟨rfl, BB.out.trans ((put3_below _ _ _ _ _).mono (by omega))⟩
    simp [results, Tryd.results44, go_sem, s0, s1, s2]
  · rw [if_pos h0]
    have d0 : (x.n == 0) = false := beq_eq_false_iff_ne.2 h0
    have d1 : (x.n != 0) = true := by simp [h0]
    clear h0
    go_enter Tryd.func44, Tryd.ntmps44
    go_wp2_with (first | rw [← W1.out, ← W2.out, Z1.out] | rw [← W1.out, ← W2.out])
    change bodyPost _ _ _ _ _ (put3 w2 (w.heap.size + 1) _ _ _)
    have s0 := fun v0 v1 v2 => (put3_box XX.out v0 v1 v2).c0
    have s1 := fun v0 v1 v2 => (put3_box XX.out v0 v1 v2).c1
    have s2 := fun v0 v1 v2 => (put3_box XX.out v0 v1 v2).c2
    refine bodyPost_ret (v := vv y) ?_ rfl ⟨rfl, BB.out.trans ((put3_below _ _ _ _ _).mono (by omega))⟩
    simp [results, Tryd.results44, go_sem, s0, s1, s2]

end Go.Proofs.YtkkjgiejnblopaaDoor
