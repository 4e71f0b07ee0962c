/-
  The walk of the law ValueOrder.
-/
import Derived.Test.YtkkjgiejnblopaaDoorVE
import Derived.Test.YtkkjgiejnblopaaDoorRg
namespace Go.Proofs.YtkkjgiejnblopaaDoor
open Go.RowKit Vl

theorem do_15 {x y : V} (hx : isV x = true) (hy : isV y = true) : doV 15 [x, y] = if x.t = y.t then (yes (decide (cmp x y < 0)), 0) else (v0, 11) := by
  have hall : ([x, y] : List V).all isV = true := by simp [hx, hy]
  have hres : (res 15 (([x, y] : List V).map (·.t))).2 = if x.t = y.t then 0 else 11 := by
    show (res 15 [x.t, y.t]).2 = _
    cases x.t <;> cases y.t <;> decide
  unfold doV
  rw [if_pos hall, hres]
  by_cases ht : x.t = y.t
  · rw [if_pos ht, if_pos rfl, if_pos ht, if_pos (by omega)]; rfl
  · rw [if_neg ht, if_neg (by omega), if_neg ht]

set_option maxRecDepth 100000 in
set_option maxHeartbeats 4000000 in
theorem valueOrder_walk' (S : Vls) (x y z : V) (hx : I x.n) (hy : I y.n) (hz : I z.n) (w : World) (hG : Gl w) :
    Calls Tryd.prog 7 #[.agg #[.bool x.t, .int .i64 x.n, st x.s, .bool y.t, .int .i64 y.n, st y.s, .bool z.t, .int .i64 z.n, st z.s]] w fun e w' => e = .returned (.bool true) ∧ Below w.heap.size w w' := by
  obtain ⟨w1, hw1⟩ : ∃ w1, w1 = w.alloc (.cells #[.bool x.t, .int .i64 x.n, st x.s, .bool y.t, .int .i64 y.n, st y.s, .bool z.t, .int .i64 z.n, st z.s] 41) := ⟨_, rfl⟩
  have b1 : Below w.heap.size w w1 := by rw [hw1]; exact (Below.refl _ _).alloc (Nat.le_refl _) _
  have A1 := Lib.hid (show Ar9 w1 w.heap.size x y z by rw [hw1]; exact Ar9.made _ _ _ _ _)
  have W1 := Lib.hid hw1; have B1 := Lib.hid b1; have HS := Lib.hid S; have HG := Lib.hid hG
  clear hw1 b1 S hG
  obtain ⟨c0, c1, c2, c3, c4, c5, c6, c7, c8⟩ := (show _ ∧ _ ∧ _ ∧ _ ∧ _ ∧ _ ∧ _ ∧ _ ∧ _ from ⟨A1.out.c0, A1.out.c1, A1.out.c2, A1.out.c3, A1.out.c4, A1.out.c5, A1.out.c6, A1.out.c7, A1.out.c8⟩)
  have HIx := Lib.hid (is_c x); have HIy := Lib.hid (is_c y); have HIz := Lib.hid (is_c z)
  obtain ⟨vx, hvx⟩ : ∃ b, b = isV x := ⟨_, rfl⟩
  obtain ⟨vy, hvy⟩ : ∃ b, b = isV y := ⟨_, rfl⟩
  obtain ⟨vz, hvz⟩ : ∃ b, b = isV z := ⟨_, rfl⟩
  rw [← hvx] at HIx; rw [← hvy] at HIy; rw [← hvz] at HIz
  have Hvx := Lib.hid hvx.symm; have Hvy := Lib.hid hvy.symm; have Hvz := Lib.hid hvz.symm
  clear hvx hvy hvz
  go_enter Tryd.func7, Tryd.ntmps7
  go_wp2_with (rw [← W1.out])
  refine (HIx.out w1).mono ?_
  rintro e w2 ⟨rfl, bq⟩
  have A2 := Lib.hid (A1.out.below bq A1.out.lt)
  have B2 := Lib.hid (B1.out.trans (bq.mono B1.out.size))
  clear bq c0 c1 c2 c3 c4 c5 c6 c7 c8
  obtain ⟨c0, c1, c2, c3, c4, c5, c6, c7, c8⟩ := (show _ ∧ _ ∧ _ ∧ _ ∧ _ ∧ _ ∧ _ ∧ _ ∧ _ from ⟨A2.out.c0, A2.out.c1, A2.out.c2, A2.out.c3, A2.out.c4, A2.out.c5, A2.out.c6, A2.out.c7, A2.out.c8⟩)
  cases vx with
  | false =>
    go_wp2_with fail
    refine (alive13_c HS.out _ (HG.out.below' B2.out)).mono ?_
    rintro e wf ⟨rfl, bf⟩
    go_wp2
    go_ret
    exact ⟨rfl, B2.out.trans (bf.mono B2.out.size)⟩
  | true =>
    go_wp2_with (fail)
    refine (HIy.out w2).mono ?_
    rintro e w3 ⟨rfl, bq⟩
    have A3 := Lib.hid (A2.out.below bq A2.out.lt)
    have B3 := Lib.hid (B2.out.trans (bq.mono B2.out.size))
    clear bq c0 c1 c2 c3 c4 c5 c6 c7 c8
    obtain ⟨c0, c1, c2, c3, c4, c5, c6, c7, c8⟩ := (show _ ∧ _ ∧ _ ∧ _ ∧ _ ∧ _ ∧ _ ∧ _ ∧ _ from ⟨A3.out.c0, A3.out.c1, A3.out.c2, A3.out.c3, A3.out.c4, A3.out.c5, A3.out.c6, A3.out.c7, A3.out.c8⟩)
    cases vy with
    | false =>
      go_wp2_with fail
      refine (alive13_c HS.out _ (HG.out.below' B3.out)).mono ?_
      rintro e wf ⟨rfl, bf⟩
      go_wp2
      go_ret
      exact ⟨rfl, B3.out.trans (bf.mono B3.out.size)⟩
    | true =>
      go_wp2_with (fail)
      refine (HIz.out w3).mono ?_
      rintro e w4 ⟨rfl, bq⟩
      have A4 := Lib.hid (A3.out.below bq A3.out.lt)
      have B4 := Lib.hid (B3.out.trans (bq.mono B3.out.size))
      clear bq c0 c1 c2 c3 c4 c5 c6 c7 c8
      obtain ⟨c0, c1, c2, c3, c4, c5, c6, c7, c8⟩ := (show _ ∧ _ ∧ _ ∧ _ ∧ _ ∧ _ ∧ _ ∧ _ ∧ _ from ⟨A4.out.c0, A4.out.c1, A4.out.c2, A4.out.c3, A4.out.c4, A4.out.c5, A4.out.c6, A4.out.c7, A4.out.c8⟩)
      cases vz with
      | false =>
        go_wp2_with fail
        refine (alive13_c HS.out _ (HG.out.below' B4.out)).mono ?_
        rintro e wf ⟨rfl, bf⟩
        go_wp2
        go_ret
        exact ⟨rfl, B4.out.trans (bf.mono B4.out.size)⟩
      | true =>
        have Hxy := Lib.hid (fun W => HS.out.compare x y W Hvx.out Hvy.out hx hy)
        have Hyz := Lib.hid (fun W => HS.out.compare y z W Hvy.out Hvz.out hy hz)
        have Hxz := Lib.hid (fun W => HS.out.compare x z W Hvx.out Hvz.out hx hz)
        have Hyx := Lib.hid (fun W => HS.out.compare y x W Hvy.out Hvx.out hy hx)
        rw [cmp_neg x y] at Hyx
        obtain ⟨C1, hC1⟩ : ∃ c, c = cmp x y := ⟨_, rfl⟩
        obtain ⟨C2, hC2⟩ : ∃ c, c = cmp y z := ⟨_, rfl⟩
        obtain ⟨C3, hC3⟩ : ∃ c, c = cmp x z := ⟨_, rfl⟩
        rw [← hC1] at Hxy Hyx
        rw [← hC2] at Hyz
        rw [← hC3] at Hxz
        have t1 := cmp_three x y
        rw [← hC1] at t1
        have t2 : C1 < 0 → C2 < 0 → C3 < 0 := fun h k => by rw [hC3]; rw [hC1] at h; rw [hC2] at k; exact cmp_trans h k
        have t3 : C1 = 0 ↔ x = y := by rw [hC1]; exact cmp_zero x y
        have T1 := Lib.hid t1; have T2 := Lib.hid t2; have T3 := Lib.hid t3; have HC1 := Lib.hid hC1
        clear t1 t2 t3 hC1 hC2 hC3
        clear HIx HIy HIz
        go_wp2_with fail
        refine wp_region_schedG (w4.heap.size) [(false, 0), (false, 1), (false, 2), (false, 3), (false, 5), (false, 6), (false, 7), (false, 8), (false, 10), (false, 11), (false, 12), (false, 13), (true, 4), (true, 9), (true, 14), (false, 15), (false, 16), (false, 17)] (by kernel_rfl) (by kernel_rfl) (by kernel_rfl) (by kernel_rfl) (fun _ _ d _ _ h => by cases d <;> exact h) ?_
        refine wpG_read (o := { dst := some 25, op := Go.Op.indexAddr 41 (Go.Operand.tmp 1) (Go.Operand.const (Go.Value.int Go.IntKind.i64 0)), type := 0, pos := "law.go:116", after := #[], guard := none }) (v := .pointer (some ⟨w.heap.size, 0, none⟩)) rfl (by rfl) ?_ ?_
        · intro w' hg; go_simp
        try simp only [Act.put, List.setIfInBounds_toArray, List.set_cons_zero, List.set_cons_succ]
        refine wpG_read (o := { dst := some 26, op := Go.Op.load 27 (Go.Operand.tmp 25), type := 27, pos := "law.go:116", after := #[{ on := 0, ground := Go.Ground.data }], guard := none }) (v := .agg #[.bool x.t, .int .i64 x.n, .string ⟨x.s.toArray⟩]) rfl (by rfl) ?_ ?_
        · intro w' hg; have q0 := (hg.cell (p := ⟨w.heap.size, 0, none⟩) A4.out.lt).trans c0; have q1 := (hg.cell (p := ⟨w.heap.size, 1, none⟩) A4.out.lt).trans c1; have q2 := (hg.cell (p := ⟨w.heap.size, 2, none⟩) A4.out.lt).trans c2; go_simp
        try simp only [Act.put, List.setIfInBounds_toArray, List.set_cons_zero, List.set_cons_succ]
        refine wpG_read (o := { dst := some 27, op := Go.Op.indexAddr 41 (Go.Operand.tmp 1) (Go.Operand.const (Go.Value.int Go.IntKind.i64 1)), type := 0, pos := "law.go:116", after := #[], guard := none }) (v := .pointer (some ⟨w.heap.size, 3, none⟩)) rfl (by rfl) ?_ ?_
        · intro w' hg; go_simp
        try simp only [Act.put, List.setIfInBounds_toArray, List.set_cons_zero, List.set_cons_succ]
        refine wpG_read (o := { dst := some 28, op := Go.Op.load 27 (Go.Operand.tmp 27), type := 27, pos := "law.go:116", after := #[{ on := 2, ground := Go.Ground.data }], guard := none }) (v := .agg #[.bool y.t, .int .i64 y.n, .string ⟨y.s.toArray⟩]) rfl (by rfl) ?_ ?_
        · intro w' hg; have q0 := (hg.cell (p := ⟨w.heap.size, 3, none⟩) A4.out.lt).trans c3; have q1 := (hg.cell (p := ⟨w.heap.size, 4, none⟩) A4.out.lt).trans c4; have q2 := (hg.cell (p := ⟨w.heap.size, 5, none⟩) A4.out.lt).trans c5; go_simp
        try simp only [Act.put, List.setIfInBounds_toArray, List.set_cons_zero, List.set_cons_succ]
        refine wpG_read (o := { dst := some 30, op := Go.Op.indexAddr 41 (Go.Operand.tmp 1) (Go.Operand.const (Go.Value.int Go.IntKind.i64 1)), type := 0, pos := "law.go:116", after := #[], guard := none }) (v := .pointer (some ⟨w.heap.size, 3, none⟩)) rfl (by rfl) ?_ ?_
        · intro w' hg; go_simp
        try simp only [Act.put, List.setIfInBounds_toArray, List.set_cons_zero, List.set_cons_succ]
        refine wpG_read (o := { dst := some 31, op := Go.Op.load 27 (Go.Operand.tmp 30), type := 27, pos := "law.go:116", after := #[{ on := 5, ground := Go.Ground.data }], guard := none }) (v := .agg #[.bool y.t, .int .i64 y.n, .string ⟨y.s.toArray⟩]) rfl (by rfl) ?_ ?_
        · intro w' hg; have q0 := (hg.cell (p := ⟨w.heap.size, 3, none⟩) A4.out.lt).trans c3; have q1 := (hg.cell (p := ⟨w.heap.size, 4, none⟩) A4.out.lt).trans c4; have q2 := (hg.cell (p := ⟨w.heap.size, 5, none⟩) A4.out.lt).trans c5; go_simp
        try simp only [Act.put, List.setIfInBounds_toArray, List.set_cons_zero, List.set_cons_succ]
        refine wpG_read (o := { dst := some 32, op := Go.Op.indexAddr 41 (Go.Operand.tmp 1) (Go.Operand.const (Go.Value.int Go.IntKind.i64 2)), type := 0, pos := "law.go:116", after := #[], guard := none }) (v := .pointer (some ⟨w.heap.size, 6, none⟩)) rfl (by rfl) ?_ ?_
        · intro w' hg; go_simp
        try simp only [Act.put, List.setIfInBounds_toArray, List.set_cons_zero, List.set_cons_succ]
        refine wpG_read (o := { dst := some 33, op := Go.Op.load 27 (Go.Operand.tmp 32), type := 27, pos := "law.go:116", after := #[{ on := 7, ground := Go.Ground.data }], guard := none }) (v := .agg #[.bool z.t, .int .i64 z.n, .string ⟨z.s.toArray⟩]) rfl (by rfl) ?_ ?_
        · intro w' hg; have q0 := (hg.cell (p := ⟨w.heap.size, 6, none⟩) A4.out.lt).trans c6; have q1 := (hg.cell (p := ⟨w.heap.size, 7, none⟩) A4.out.lt).trans c7; have q2 := (hg.cell (p := ⟨w.heap.size, 8, none⟩) A4.out.lt).trans c8; go_simp
        try simp only [Act.put, List.setIfInBounds_toArray, List.set_cons_zero, List.set_cons_succ]
        refine wpG_read (o := { dst := some 35, op := Go.Op.indexAddr 41 (Go.Operand.tmp 1) (Go.Operand.const (Go.Value.int Go.IntKind.i64 0)), type := 0, pos := "law.go:116", after := #[], guard := none }) (v := .pointer (some ⟨w.heap.size, 0, none⟩)) rfl (by rfl) ?_ ?_
        · intro w' hg; go_simp
        try simp only [Act.put, List.setIfInBounds_toArray, List.set_cons_zero, List.set_cons_succ]
        refine wpG_read (o := { dst := some 36, op := Go.Op.load 27 (Go.Operand.tmp 35), type := 27, pos := "law.go:116", after := #[{ on := 10, ground := Go.Ground.data }], guard := none }) (v := .agg #[.bool x.t, .int .i64 x.n, .string ⟨x.s.toArray⟩]) rfl (by rfl) ?_ ?_
        · intro w' hg; have q0 := (hg.cell (p := ⟨w.heap.size, 0, none⟩) A4.out.lt).trans c0; have q1 := (hg.cell (p := ⟨w.heap.size, 1, none⟩) A4.out.lt).trans c1; have q2 := (hg.cell (p := ⟨w.heap.size, 2, none⟩) A4.out.lt).trans c2; go_simp
        try simp only [Act.put, List.setIfInBounds_toArray, List.set_cons_zero, List.set_cons_succ]
        refine wpG_read (o := { dst := some 37, op := Go.Op.indexAddr 41 (Go.Operand.tmp 1) (Go.Operand.const (Go.Value.int Go.IntKind.i64 2)), type := 0, pos := "law.go:116", after := #[], guard := none }) (v := .pointer (some ⟨w.heap.size, 6, none⟩)) rfl (by rfl) ?_ ?_
        · intro w' hg; go_simp
        try simp only [Act.put, List.setIfInBounds_toArray, List.set_cons_zero, List.set_cons_succ]
        refine wpG_read (o := { dst := some 38, op := Go.Op.load 27 (Go.Operand.tmp 37), type := 27, pos := "law.go:116", after := #[{ on := 12, ground := Go.Ground.data }], guard := none }) (v := .agg #[.bool z.t, .int .i64 z.n, .string ⟨z.s.toArray⟩]) rfl (by rfl) ?_ ?_
        · intro w' hg; have q0 := (hg.cell (p := ⟨w.heap.size, 6, none⟩) A4.out.lt).trans c6; have q1 := (hg.cell (p := ⟨w.heap.size, 7, none⟩) A4.out.lt).trans c7; have q2 := (hg.cell (p := ⟨w.heap.size, 8, none⟩) A4.out.lt).trans c8; go_simp
        try simp only [Act.put, List.setIfInBounds_toArray, List.set_cons_zero, List.set_cons_succ]
        refine wpG_call (o := { dst := some 29, op := Go.Op.call { callee := Go.Callee.value (Go.Operand.func 19), args := #[Go.Operand.tmp 26, Go.Operand.tmp 28], argTypes := #[27, 27] }, type := 3, pos := "law.go:116", after := #[{ on := 1, ground := Go.Ground.data }, { on := 3, ground := Go.Ground.data }], guard := none }) rfl (by rfl) (fun K hK => ?_)
        go_simp
        go_at_call 19
        with_reducible refine (Hxy.out _).mono ?_
        rintro e u1 ⟨rfl, bq⟩
        have bz1 : Below w4.heap.size w4.drew u1 := bq
        have zz1 : w4.heap.size ≤ u1.heap.size := bz1.size
        refine hK _ _ bz1 ?_
        clear hK K bq
        try simp only [Act.put, List.setIfInBounds_toArray, List.set_cons_zero, List.set_cons_succ]
        refine wpG_call (o := { dst := some 34, op := Go.Op.call { callee := Go.Callee.value (Go.Operand.func 19), args := #[Go.Operand.tmp 31, Go.Operand.tmp 33], argTypes := #[27, 27] }, type := 3, pos := "law.go:116", after := #[{ on := 6, ground := Go.Ground.data }, { on := 8, ground := Go.Ground.data }, { on := 4, ground := Go.Ground.chain }], guard := none }) rfl (by rfl) (fun K hK => ?_)
        go_simp
        go_at_call 19
        with_reducible refine (Hyz.out _).mono ?_
        rintro e u2 ⟨rfl, bq⟩
        have bz2 : Below w4.heap.size u1 u2 := bq.mono zz1
        have zz2 : w4.heap.size ≤ u2.heap.size := Nat.le_trans zz1 bz2.size
        refine hK _ _ bz2 ?_
        clear hK K bq
        try simp only [Act.put, List.setIfInBounds_toArray, List.set_cons_zero, List.set_cons_succ]
        refine wpG_call (o := { dst := some 39, op := Go.Op.call { callee := Go.Callee.value (Go.Operand.func 19), args := #[Go.Operand.tmp 36, Go.Operand.tmp 38], argTypes := #[27, 27] }, type := 3, pos := "law.go:116", after := #[{ on := 11, ground := Go.Ground.data }, { on := 13, ground := Go.Ground.data }, { on := 9, ground := Go.Ground.chain }], guard := none }) rfl (by rfl) (fun K hK => ?_)
        go_simp
        go_at_call 19
        with_reducible refine (Hxz.out _).mono ?_
        rintro e u3 ⟨rfl, bq⟩
        have bz3 : Below w4.heap.size u2 u3 := bq.mono zz2
        have zz3 : w4.heap.size ≤ u3.heap.size := Nat.le_trans zz2 bz3.size
        refine hK _ _ bz3 ?_
        clear hK K bq
        try simp only [Act.put, List.setIfInBounds_toArray, List.set_cons_zero, List.set_cons_succ]
        refine wpG_read (o := { dst := some 3, op := Go.Op.assign (Go.Operand.tmp 29), type := 3, pos := "law.go:116", after := #[{ on := 4, ground := Go.Ground.data }, { on := 14, ground := Go.Ground.chain }, { on := 0, ground := Go.Ground.phase }, { on := 1, ground := Go.Ground.phase }, { on := 2, ground := Go.Ground.phase }, { on := 3, ground := Go.Ground.phase }, { on := 4, ground := Go.Ground.phase }, { on := 5, ground := Go.Ground.textOnly Go.Departure.lateStores }, { on := 6, ground := Go.Ground.textOnly Go.Departure.lateStores }, { on := 7, ground := Go.Ground.textOnly Go.Departure.lateStores }, { on := 8, ground := Go.Ground.textOnly Go.Departure.lateStores }, { on := 9, ground := Go.Ground.textOnly Go.Departure.lateStoresUnsure }, { on := 10, ground := Go.Ground.textOnly Go.Departure.lateStores }, { on := 11, ground := Go.Ground.textOnly Go.Departure.lateStores }, { on := 12, ground := Go.Ground.textOnly Go.Departure.lateStores }, { on := 13, ground := Go.Ground.textOnly Go.Departure.lateStores }, { on := 14, ground := Go.Ground.textOnly Go.Departure.lateStoresUnsure }], guard := none }) (v := ?_) rfl (by rfl) ?_ ?_
        rotate_left
        · intro w' hg; go_simp; try with_reducible rfl
        try simp only [Act.put, List.setIfInBounds_toArray, List.set_cons_zero, List.set_cons_succ]
        refine wpG_read (o := { dst := some 4, op := Go.Op.assign (Go.Operand.tmp 34), type := 3, pos := "law.go:116", after := #[{ on := 9, ground := Go.Ground.data }, { on := 15, ground := Go.Ground.chain }, { on := 0, ground := Go.Ground.phase }, { on := 1, ground := Go.Ground.phase }, { on := 2, ground := Go.Ground.phase }, { on := 3, ground := Go.Ground.phase }, { on := 4, ground := Go.Ground.phase }, { on := 5, ground := Go.Ground.phase }, { on := 6, ground := Go.Ground.phase }, { on := 7, ground := Go.Ground.phase }, { on := 8, ground := Go.Ground.phase }, { on := 9, ground := Go.Ground.phase }, { on := 10, ground := Go.Ground.textOnly Go.Departure.lateStores }, { on := 11, ground := Go.Ground.textOnly Go.Departure.lateStores }, { on := 12, ground := Go.Ground.textOnly Go.Departure.lateStores }, { on := 13, ground := Go.Ground.textOnly Go.Departure.lateStores }, { on := 14, ground := Go.Ground.textOnly Go.Departure.lateStoresUnsure }, { on := 15, ground := Go.Ground.phase }], guard := none }) (v := ?_) rfl (by rfl) ?_ ?_
        rotate_left
        · intro w' hg; go_simp; try with_reducible rfl
        try simp only [Act.put, List.setIfInBounds_toArray, List.set_cons_zero, List.set_cons_succ]
        refine wpG_read (o := { dst := some 5, op := Go.Op.assign (Go.Operand.tmp 39), type := 3, pos := "law.go:116", after := #[{ on := 14, ground := Go.Ground.data }, { on := 16, ground := Go.Ground.chain }, { on := 0, ground := Go.Ground.phase }, { on := 1, ground := Go.Ground.phase }, { on := 2, ground := Go.Ground.phase }, { on := 3, ground := Go.Ground.phase }, { on := 4, ground := Go.Ground.phase }, { on := 5, ground := Go.Ground.phase }, { on := 6, ground := Go.Ground.phase }, { on := 7, ground := Go.Ground.phase }, { on := 8, ground := Go.Ground.phase }, { on := 9, ground := Go.Ground.phase }, { on := 10, ground := Go.Ground.phase }, { on := 11, ground := Go.Ground.phase }, { on := 12, ground := Go.Ground.phase }, { on := 13, ground := Go.Ground.phase }, { on := 14, ground := Go.Ground.phase }, { on := 15, ground := Go.Ground.phase }, { on := 16, ground := Go.Ground.phase }], guard := none }) (v := ?_) rfl (by rfl) ?_ ?_
        rotate_left
        · intro w' hg; go_simp; try with_reducible rfl
        try simp only [Act.put, List.setIfInBounds_toArray, List.set_cons_zero, List.set_cons_succ]
        refine wpG_done ?_
        have Bt := Lib.hid (show Below w4.heap.size w4 u3 from (show Below w4.heap.size w4 w4.drew from below_drewN (Below.refl _ _) 1).trans (bz1.trans (bz2.trans bz3)))
        have A5 := Lib.hid (A4.out.below Bt.out (Nat.lt_of_lt_of_le A4.out.lt (Nat.le_refl _)))
        have B5 := Lib.hid (B4.out.trans (Bt.out.mono B4.out.size))
        clear bz1 bz2 bz3 zz1 zz2 zz3 c0 c1 c2 c3 c4 c5 c6 c7 c8
        obtain ⟨c0, c1, c2, c3, c4, c5, c6, c7, c8⟩ := (show _ ∧ _ ∧ _ ∧ _ ∧ _ ∧ _ ∧ _ ∧ _ ∧ _ from ⟨A5.out.c0, A5.out.c1, A5.out.c2, A5.out.c3, A5.out.c4, A5.out.c5, A5.out.c6, A5.out.c7, A5.out.c8⟩)
        go_wp2_with fail
        refine (Hyx.out _).mono ?_
        rintro e w6 ⟨rfl, bq⟩
        have A6 := Lib.hid (A5.out.below (bq.mono Bt.out.size) (Nat.lt_of_lt_of_le A4.out.lt (Nat.le_refl _)))
        have B6 := Lib.hid (B5.out.trans (bq.mono B5.out.size))
        clear bq c0 c1 c2 c3 c4 c5 c6 c7 c8
        obtain ⟨c0, c1, c2, c3, c4, c5, c6, c7, c8⟩ := (show _ ∧ _ ∧ _ ∧ _ ∧ _ ∧ _ ∧ _ ∧ _ ∧ _ from ⟨A6.out.c0, A6.out.c1, A6.out.c2, A6.out.c3, A6.out.c4, A6.out.c5, A6.out.c6, A6.out.c7, A6.out.c8⟩)
        have hlx : x.s.length ≤ 1000000 := by have := isV_len Hvx.out; omega
        obtain ⟨h0, hh0⟩ : ∃ h : Int, h = (Vl.hash x.s : Int) := ⟨_, rfl⟩
        have hb0 : 0 ≤ h0 ∧ h0 < 2147483648 := by have := hash_lt x.s; omega
        have hha := fun W => HS.out.hash x.s W hlx
        rw [← hh0] at hha
        have Hha := Lib.hid hha; have Hb0 := Lib.hid hb0
        have hdr : doV 15 [x, y] = if x.t = y.t then (yes (decide (C1 < 0)), 0) else (v0, 11) := by rw [HC1.out]; exact do_15 Hvx.out Hvy.out
        obtain ⟨w7, hw7⟩ : ∃ w7, w7 = w6.alloc (.cells #[.bool x.t, .int .i64 x.n, .string ⟨x.s.toArray⟩, .bool y.t, .int .i64 y.n, .string ⟨y.s.toArray⟩] 27) := ⟨_, rfl⟩
        have W7 := Lib.hid hw7
        clear hha hh0 hb0 hlx hw7
        by_cases ht : x.t = y.t
        · rw [if_pos ht] at hdr
          have dt : (x.t == y.t) = true := beq_iff_eq.2 ht
          by_cases hxy : x = y
          · obtain rfl : C1 = 0 := T3.out.2 hxy
            have dn : (x.n == y.n) = true := by rw [hxy]; simp
            have ds : (x.s == y.s) = true := by rw [hxy]; simp
            clear hxy ht
            have Hres := Lib.hid (show doV 15 [x, y] = (⟨false, 0, []⟩, 0) from hdr)
            have hc := do_lit HS.out 15 [x, y] _ #[.bool x.t, .int .i64 x.n, .string ⟨x.s.toArray⟩, .bool y.t, .int .i64 y.n, .string ⟨y.s.toArray⟩] rfl 2 rfl (by omega) (by unfold I; omega) (fun v hv => by simp at hv; rcases hv with rfl | rfl; exact ⟨hx, by have := isV_len Hvx.out; omega⟩; exact ⟨hy, by have := isV_len Hvy.out; omega⟩) _ _ _ _ Hres.out w6 w7 (HG.out.below' B6.out) W7.out
            have Hc := Lib.hid hc
            clear hc hdr
            go_wp2_with (rw [← W7.out])
            refine Hc.out.mono ?_
            rintro e w8 ⟨rfl, b8⟩
            obtain ⟨w9, hw9⟩ : ∃ w9, w9 = w8.alloc (.cells #[.bool false, .int .i64 0, .string ⟨#[]⟩] 27) := ⟨_, rfl⟩
            have b9 : Below w8.heap.size w8 w9 := by rw [hw9]; exact (Below.refl _ _).alloc (Nat.le_refl _) _
            have x9 : Bx w9 w8.heap.size (.bool false) (.int .i64 0) (.string ⟨#[]⟩) := by rw [hw9]; exact Bx.made _ _ _ _ _
            have bq := b8.trans (b9.mono b8.size)
            have A9 := Lib.hid (A6.out.below bq A6.out.lt)
            have B9 := Lib.hid (B6.out.trans (bq.mono B6.out.size))
            have X9 := Lib.hid x9; have W9 := Lib.hid hw9
            clear bq b8 b9 x9 hw9 c0 c1 c2 c3 c4 c5 c6 c7 c8
            have A9r := A9.out
            rw [W9.out] at A9r
            obtain ⟨c0, c1, c2, c3, c4, c5, c6, c7, c8⟩ := (show _ ∧ _ ∧ _ ∧ _ ∧ _ ∧ _ ∧ _ ∧ _ ∧ _ from ⟨A9r.c0, A9r.c1, A9r.c2, A9r.c3, A9r.c4, A9r.c5, A9r.c6, A9r.c7, A9r.c8⟩)
            clear A9r
            go_wp2_with fail
            rw [← W9.out]
            refine (alive13_c HS.out w9 (HG.out.below' B9.out)).mono ?_
            rintro e wa ⟨rfl, ba⟩
            have Aa := Lib.hid (A9.out.below ba A9.out.lt)
            have Ba := Lib.hid (B9.out.trans (ba.mono B9.out.size))
            have xa := X9.out.below ba X9.out.lt
            clear ba c0 c1 c2 c3 c4 c5 c6 c7 c8
            obtain ⟨c0, c1, c2, c3, c4, c5, c6, c7, c8⟩ := (show _ ∧ _ ∧ _ ∧ _ ∧ _ ∧ _ ∧ _ ∧ _ ∧ _ from ⟨Aa.out.c0, Aa.out.c1, Aa.out.c2, Aa.out.c3, Aa.out.c4, Aa.out.c5, Aa.out.c6, Aa.out.c7, Aa.out.c8⟩)
            obtain ⟨e0, e1, e2, -, -, -, -⟩ := xa
            go_wp2_with fail
            refine (Hha.out _).mono ?_
            rintro e wb ⟨rfl, bb⟩
            have Ab := Lib.hid (Aa.out.below bb Aa.out.lt)
            have Bb := Lib.hid (Ba.out.trans (bb.mono Ba.out.size))
            clear bb e0 e1 e2 c0 c1 c2 c3 c4 c5 c6 c7 c8
            obtain ⟨c0, c1, c2, c3, c4, c5, c6, c7, c8⟩ := (show _ ∧ _ ∧ _ ∧ _ ∧ _ ∧ _ ∧ _ ∧ _ ∧ _ from ⟨Ab.out.c0, Ab.out.c1, Ab.out.c2, Ab.out.c3, Ab.out.c4, Ab.out.c5, Ab.out.c6, Ab.out.c7, Ab.out.c8⟩)
            have k1 : decide (0 ≤ h0) = true := decide_eq_true Hb0.out.1
            have k2 : decide (h0 < 2147483648) = true := decide_eq_true Hb0.out.2
            go_wp2_with fail
            refine (Hha.out _).mono ?_
            rintro e wc ⟨rfl, bc⟩
            have Bc := Lib.hid (Bb.out.trans (bc.mono Bb.out.size))
            clear bc c0 c1 c2 c3 c4 c5 c6 c7 c8
            go_wp2
            go_ret
            exact ⟨rfl, Bc.out⟩
          · by_cases hnn : x.n = y.n
            · have dn : (x.n == y.n) = true := beq_iff_eq.2 hnn
              have ds : (x.s == y.s) = false := beq_eq_false_iff_ne.2 (fun q => hxy (by obtain ⟨_, _, _⟩ := x; obtain ⟨_, _, _⟩ := y; simp_all))
              clear hnn ht
              rcases T1.out with rfl | rfl | rfl
              · by_cases h2 : C2 < 0
                · have h3 := T2.out (by decide) h2
                  have d2 : decide (C2 < 0) = true := decide_eq_true h2
                  have d3 : decide (0 ≤ C3) = false := decide_eq_false (by omega)
                  clear h2 h3
                  have Hres := Lib.hid (show doV 15 [x, y] = (⟨false, 1, []⟩, 0) from hdr)
                  have hc := do_lit HS.out 15 [x, y] _ #[.bool x.t, .int .i64 x.n, .string ⟨x.s.toArray⟩, .bool y.t, .int .i64 y.n, .string ⟨y.s.toArray⟩] rfl 2 rfl (by omega) (by unfold I; omega) (fun v hv => by simp at hv; rcases hv with rfl | rfl; exact ⟨hx, by have := isV_len Hvx.out; omega⟩; exact ⟨hy, by have := isV_len Hvy.out; omega⟩) _ _ _ _ Hres.out w6 w7 (HG.out.below' B6.out) W7.out
                  have Hc := Lib.hid hc
                  clear hc hdr
                  go_wp2_with (rw [← W7.out])
                  refine Hc.out.mono ?_
                  rintro e w8 ⟨rfl, b8⟩
                  obtain ⟨w9, hw9⟩ : ∃ w9, w9 = w8.alloc (.cells #[.bool false, .int .i64 1, .string ⟨#[]⟩] 27) := ⟨_, rfl⟩
                  have b9 : Below w8.heap.size w8 w9 := by rw [hw9]; exact (Below.refl _ _).alloc (Nat.le_refl _) _
                  have x9 : Bx w9 w8.heap.size (.bool false) (.int .i64 1) (.string ⟨#[]⟩) := by rw [hw9]; exact Bx.made _ _ _ _ _
                  have bq := b8.trans (b9.mono b8.size)
                  have A9 := Lib.hid (A6.out.below bq A6.out.lt)
                  have B9 := Lib.hid (B6.out.trans (bq.mono B6.out.size))
                  have X9 := Lib.hid x9; have W9 := Lib.hid hw9
                  clear bq b8 b9 x9 hw9 c0 c1 c2 c3 c4 c5 c6 c7 c8
                  obtain ⟨c0, c1, c2, c3, c4, c5, c6, c7, c8⟩ := (show _ ∧ _ ∧ _ ∧ _ ∧ _ ∧ _ ∧ _ ∧ _ ∧ _ from ⟨A9.out.c0, A9.out.c1, A9.out.c2, A9.out.c3, A9.out.c4, A9.out.c5, A9.out.c6, A9.out.c7, A9.out.c8⟩)
                  go_wp2_with (rw [← W9.out])
                  refine (alive13_c HS.out w9 (HG.out.below' B9.out)).mono ?_
                  rintro e wa ⟨rfl, ba⟩
                  have Aa := Lib.hid (A9.out.below ba A9.out.lt)
                  have Ba := Lib.hid (B9.out.trans (ba.mono B9.out.size))
                  have xa := X9.out.below ba X9.out.lt
                  clear ba c0 c1 c2 c3 c4 c5 c6 c7 c8
                  obtain ⟨c0, c1, c2, c3, c4, c5, c6, c7, c8⟩ := (show _ ∧ _ ∧ _ ∧ _ ∧ _ ∧ _ ∧ _ ∧ _ ∧ _ from ⟨Aa.out.c0, Aa.out.c1, Aa.out.c2, Aa.out.c3, Aa.out.c4, Aa.out.c5, Aa.out.c6, Aa.out.c7, Aa.out.c8⟩)
                  obtain ⟨e0, e1, e2, -, -, -, -⟩ := xa
                  go_wp2_with fail
                  refine (Hha.out _).mono ?_
                  rintro e wb ⟨rfl, bb⟩
                  have Ab := Lib.hid (Aa.out.below bb Aa.out.lt)
                  have Bb := Lib.hid (Ba.out.trans (bb.mono Ba.out.size))
                  clear bb e0 e1 e2 c0 c1 c2 c3 c4 c5 c6 c7 c8
                  obtain ⟨c0, c1, c2, c3, c4, c5, c6, c7, c8⟩ := (show _ ∧ _ ∧ _ ∧ _ ∧ _ ∧ _ ∧ _ ∧ _ ∧ _ from ⟨Ab.out.c0, Ab.out.c1, Ab.out.c2, Ab.out.c3, Ab.out.c4, Ab.out.c5, Ab.out.c6, Ab.out.c7, Ab.out.c8⟩)
                  have k1 : decide (0 ≤ h0) = true := decide_eq_true Hb0.out.1
                  have k2 : decide (h0 < 2147483648) = true := decide_eq_true Hb0.out.2
                  go_wp2_with fail
                  refine (Hha.out _).mono ?_
                  rintro e wc ⟨rfl, bc⟩
                  have Bc := Lib.hid (Bb.out.trans (bc.mono Bb.out.size))
                  clear bc c0 c1 c2 c3 c4 c5 c6 c7 c8
                  go_wp2
                  go_ret
                  exact ⟨rfl, Bc.out⟩
                · have d2 : decide (C2 < 0) = false := decide_eq_false h2
                  clear h2
                  have Hres := Lib.hid (show doV 15 [x, y] = (⟨false, 1, []⟩, 0) from hdr)
                  have hc := do_lit HS.out 15 [x, y] _ #[.bool x.t, .int .i64 x.n, .string ⟨x.s.toArray⟩, .bool y.t, .int .i64 y.n, .string ⟨y.s.toArray⟩] rfl 2 rfl (by omega) (by unfold I; omega) (fun v hv => by simp at hv; rcases hv with rfl | rfl; exact ⟨hx, by have := isV_len Hvx.out; omega⟩; exact ⟨hy, by have := isV_len Hvy.out; omega⟩) _ _ _ _ Hres.out w6 w7 (HG.out.below' B6.out) W7.out
                  have Hc := Lib.hid hc
                  clear hc hdr
                  go_wp2_with (rw [← W7.out])
                  refine Hc.out.mono ?_
                  rintro e w8 ⟨rfl, b8⟩
                  obtain ⟨w9, hw9⟩ : ∃ w9, w9 = w8.alloc (.cells #[.bool false, .int .i64 1, .string ⟨#[]⟩] 27) := ⟨_, rfl⟩
                  have b9 : Below w8.heap.size w8 w9 := by rw [hw9]; exact (Below.refl _ _).alloc (Nat.le_refl _) _
                  have x9 : Bx w9 w8.heap.size (.bool false) (.int .i64 1) (.string ⟨#[]⟩) := by rw [hw9]; exact Bx.made _ _ _ _ _
                  have bq := b8.trans (b9.mono b8.size)
                  have A9 := Lib.hid (A6.out.below bq A6.out.lt)
                  have B9 := Lib.hid (B6.out.trans (bq.mono B6.out.size))
                  have X9 := Lib.hid x9; have W9 := Lib.hid hw9
                  clear bq b8 b9 x9 hw9 c0 c1 c2 c3 c4 c5 c6 c7 c8
                  obtain ⟨c0, c1, c2, c3, c4, c5, c6, c7, c8⟩ := (show _ ∧ _ ∧ _ ∧ _ ∧ _ ∧ _ ∧ _ ∧ _ ∧ _ from ⟨A9.out.c0, A9.out.c1, A9.out.c2, A9.out.c3, A9.out.c4, A9.out.c5, A9.out.c6, A9.out.c7, A9.out.c8⟩)
                  go_wp2_with (rw [← W9.out])
                  refine (alive13_c HS.out w9 (HG.out.below' B9.out)).mono ?_
                  rintro e wa ⟨rfl, ba⟩
                  have Aa := Lib.hid (A9.out.below ba A9.out.lt)
                  have Ba := Lib.hid (B9.out.trans (ba.mono B9.out.size))
                  have xa := X9.out.below ba X9.out.lt
                  clear ba c0 c1 c2 c3 c4 c5 c6 c7 c8
                  obtain ⟨c0, c1, c2, c3, c4, c5, c6, c7, c8⟩ := (show _ ∧ _ ∧ _ ∧ _ ∧ _ ∧ _ ∧ _ ∧ _ ∧ _ from ⟨Aa.out.c0, Aa.out.c1, Aa.out.c2, Aa.out.c3, Aa.out.c4, Aa.out.c5, Aa.out.c6, Aa.out.c7, Aa.out.c8⟩)
                  obtain ⟨e0, e1, e2, -, -, -, -⟩ := xa
                  go_wp2_with fail
                  refine (Hha.out _).mono ?_
                  rintro e wb ⟨rfl, bb⟩
                  have Ab := Lib.hid (Aa.out.below bb Aa.out.lt)
                  have Bb := Lib.hid (Ba.out.trans (bb.mono Ba.out.size))
                  clear bb e0 e1 e2 c0 c1 c2 c3 c4 c5 c6 c7 c8
                  obtain ⟨c0, c1, c2, c3, c4, c5, c6, c7, c8⟩ := (show _ ∧ _ ∧ _ ∧ _ ∧ _ ∧ _ ∧ _ ∧ _ ∧ _ from ⟨Ab.out.c0, Ab.out.c1, Ab.out.c2, Ab.out.c3, Ab.out.c4, Ab.out.c5, Ab.out.c6, Ab.out.c7, Ab.out.c8⟩)
                  have k1 : decide (0 ≤ h0) = true := decide_eq_true Hb0.out.1
                  have k2 : decide (h0 < 2147483648) = true := decide_eq_true Hb0.out.2
                  go_wp2_with fail
                  refine (Hha.out _).mono ?_
                  rintro e wc ⟨rfl, bc⟩
                  have Bc := Lib.hid (Bb.out.trans (bc.mono Bb.out.size))
                  clear bc c0 c1 c2 c3 c4 c5 c6 c7 c8
                  go_wp2
                  go_ret
                  exact ⟨rfl, Bc.out⟩
              · exact absurd (T3.out.1 rfl) hxy
              · have Hres := Lib.hid (show doV 15 [x, y] = (⟨false, 0, []⟩, 0) from hdr)
                have hc := do_lit HS.out 15 [x, y] _ #[.bool x.t, .int .i64 x.n, .string ⟨x.s.toArray⟩, .bool y.t, .int .i64 y.n, .string ⟨y.s.toArray⟩] rfl 2 rfl (by omega) (by unfold I; omega) (fun v hv => by simp at hv; rcases hv with rfl | rfl; exact ⟨hx, by have := isV_len Hvx.out; omega⟩; exact ⟨hy, by have := isV_len Hvy.out; omega⟩) _ _ _ _ Hres.out w6 w7 (HG.out.below' B6.out) W7.out
                have Hc := Lib.hid hc
                clear hc hdr
                go_wp2_with (rw [← W7.out])
                refine Hc.out.mono ?_
                rintro e w8 ⟨rfl, b8⟩
                obtain ⟨w9, hw9⟩ : ∃ w9, w9 = w8.alloc (.cells #[.bool false, .int .i64 0, .string ⟨#[]⟩] 27) := ⟨_, rfl⟩
                have b9 : Below w8.heap.size w8 w9 := by rw [hw9]; exact (Below.refl _ _).alloc (Nat.le_refl _) _
                have x9 : Bx w9 w8.heap.size (.bool false) (.int .i64 0) (.string ⟨#[]⟩) := by rw [hw9]; exact Bx.made _ _ _ _ _
                have bq := b8.trans (b9.mono b8.size)
                have A9 := Lib.hid (A6.out.below bq A6.out.lt)
                have B9 := Lib.hid (B6.out.trans (bq.mono B6.out.size))
                have X9 := Lib.hid x9; have W9 := Lib.hid hw9
                clear bq b8 b9 x9 hw9 c0 c1 c2 c3 c4 c5 c6 c7 c8
                have A9r := A9.out
                rw [W9.out] at A9r
                obtain ⟨c0, c1, c2, c3, c4, c5, c6, c7, c8⟩ := (show _ ∧ _ ∧ _ ∧ _ ∧ _ ∧ _ ∧ _ ∧ _ ∧ _ from ⟨A9r.c0, A9r.c1, A9r.c2, A9r.c3, A9r.c4, A9r.c5, A9r.c6, A9r.c7, A9r.c8⟩)
                clear A9r
                go_wp2_with fail
                rw [← W9.out]
                refine (alive13_c HS.out w9 (HG.out.below' B9.out)).mono ?_
                rintro e wa ⟨rfl, ba⟩
                have Aa := Lib.hid (A9.out.below ba A9.out.lt)
                have Ba := Lib.hid (B9.out.trans (ba.mono B9.out.size))
                have xa := X9.out.below ba X9.out.lt
                clear ba c0 c1 c2 c3 c4 c5 c6 c7 c8
                obtain ⟨c0, c1, c2, c3, c4, c5, c6, c7, c8⟩ := (show _ ∧ _ ∧ _ ∧ _ ∧ _ ∧ _ ∧ _ ∧ _ ∧ _ from ⟨Aa.out.c0, Aa.out.c1, Aa.out.c2, Aa.out.c3, Aa.out.c4, Aa.out.c5, Aa.out.c6, Aa.out.c7, Aa.out.c8⟩)
                obtain ⟨e0, e1, e2, -, -, -, -⟩ := xa
                go_wp2_with fail
                refine (Hha.out _).mono ?_
                rintro e wb ⟨rfl, bb⟩
                have Ab := Lib.hid (Aa.out.below bb Aa.out.lt)
                have Bb := Lib.hid (Ba.out.trans (bb.mono Ba.out.size))
                clear bb e0 e1 e2 c0 c1 c2 c3 c4 c5 c6 c7 c8
                obtain ⟨c0, c1, c2, c3, c4, c5, c6, c7, c8⟩ := (show _ ∧ _ ∧ _ ∧ _ ∧ _ ∧ _ ∧ _ ∧ _ ∧ _ from ⟨Ab.out.c0, Ab.out.c1, Ab.out.c2, Ab.out.c3, Ab.out.c4, Ab.out.c5, Ab.out.c6, Ab.out.c7, Ab.out.c8⟩)
                have k1 : decide (0 ≤ h0) = true := decide_eq_true Hb0.out.1
                have k2 : decide (h0 < 2147483648) = true := decide_eq_true Hb0.out.2
                go_wp2_with fail
                refine (Hha.out _).mono ?_
                rintro e wc ⟨rfl, bc⟩
                have Bc := Lib.hid (Bb.out.trans (bc.mono Bb.out.size))
                clear bc c0 c1 c2 c3 c4 c5 c6 c7 c8
                go_wp2
                go_ret
                exact ⟨rfl, Bc.out⟩
            · have dn : (x.n == y.n) = false := beq_eq_false_iff_ne.2 hnn
              clear hnn ht
              rcases T1.out with rfl | rfl | rfl
              · by_cases h2 : C2 < 0
                · have h3 := T2.out (by decide) h2
                  have d2 : decide (C2 < 0) = true := decide_eq_true h2
                  have d3 : decide (0 ≤ C3) = false := decide_eq_false (by omega)
                  clear h2 h3
                  have Hres := Lib.hid (show doV 15 [x, y] = (⟨false, 1, []⟩, 0) from hdr)
                  have hc := do_lit HS.out 15 [x, y] _ #[.bool x.t, .int .i64 x.n, .string ⟨x.s.toArray⟩, .bool y.t, .int .i64 y.n, .string ⟨y.s.toArray⟩] rfl 2 rfl (by omega) (by unfold I; omega) (fun v hv => by simp at hv; rcases hv with rfl | rfl; exact ⟨hx, by have := isV_len Hvx.out; omega⟩; exact ⟨hy, by have := isV_len Hvy.out; omega⟩) _ _ _ _ Hres.out w6 w7 (HG.out.below' B6.out) W7.out
                  have Hc := Lib.hid hc
                  clear hc hdr
                  go_wp2_with (rw [← W7.out])
                  refine Hc.out.mono ?_
                  rintro e w8 ⟨rfl, b8⟩
                  obtain ⟨w9, hw9⟩ : ∃ w9, w9 = w8.alloc (.cells #[.bool false, .int .i64 1, .string ⟨#[]⟩] 27) := ⟨_, rfl⟩
                  have b9 : Below w8.heap.size w8 w9 := by rw [hw9]; exact (Below.refl _ _).alloc (Nat.le_refl _) _
                  have x9 : Bx w9 w8.heap.size (.bool false) (.int .i64 1) (.string ⟨#[]⟩) := by rw [hw9]; exact Bx.made _ _ _ _ _
                  have bq := b8.trans (b9.mono b8.size)
                  have A9 := Lib.hid (A6.out.below bq A6.out.lt)
                  have B9 := Lib.hid (B6.out.trans (bq.mono B6.out.size))
                  have X9 := Lib.hid x9; have W9 := Lib.hid hw9
                  clear bq b8 b9 x9 hw9 c0 c1 c2 c3 c4 c5 c6 c7 c8
                  obtain ⟨c0, c1, c2, c3, c4, c5, c6, c7, c8⟩ := (show _ ∧ _ ∧ _ ∧ _ ∧ _ ∧ _ ∧ _ ∧ _ ∧ _ from ⟨A9.out.c0, A9.out.c1, A9.out.c2, A9.out.c3, A9.out.c4, A9.out.c5, A9.out.c6, A9.out.c7, A9.out.c8⟩)
                  go_wp2_with (rw [← W9.out])
                  refine (alive13_c HS.out w9 (HG.out.below' B9.out)).mono ?_
                  rintro e wa ⟨rfl, ba⟩
                  have Aa := Lib.hid (A9.out.below ba A9.out.lt)
                  have Ba := Lib.hid (B9.out.trans (ba.mono B9.out.size))
                  have xa := X9.out.below ba X9.out.lt
                  clear ba c0 c1 c2 c3 c4 c5 c6 c7 c8
                  obtain ⟨c0, c1, c2, c3, c4, c5, c6, c7, c8⟩ := (show _ ∧ _ ∧ _ ∧ _ ∧ _ ∧ _ ∧ _ ∧ _ ∧ _ from ⟨Aa.out.c0, Aa.out.c1, Aa.out.c2, Aa.out.c3, Aa.out.c4, Aa.out.c5, Aa.out.c6, Aa.out.c7, Aa.out.c8⟩)
                  obtain ⟨e0, e1, e2, -, -, -, -⟩ := xa
                  go_wp2_with fail
                  refine (Hha.out _).mono ?_
                  rintro e wb ⟨rfl, bb⟩
                  have Ab := Lib.hid (Aa.out.below bb Aa.out.lt)
                  have Bb := Lib.hid (Ba.out.trans (bb.mono Ba.out.size))
                  clear bb e0 e1 e2 c0 c1 c2 c3 c4 c5 c6 c7 c8
                  obtain ⟨c0, c1, c2, c3, c4, c5, c6, c7, c8⟩ := (show _ ∧ _ ∧ _ ∧ _ ∧ _ ∧ _ ∧ _ ∧ _ ∧ _ from ⟨Ab.out.c0, Ab.out.c1, Ab.out.c2, Ab.out.c3, Ab.out.c4, Ab.out.c5, Ab.out.c6, Ab.out.c7, Ab.out.c8⟩)
                  have k1 : decide (0 ≤ h0) = true := decide_eq_true Hb0.out.1
                  have k2 : decide (h0 < 2147483648) = true := decide_eq_true Hb0.out.2
                  go_wp2_with fail
                  refine (Hha.out _).mono ?_
                  rintro e wc ⟨rfl, bc⟩
                  have Bc := Lib.hid (Bb.out.trans (bc.mono Bb.out.size))
                  clear bc c0 c1 c2 c3 c4 c5 c6 c7 c8
                  go_wp2
                  go_ret
                  exact ⟨rfl, Bc.out⟩
                · have d2 : decide (C2 < 0) = false := decide_eq_false h2
                  clear h2
                  have Hres := Lib.hid (show doV 15 [x, y] = (⟨false, 1, []⟩, 0) from hdr)
                  have hc := do_lit HS.out 15 [x, y] _ #[.bool x.t, .int .i64 x.n, .string ⟨x.s.toArray⟩, .bool y.t, .int .i64 y.n, .string ⟨y.s.toArray⟩] rfl 2 rfl (by omega) (by unfold I; omega) (fun v hv => by simp at hv; rcases hv with rfl | rfl; exact ⟨hx, by have := isV_len Hvx.out; omega⟩; exact ⟨hy, by have := isV_len Hvy.out; omega⟩) _ _ _ _ Hres.out w6 w7 (HG.out.below' B6.out) W7.out
                  have Hc := Lib.hid hc
                  clear hc hdr
                  go_wp2_with (rw [← W7.out])
                  refine Hc.out.mono ?_
                  rintro e w8 ⟨rfl, b8⟩
                  obtain ⟨w9, hw9⟩ : ∃ w9, w9 = w8.alloc (.cells #[.bool false, .int .i64 1, .string ⟨#[]⟩] 27) := ⟨_, rfl⟩
                  have b9 : Below w8.heap.size w8 w9 := by rw [hw9]; exact (Below.refl _ _).alloc (Nat.le_refl _) _
                  have x9 : Bx w9 w8.heap.size (.bool false) (.int .i64 1) (.string ⟨#[]⟩) := by rw [hw9]; exact Bx.made _ _ _ _ _
                  have bq := b8.trans (b9.mono b8.size)
                  have A9 := Lib.hid (A6.out.below bq A6.out.lt)
                  have B9 := Lib.hid (B6.out.trans (bq.mono B6.out.size))
                  have X9 := Lib.hid x9; have W9 := Lib.hid hw9
                  clear bq b8 b9 x9 hw9 c0 c1 c2 c3 c4 c5 c6 c7 c8
                  obtain ⟨c0, c1, c2, c3, c4, c5, c6, c7, c8⟩ := (show _ ∧ _ ∧ _ ∧ _ ∧ _ ∧ _ ∧ _ ∧ _ ∧ _ from ⟨A9.out.c0, A9.out.c1, A9.out.c2, A9.out.c3, A9.out.c4, A9.out.c5, A9.out.c6, A9.out.c7, A9.out.c8⟩)
                  go_wp2_with (rw [← W9.out])
                  refine (alive13_c HS.out w9 (HG.out.below' B9.out)).mono ?_
                  rintro e wa ⟨rfl, ba⟩
                  have Aa := Lib.hid (A9.out.below ba A9.out.lt)
                  have Ba := Lib.hid (B9.out.trans (ba.mono B9.out.size))
                  have xa := X9.out.below ba X9.out.lt
                  clear ba c0 c1 c2 c3 c4 c5 c6 c7 c8
                  obtain ⟨c0, c1, c2, c3, c4, c5, c6, c7, c8⟩ := (show _ ∧ _ ∧ _ ∧ _ ∧ _ ∧ _ ∧ _ ∧ _ ∧ _ from ⟨Aa.out.c0, Aa.out.c1, Aa.out.c2, Aa.out.c3, Aa.out.c4, Aa.out.c5, Aa.out.c6, Aa.out.c7, Aa.out.c8⟩)
                  obtain ⟨e0, e1, e2, -, -, -, -⟩ := xa
                  go_wp2_with fail
                  refine (Hha.out _).mono ?_
                  rintro e wb ⟨rfl, bb⟩
                  have Ab := Lib.hid (Aa.out.below bb Aa.out.lt)
                  have Bb := Lib.hid (Ba.out.trans (bb.mono Ba.out.size))
                  clear bb e0 e1 e2 c0 c1 c2 c3 c4 c5 c6 c7 c8
                  obtain ⟨c0, c1, c2, c3, c4, c5, c6, c7, c8⟩ := (show _ ∧ _ ∧ _ ∧ _ ∧ _ ∧ _ ∧ _ ∧ _ ∧ _ from ⟨Ab.out.c0, Ab.out.c1, Ab.out.c2, Ab.out.c3, Ab.out.c4, Ab.out.c5, Ab.out.c6, Ab.out.c7, Ab.out.c8⟩)
                  have k1 : decide (0 ≤ h0) = true := decide_eq_true Hb0.out.1
                  have k2 : decide (h0 < 2147483648) = true := decide_eq_true Hb0.out.2
                  go_wp2_with fail
                  refine (Hha.out _).mono ?_
                  rintro e wc ⟨rfl, bc⟩
                  have Bc := Lib.hid (Bb.out.trans (bc.mono Bb.out.size))
                  clear bc c0 c1 c2 c3 c4 c5 c6 c7 c8
                  go_wp2
                  go_ret
                  exact ⟨rfl, Bc.out⟩
              · exact absurd (T3.out.1 rfl) hxy
              · have Hres := Lib.hid (show doV 15 [x, y] = (⟨false, 0, []⟩, 0) from hdr)
                have hc := do_lit HS.out 15 [x, y] _ #[.bool x.t, .int .i64 x.n, .string ⟨x.s.toArray⟩, .bool y.t, .int .i64 y.n, .string ⟨y.s.toArray⟩] rfl 2 rfl (by omega) (by unfold I; omega) (fun v hv => by simp at hv; rcases hv with rfl | rfl; exact ⟨hx, by have := isV_len Hvx.out; omega⟩; exact ⟨hy, by have := isV_len Hvy.out; omega⟩) _ _ _ _ Hres.out w6 w7 (HG.out.below' B6.out) W7.out
                have Hc := Lib.hid hc
                clear hc hdr
                go_wp2_with (rw [← W7.out])
                refine Hc.out.mono ?_
                rintro e w8 ⟨rfl, b8⟩
                obtain ⟨w9, hw9⟩ : ∃ w9, w9 = w8.alloc (.cells #[.bool false, .int .i64 0, .string ⟨#[]⟩] 27) := ⟨_, rfl⟩
                have b9 : Below w8.heap.size w8 w9 := by rw [hw9]; exact (Below.refl _ _).alloc (Nat.le_refl _) _
                have x9 : Bx w9 w8.heap.size (.bool false) (.int .i64 0) (.string ⟨#[]⟩) := by rw [hw9]; exact Bx.made _ _ _ _ _
                have bq := b8.trans (b9.mono b8.size)
                have A9 := Lib.hid (A6.out.below bq A6.out.lt)
                have B9 := Lib.hid (B6.out.trans (bq.mono B6.out.size))
                have X9 := Lib.hid x9; have W9 := Lib.hid hw9
                clear bq b8 b9 x9 hw9 c0 c1 c2 c3 c4 c5 c6 c7 c8
                have A9r := A9.out
                rw [W9.out] at A9r
                obtain ⟨c0, c1, c2, c3, c4, c5, c6, c7, c8⟩ := (show _ ∧ _ ∧ _ ∧ _ ∧ _ ∧ _ ∧ _ ∧ _ ∧ _ from ⟨A9r.c0, A9r.c1, A9r.c2, A9r.c3, A9r.c4, A9r.c5, A9r.c6, A9r.c7, A9r.c8⟩)
                clear A9r
                go_wp2_with fail
                rw [← W9.out]
                refine (alive13_c HS.out w9 (HG.out.below' B9.out)).mono ?_
                rintro e wa ⟨rfl, ba⟩
                have Aa := Lib.hid (A9.out.below ba A9.out.lt)
                have Ba := Lib.hid (B9.out.trans (ba.mono B9.out.size))
                have xa := X9.out.below ba X9.out.lt
                clear ba c0 c1 c2 c3 c4 c5 c6 c7 c8
                obtain ⟨c0, c1, c2, c3, c4, c5, c6, c7, c8⟩ := (show _ ∧ _ ∧ _ ∧ _ ∧ _ ∧ _ ∧ _ ∧ _ ∧ _ from ⟨Aa.out.c0, Aa.out.c1, Aa.out.c2, Aa.out.c3, Aa.out.c4, Aa.out.c5, Aa.out.c6, Aa.out.c7, Aa.out.c8⟩)
                obtain ⟨e0, e1, e2, -, -, -, -⟩ := xa
                go_wp2_with fail
                refine (Hha.out _).mono ?_
                rintro e wb ⟨rfl, bb⟩
                have Ab := Lib.hid (Aa.out.below bb Aa.out.lt)
                have Bb := Lib.hid (Ba.out.trans (bb.mono Ba.out.size))
                clear bb e0 e1 e2 c0 c1 c2 c3 c4 c5 c6 c7 c8
                obtain ⟨c0, c1, c2, c3, c4, c5, c6, c7, c8⟩ := (show _ ∧ _ ∧ _ ∧ _ ∧ _ ∧ _ ∧ _ ∧ _ ∧ _ from ⟨Ab.out.c0, Ab.out.c1, Ab.out.c2, Ab.out.c3, Ab.out.c4, Ab.out.c5, Ab.out.c6, Ab.out.c7, Ab.out.c8⟩)
                have k1 : decide (0 ≤ h0) = true := decide_eq_true Hb0.out.1
                have k2 : decide (h0 < 2147483648) = true := decide_eq_true Hb0.out.2
                go_wp2_with fail
                refine (Hha.out _).mono ?_
                rintro e wc ⟨rfl, bc⟩
                have Bc := Lib.hid (Bb.out.trans (bc.mono Bb.out.size))
                clear bc c0 c1 c2 c3 c4 c5 c6 c7 c8
                go_wp2
                go_ret
                exact ⟨rfl, Bc.out⟩
        · rw [if_neg ht] at hdr
          have dt : (x.t == y.t) = false := beq_eq_false_iff_ne.2 ht
          have hxy : x ≠ y := fun q => ht (by rw [q])
          clear ht
          rcases T1.out with rfl | rfl | rfl
          · by_cases h2 : C2 < 0
            · have h3 := T2.out (by decide) h2
              have d2 : decide (C2 < 0) = true := decide_eq_true h2
              have d3 : decide (0 ≤ C3) = false := decide_eq_false (by omega)
              clear h2 h3
              have Hres := Lib.hid (show doV 15 [x, y] = (⟨false, 0, []⟩, 11) from hdr)
              have hc := do_lit HS.out 15 [x, y] _ #[.bool x.t, .int .i64 x.n, .string ⟨x.s.toArray⟩, .bool y.t, .int .i64 y.n, .string ⟨y.s.toArray⟩] rfl 2 rfl (by omega) (by unfold I; omega) (fun v hv => by simp at hv; rcases hv with rfl | rfl; exact ⟨hx, by have := isV_len Hvx.out; omega⟩; exact ⟨hy, by have := isV_len Hvy.out; omega⟩) _ _ _ _ Hres.out w6 w7 (HG.out.below' B6.out) W7.out
              have Hc := Lib.hid hc
              clear hc hdr
              go_wp2_with (rw [← W7.out])
              refine Hc.out.mono ?_
              rintro e w8 ⟨rfl, b8⟩
              obtain ⟨w9, hw9⟩ : ∃ w9, w9 = w8.alloc (.cells #[.bool false, .int .i64 0, .string ⟨#[]⟩] 27) := ⟨_, rfl⟩
              have b9 : Below w8.heap.size w8 w9 := by rw [hw9]; exact (Below.refl _ _).alloc (Nat.le_refl _) _
              have x9 : Bx w9 w8.heap.size (.bool false) (.int .i64 0) (.string ⟨#[]⟩) := by rw [hw9]; exact Bx.made _ _ _ _ _
              have bq := b8.trans (b9.mono b8.size)
              have A9 := Lib.hid (A6.out.below bq A6.out.lt)
              have B9 := Lib.hid (B6.out.trans (bq.mono B6.out.size))
              have X9 := Lib.hid x9; have W9 := Lib.hid hw9
              clear bq b8 b9 x9 hw9 c0 c1 c2 c3 c4 c5 c6 c7 c8
              have A9r := A9.out
              rw [W9.out] at A9r
              obtain ⟨c0, c1, c2, c3, c4, c5, c6, c7, c8⟩ := (show _ ∧ _ ∧ _ ∧ _ ∧ _ ∧ _ ∧ _ ∧ _ ∧ _ from ⟨A9r.c0, A9r.c1, A9r.c2, A9r.c3, A9r.c4, A9r.c5, A9r.c6, A9r.c7, A9r.c8⟩)
              clear A9r
              go_wp2_with fail
              rw [← W9.out]
              refine (alive13_c HS.out w9 (HG.out.below' B9.out)).mono ?_
              rintro e wa ⟨rfl, ba⟩
              have Ba := Lib.hid (B9.out.trans (ba.mono B9.out.size))
              clear ba c0 c1 c2 c3 c4 c5 c6 c7 c8
              go_wp2
              go_ret
              exact ⟨rfl, Ba.out⟩
            · have d2 : decide (C2 < 0) = false := decide_eq_false h2
              clear h2
              have Hres := Lib.hid (show doV 15 [x, y] = (⟨false, 0, []⟩, 11) from hdr)
              have hc := do_lit HS.out 15 [x, y] _ #[.bool x.t, .int .i64 x.n, .string ⟨x.s.toArray⟩, .bool y.t, .int .i64 y.n, .string ⟨y.s.toArray⟩] rfl 2 rfl (by omega) (by unfold I; omega) (fun v hv => by simp at hv; rcases hv with rfl | rfl; exact ⟨hx, by have := isV_len Hvx.out; omega⟩; exact ⟨hy, by have := isV_len Hvy.out; omega⟩) _ _ _ _ Hres.out w6 w7 (HG.out.below' B6.out) W7.out
              have Hc := Lib.hid hc
              clear hc hdr
              go_wp2_with (rw [← W7.out])
              refine Hc.out.mono ?_
              rintro e w8 ⟨rfl, b8⟩
              obtain ⟨w9, hw9⟩ : ∃ w9, w9 = w8.alloc (.cells #[.bool false, .int .i64 0, .string ⟨#[]⟩] 27) := ⟨_, rfl⟩
              have b9 : Below w8.heap.size w8 w9 := by rw [hw9]; exact (Below.refl _ _).alloc (Nat.le_refl _) _
              have x9 : Bx w9 w8.heap.size (.bool false) (.int .i64 0) (.string ⟨#[]⟩) := by rw [hw9]; exact Bx.made _ _ _ _ _
              have bq := b8.trans (b9.mono b8.size)
              have A9 := Lib.hid (A6.out.below bq A6.out.lt)
              have B9 := Lib.hid (B6.out.trans (bq.mono B6.out.size))
              have X9 := Lib.hid x9; have W9 := Lib.hid hw9
              clear bq b8 b9 x9 hw9 c0 c1 c2 c3 c4 c5 c6 c7 c8
              have A9r := A9.out
              rw [W9.out] at A9r
              obtain ⟨c0, c1, c2, c3, c4, c5, c6, c7, c8⟩ := (show _ ∧ _ ∧ _ ∧ _ ∧ _ ∧ _ ∧ _ ∧ _ ∧ _ from ⟨A9r.c0, A9r.c1, A9r.c2, A9r.c3, A9r.c4, A9r.c5, A9r.c6, A9r.c7, A9r.c8⟩)
              clear A9r
              go_wp2_with fail
              rw [← W9.out]
              refine (alive13_c HS.out w9 (HG.out.below' B9.out)).mono ?_
              rintro e wa ⟨rfl, ba⟩
              have Ba := Lib.hid (B9.out.trans (ba.mono B9.out.size))
              clear ba c0 c1 c2 c3 c4 c5 c6 c7 c8
              go_wp2
              go_ret
              exact ⟨rfl, Ba.out⟩
          · exact absurd (T3.out.1 rfl) hxy
          · have Hres := Lib.hid (show doV 15 [x, y] = (⟨false, 0, []⟩, 11) from hdr)
            have hc := do_lit HS.out 15 [x, y] _ #[.bool x.t, .int .i64 x.n, .string ⟨x.s.toArray⟩, .bool y.t, .int .i64 y.n, .string ⟨y.s.toArray⟩] rfl 2 rfl (by omega) (by unfold I; omega) (fun v hv => by simp at hv; rcases hv with rfl | rfl; exact ⟨hx, by have := isV_len Hvx.out; omega⟩; exact ⟨hy, by have := isV_len Hvy.out; omega⟩) _ _ _ _ Hres.out w6 w7 (HG.out.below' B6.out) W7.out
            have Hc := Lib.hid hc
            clear hc hdr
            go_wp2_with (rw [← W7.out])
            refine Hc.out.mono ?_
            rintro e w8 ⟨rfl, b8⟩
            obtain ⟨w9, hw9⟩ : ∃ w9, w9 = w8.alloc (.cells #[.bool false, .int .i64 0, .string ⟨#[]⟩] 27) := ⟨_, rfl⟩
            have b9 : Below w8.heap.size w8 w9 := by rw [hw9]; exact (Below.refl _ _).alloc (Nat.le_refl _) _
            have x9 : Bx w9 w8.heap.size (.bool false) (.int .i64 0) (.string ⟨#[]⟩) := by rw [hw9]; exact Bx.made _ _ _ _ _
            have bq := b8.trans (b9.mono b8.size)
            have A9 := Lib.hid (A6.out.below bq A6.out.lt)
            have B9 := Lib.hid (B6.out.trans (bq.mono B6.out.size))
            have X9 := Lib.hid x9; have W9 := Lib.hid hw9
            clear bq b8 b9 x9 hw9 c0 c1 c2 c3 c4 c5 c6 c7 c8
            have A9r := A9.out
            rw [W9.out] at A9r
            obtain ⟨c0, c1, c2, c3, c4, c5, c6, c7, c8⟩ := (show _ ∧ _ ∧ _ ∧ _ ∧ _ ∧ _ ∧ _ ∧ _ ∧ _ from ⟨A9r.c0, A9r.c1, A9r.c2, A9r.c3, A9r.c4, A9r.c5, A9r.c6, A9r.c7, A9r.c8⟩)
            clear A9r
            go_wp2_with fail
            rw [← W9.out]
            refine (alive13_c HS.out w9 (HG.out.below' B9.out)).mono ?_
            rintro e wa ⟨rfl, ba⟩
            have Ba := Lib.hid (B9.out.trans (ba.mono B9.out.size))
            clear ba c0 c1 c2 c3 c4 c5 c6 c7 c8
            go_wp2
            go_ret
            exact ⟨rfl, Ba.out⟩
end Go.Proofs.YtkkjgiejnblopaaDoor
