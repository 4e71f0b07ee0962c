/-
  The walk of the law CodeLines.
-/
import Derived.Test.YtpdapgbamlcjjaaGreatDoorL4
namespace Go.Proofs.YtpdapgbamlcjjaaGreatDoor
open Go.RowKit Vl Cd

theorem lnV_ex (x : Ins) : ∃ (Q : List UInt8) (E : Int), lnV x = .tuple #[st Q, .int .i64 E] := by
  unfold lnV; split
  · exact ⟨_, _, rfl⟩
  · exact ⟨_, _, rfl⟩
theorem prV_ex (s : List UInt8) : ∃ (y : Ins) (F : Int), prV s = .tuple #[iv y, .int .i64 F] := by
  cases h : pr s with
  | none => exact ⟨i0, 3, prV_none h⟩
  | some y => exact ⟨y, 0, prV_some h⟩
set_option maxRecDepth 100000 in
set_option maxHeartbeats 8000000 in
theorem codeLines_walk (x : Ins) (s : List UInt8) (hop : I x.op) (hn : I x.n) (w : World) (hG : Gl w) :
    Calls Tryz.prog 3 #[iv x, st s] w (RetV w (.bool true)) := by
  have hline := fun W hG => line_c x hop hn W hG
  have hrline := fun W => rline_c x hop hn W
  have hmay := fun W => may_c x hop W
  have hrmay := fun W => rmay_c x W
  have hnm := fun W => name_c x.op hop W
  have hrnm := fun W => rname_c x.op hop W
  have hiv : iv x = .agg #[.int .i64 x.op, .int .i64 x.n, .string ⟨x.s.toArray⟩] := rfl
  obtain ⟨Q, E, hQ⟩ := lnV_ex x
  obtain ⟨y, F, hF⟩ := prV_ex s
  simp only [hiv, hQ] at hline hrline hmay hrmay
  rw [hiv]
  obtain ⟨S, hS, hSs, -, -⟩ := hide_st x.s
  obtain ⟨Y, hY, -, -, -⟩ := hide_st y.s
  obtain ⟨X, hX, hXs, -, -⟩ := hide_st s
  rw [← hS]
  simp only [← hS] at hline hrline hmay hrmay
  have hF : prV s = .tuple #[.agg #[.int .i64 y.op, .int .i64 y.n, .string Y], .int .i64 F] := by rw [hF, hY]
  have Hpa := Lib.hid (fun (h : s.length ≤ 1000000) W hG => (show Calls Tryz.prog 11 #[.string X] W (RetV W (.tuple #[.agg #[.int .i64 y.op, .int .i64 y.n, .string Y], .int .i64 F])) from by rw [← hF, hX]; exact parse_c s h W hG))
  have Hrpa := Lib.hid (fun (h : s.length ≤ 1000000) W => (show Calls Tryz.prog 12 #[.string X] W (RetV W (.tuple #[.agg #[.int .i64 y.op, .int .i64 y.n, .string Y], .int .i64 F])) from by rw [← hF, hX]; exact rparse_c s h W))
  show Calls Tryz.prog 3 #[_, .string ⟨s.toArray⟩] w _
  rw [← hX]
  generalize y.op = yo at *
  generalize y.n = yn at *
  generalize nm x.op = NN at *
  generalize x.op = op at *
  generalize x.n = n at *
  generalize may x = M at *
  have Hline := Lib.hid hline; have Hrline := Lib.hid hrline; have Hmay := Lib.hid hmay; have Hrmay := Lib.hid hrmay; have Hnm := Lib.hid hnm; have Hrnm := Lib.hid hrnm; have HG := Lib.hid hG
  clear hline hrline hmay hrmay hnm hrnm hG hop hn hiv hS hSs hY hX hF hQ
  obtain ⟨w0, hw0⟩ : ∃ w0, w0 = w.alloc (.cells #[.int .i64 op, .int .i64 n, .string S] 23) := ⟨_, rfl⟩
  have B0 := Lib.hid (show Below w.heap.size w w0 by rw [hw0]; exact (Below.refl _ _).alloc (Nat.le_refl _) _)
  have X0 := Lib.hid (show Bx w0 w.heap.size (.int .i64 op) (.int .i64 n) (.string S) by rw [hw0]; exact Bx.made _ _ _ _ _)
  have W0 := Lib.hid hw0
  clear hw0
  obtain ⟨c0, c1, c2, -, -, -, -⟩ := X0.out
  have HXs := Lib.hid hXs
  clear hXs
  go_enter Tryz.func3, Tryz.ntmps3
  by_cases h4 : (1200 : Int) < (S.size : Int)
  · have d1 : decide ((1200 : Int) < (S.size : Int)) = true := decide_eq_true h4
    clear h4
    go_wp2_with (rw [← W0.out])
    refine (alive_c w0 (HG.out.below' B0.out)).mono ?_
    rintro e wf ⟨rfl, bf⟩
    have BF := Lib.hid (B0.out.trans (bf.mono B0.out.size))
    clear bf
    go_wp2
    go_ret
    exact ⟨rfl, BF.out⟩
  have d1 : decide ((1200 : Int) < (S.size : Int)) = false := decide_eq_false h4
  clear h4
  by_cases h5 : (1200 : Int) < (X.size : Int)
  · have d2 : decide ((1200 : Int) < (X.size : Int)) = true := decide_eq_true h5
    clear h5
    go_wp2_with (rw [← W0.out])
    refine (alive_c w0 (HG.out.below' B0.out)).mono ?_
    rintro e wf ⟨rfl, bf⟩
    have BF := Lib.hid (B0.out.trans (bf.mono B0.out.size))
    clear bf
    go_wp2
    go_ret
    exact ⟨rfl, BF.out⟩
  have d2 : decide ((1200 : Int) < (X.size : Int)) = false := decide_eq_false h5
  have hsl : s.length ≤ 1000000 := by have := HXs.out; omega
  have Hpa2 := Lib.hid (Hpa.out hsl); have Hrpa2 := Lib.hid (Hrpa.out hsl)
  clear h5 hsl
  go_wp2_with (rw [← W0.out])
  refine (Hline.out w0 (HG.out.below' B0.out)).mono ?_
  rintro e w1 ⟨rfl, b1⟩
  have B1 := Lib.hid (B0.out.trans (b1.mono B0.out.size)); have X1 := Lib.hid (X0.out.below b1 X0.out.lt)
  clear b1 c0 c1 c2
  obtain ⟨c0, c1, c2, -, -, -, -⟩ := X1.out
  go_wp2_with fail
  refine (Hrline.out w1).mono ?_
  rintro e w2 ⟨rfl, b2⟩
  have B2 := Lib.hid (B1.out.trans (b2.mono B1.out.size)); have X2 := Lib.hid (X1.out.below b2 X1.out.lt)
  clear b2 c0 c1 c2
  go_wp2_with fail
  refine (Hpa2.out w2 (HG.out.below' B2.out)).mono ?_
  rintro e w3 ⟨rfl, b3⟩
  obtain ⟨w4, hw4⟩ : ∃ w4, w4 = w3.alloc (.cells #[.int .i64 yo, .int .i64 yn, .string Y] 23) := ⟨_, rfl⟩
  have b4 : Below w3.heap.size w3 w4 := by rw [hw4]; exact (Below.refl _ _).alloc (Nat.le_refl _) _
  have Y4 := Lib.hid (show Bx w4 w3.heap.size (.int .i64 yo) (.int .i64 yn) (.string Y) by rw [hw4]; exact Bx.made _ _ _ _ _)
  have b34 := b3.trans (b4.mono b3.size)
  have B4 := Lib.hid (B2.out.trans (b34.mono B2.out.size)); have X4 := Lib.hid (X2.out.below b34 X2.out.lt)
  have W4 := Lib.hid hw4
  clear hw4 b3 b4 b34
  go_wp2_with (rw [← W4.out])
  refine (Hrpa2.out w4).mono ?_
  rintro e w5 ⟨rfl, b5⟩
  obtain ⟨w7, hw7⟩ : ∃ w7, w7 = w5.alloc (.cells #[.int .i64 yo, .int .i64 yn, .string Y] 23) := ⟨_, rfl⟩
  have b7 : Below w5.heap.size w5 w7 := by rw [hw7]; exact (Below.refl _ _).alloc (Nat.le_refl _) _
  have Z7 := Lib.hid (show Bx w7 w5.heap.size (.int .i64 yo) (.int .i64 yn) (.string Y) by rw [hw7]; exact Bx.made _ _ _ _ _)
  have b57 := b5.trans (b7.mono b5.size)
  have BB := Lib.hid (B4.out.trans (b57.mono B4.out.size)); have X7 := Lib.hid (X4.out.below b57 X4.out.lt); have Y7 := Lib.hid (Y4.out.below b57 Y4.out.lt)
  have W7 := Lib.hid hw7
  clear hw7 b5 b7 b57
  have f1 : (Y.toList == Y.toList) = true := beq_iff_eq.2 rfl
  have f2 : (M == M) = true := by cases M <;> rfl
  have f3 : (Q == Q) = true := beq_iff_eq.2 rfl
  have f4 : (NN == NN) = true := beq_iff_eq.2 rfl
  go_wp2_with (rw [← W7.out])
  refine wp_region_schedG (w7.heap.size) [(true, 0), (false, 1), (false, 2), (false, 3), (false, 4), (false, 5), (false, 6), (false, 7), (false, 8), (false, 9), (false, 10), (false, 11), (false, 12), (false, 13), (false, 14), (false, 15), (false, 16), (false, 17), (false, 18), (false, 19), (false, 20), (false, 21), (false, 22), (false, 24), (true, 23), (true, 25), (false, 26), (false, 27), (false, 28), (false, 29), (false, 30), (false, 32), (false, 33), (true, 31), (true, 34), (false, 35), (false, 36), (false, 37)] (by kernel_rfl) (by kernel_rfl) (by kernel_rfl) (by kernel_rfl) (fun _ _ d _ _ h => by cases d <;> exact h) ?_
  have cz0 : Below w7.heap.size w7 w7.drew := below_drewN (Below.refl _ _) 1
  refine wpG_call (o := { dst := some 43, op := Go.Op.call { callee := Go.Callee.value (Go.Operand.func 8), args := #[], argTypes := #[] }, type := 4, pos := "law.go:32", after := #[], guard := none }) rfl (by rfl) (fun K hK => ?_)
  go_simp
  go_at_call 8
  with_reducible refine (alive_c _ (HG.out.below' (BB.out.trans (cz0.mono BB.out.size)))).mono ?_
  rintro e u1 ⟨rfl, bq⟩
  have cz1 : Below w7.heap.size w7 u1 := cz0.trans (bq.mono cz0.size)
  refine hK _ _ (bq.mono cz0.size) ?_
  clear hK K bq
  refine wpG_read (o := { dst := some 44, op := Go.Op.move (Go.Operand.tmp 43), type := 4, pos := "law.go:32", after := #[{ on := 0, ground := Go.Ground.data }, { on := 0, ground := Go.Ground.chain }], guard := none }) (v := .bool true) rfl (by rfl) ?_ ?_
  · intro w' hg; go_simp; try rfl
  try simp only [Act.put, List.setIfInBounds_toArray, List.set_cons_zero, List.set_cons_succ]
  refine wpG_read (o := { dst := some 45, op := Go.Op.move (Go.Operand.tmp 5), type := 9, pos := "law.go:32", after := #[{ on := 1, ground := Go.Ground.guard }], guard := some (1, true) }) (v := st Q) rfl (by rfl) ?_ ?_
  · intro w' hg; go_simp; try rfl
  try simp only [Act.put, List.setIfInBounds_toArray, List.set_cons_zero, List.set_cons_succ]
  refine wpG_read (o := { dst := some 46, op := Go.Op.move (Go.Operand.tmp 7), type := 9, pos := "law.go:32", after := #[{ on := 1, ground := Go.Ground.guard }], guard := some (1, true) }) (v := st Q) rfl (by rfl) ?_ ?_
  · intro w' hg; go_simp; try rfl
  try simp only [Act.put, List.setIfInBounds_toArray, List.set_cons_zero, List.set_cons_succ]
  refine wpG_read (o := { dst := some 47, op := Go.Op.binOp Go.BinOp.eql 9 (Go.Operand.tmp 45) (Go.Operand.tmp 46) 9, type := 4, pos := "law.go:32", after := #[{ on := 2, ground := Go.Ground.data }, { on := 3, ground := Go.Ground.data }, { on := 1, ground := Go.Ground.guard }], guard := some (1, true) }) (v := .bool true) rfl (by rfl) ?_ ?_
  · intro w' hg; go_simp; try rfl
  try simp only [Act.put, List.setIfInBounds_toArray, List.set_cons_zero, List.set_cons_succ]
  refine wpG_read (o := { dst := some 48, op := Go.Op.pick (Go.Operand.tmp 44) (Go.Operand.tmp 47) (Go.Operand.const (Go.Value.bool false)), type := 4, pos := "law.go:32", after := #[{ on := 1, ground := Go.Ground.data }, { on := 4, ground := Go.Ground.data }], guard := none }) (v := .bool true) rfl (by rfl) ?_ ?_
  · intro w' hg; go_simp; try rfl
  try simp only [Act.put, List.setIfInBounds_toArray, List.set_cons_zero, List.set_cons_succ]
  refine wpG_read (o := { dst := some 49, op := Go.Op.move (Go.Operand.tmp 48), type := 4, pos := "law.go:32", after := #[{ on := 5, ground := Go.Ground.data }, { on := 1, ground := Go.Ground.chain }], guard := none }) (v := .bool true) rfl (by rfl) ?_ ?_
  · intro w' hg; go_simp; try rfl
  try simp only [Act.put, List.setIfInBounds_toArray, List.set_cons_zero, List.set_cons_succ]
  refine wpG_read (o := { dst := some 50, op := Go.Op.move (Go.Operand.tmp 6), type := 25, pos := "law.go:32", after := #[{ on := 6, ground := Go.Ground.guard }], guard := some (6, true) }) (v := .int .i64 E) rfl (by rfl) ?_ ?_
  · intro w' hg; go_simp; try rfl
  try simp only [Act.put, List.setIfInBounds_toArray, List.set_cons_zero, List.set_cons_succ]
  refine wpG_read (o := { dst := some 51, op := Go.Op.move (Go.Operand.tmp 8), type := 25, pos := "law.go:32", after := #[{ on := 6, ground := Go.Ground.guard }], guard := some (6, true) }) (v := .int .i64 E) rfl (by rfl) ?_ ?_
  · intro w' hg; go_simp; try rfl
  try simp only [Act.put, List.setIfInBounds_toArray, List.set_cons_zero, List.set_cons_succ]
  refine wpG_read (o := { dst := some 52, op := Go.Op.binOp Go.BinOp.eql 25 (Go.Operand.tmp 50) (Go.Operand.tmp 51) 25, type := 4, pos := "law.go:32", after := #[{ on := 7, ground := Go.Ground.data }, { on := 8, ground := Go.Ground.data }, { on := 6, ground := Go.Ground.guard }], guard := some (6, true) }) (v := .bool true) rfl (by rfl) ?_ ?_
  · intro w' hg; go_simp; try rfl
  try simp only [Act.put, List.setIfInBounds_toArray, List.set_cons_zero, List.set_cons_succ]
  refine wpG_read (o := { dst := some 53, op := Go.Op.pick (Go.Operand.tmp 49) (Go.Operand.tmp 52) (Go.Operand.const (Go.Value.bool false)), type := 4, pos := "law.go:32", after := #[{ on := 6, ground := Go.Ground.data }, { on := 9, ground := Go.Ground.data }], guard := none }) (v := .bool true) rfl (by rfl) ?_ ?_
  · intro w' hg; go_simp; try rfl
  try simp only [Act.put, List.setIfInBounds_toArray, List.set_cons_zero, List.set_cons_succ]
  refine wpG_read (o := { dst := some 54, op := Go.Op.move (Go.Operand.tmp 53), type := 4, pos := "law.go:32", after := #[{ on := 10, ground := Go.Ground.data }, { on := 6, ground := Go.Ground.chain }], guard := none }) (v := .bool true) rfl (by rfl) ?_ ?_
  · intro w' hg; go_simp; try rfl
  try simp only [Act.put, List.setIfInBounds_toArray, List.set_cons_zero, List.set_cons_succ]
  refine wpG_read (o := { dst := some 55, op := Go.Op.load 23 (Go.Operand.tmp 9), type := 23, pos := "law.go:32", after := #[{ on := 11, ground := Go.Ground.guard }], guard := some (11, true) }) (v := .agg #[.int .i64 yo, .int .i64 yn, .string Y]) rfl (by rfl) ?_ ?_
  · intro w' hg; obtain ⟨q0, q1, q2, -, -, -, -⟩ := Y7.out.below (cz1.trans (hg.mono (by first | exact Nat.le_refl _ | exact cz1.size))) Y7.out.lt; go_simp; try rfl
  try simp only [Act.put, List.setIfInBounds_toArray, List.set_cons_zero, List.set_cons_succ]
  refine wpG_read (o := { dst := some 56, op := Go.Op.load 23 (Go.Operand.tmp 11), type := 23, pos := "law.go:32", after := #[{ on := 11, ground := Go.Ground.guard }], guard := some (11, true) }) (v := .agg #[.int .i64 yo, .int .i64 yn, .string Y]) rfl (by rfl) ?_ ?_
  · intro w' hg; obtain ⟨q0, q1, q2, -, -, -, -⟩ := Z7.out.below (cz1.trans (hg.mono (by first | exact Nat.le_refl _ | exact cz1.size))) Z7.out.lt; go_simp; try rfl
  try simp only [Act.put, List.setIfInBounds_toArray, List.set_cons_zero, List.set_cons_succ]
  refine wpG_read (o := { dst := some 57, op := Go.Op.binOp Go.BinOp.eql 23 (Go.Operand.tmp 55) (Go.Operand.tmp 56) 23, type := 4, pos := "law.go:32", after := #[{ on := 12, ground := Go.Ground.data }, { on := 13, ground := Go.Ground.data }, { on := 11, ground := Go.Ground.guard }], guard := some (11, true) }) (v := .bool true) rfl (by rfl) ?_ ?_
  · intro w' hg; go_simp; try rfl
  try simp only [Act.put, List.setIfInBounds_toArray, List.set_cons_zero, List.set_cons_succ]
  refine wpG_read (o := { dst := some 58, op := Go.Op.pick (Go.Operand.tmp 54) (Go.Operand.tmp 57) (Go.Operand.const (Go.Value.bool false)), type := 4, pos := "law.go:32", after := #[{ on := 11, ground := Go.Ground.data }, { on := 14, ground := Go.Ground.data }], guard := none }) (v := .bool true) rfl (by rfl) ?_ ?_
  · intro w' hg; go_simp; try rfl
  try simp only [Act.put, List.setIfInBounds_toArray, List.set_cons_zero, List.set_cons_succ]
  refine wpG_read (o := { dst := some 59, op := Go.Op.move (Go.Operand.tmp 58), type := 4, pos := "law.go:32", after := #[{ on := 15, ground := Go.Ground.data }, { on := 11, ground := Go.Ground.chain }], guard := none }) (v := .bool true) rfl (by rfl) ?_ ?_
  · intro w' hg; go_simp; try rfl
  try simp only [Act.put, List.setIfInBounds_toArray, List.set_cons_zero, List.set_cons_succ]
  refine wpG_read (o := { dst := some 60, op := Go.Op.move (Go.Operand.tmp 10), type := 25, pos := "law.go:32", after := #[{ on := 16, ground := Go.Ground.guard }], guard := some (16, true) }) (v := .int .i64 F) rfl (by rfl) ?_ ?_
  · intro w' hg; go_simp; try rfl
  try simp only [Act.put, List.setIfInBounds_toArray, List.set_cons_zero, List.set_cons_succ]
  refine wpG_read (o := { dst := some 61, op := Go.Op.move (Go.Operand.tmp 12), type := 25, pos := "law.go:32", after := #[{ on := 16, ground := Go.Ground.guard }], guard := some (16, true) }) (v := .int .i64 F) rfl (by rfl) ?_ ?_
  · intro w' hg; go_simp; try rfl
  try simp only [Act.put, List.setIfInBounds_toArray, List.set_cons_zero, List.set_cons_succ]
  refine wpG_read (o := { dst := some 62, op := Go.Op.binOp Go.BinOp.eql 25 (Go.Operand.tmp 60) (Go.Operand.tmp 61) 25, type := 4, pos := "law.go:32", after := #[{ on := 17, ground := Go.Ground.data }, { on := 18, ground := Go.Ground.data }, { on := 16, ground := Go.Ground.guard }], guard := some (16, true) }) (v := .bool true) rfl (by rfl) ?_ ?_
  · intro w' hg; go_simp; try rfl
  try simp only [Act.put, List.setIfInBounds_toArray, List.set_cons_zero, List.set_cons_succ]
  refine wpG_read (o := { dst := some 63, op := Go.Op.pick (Go.Operand.tmp 59) (Go.Operand.tmp 62) (Go.Operand.const (Go.Value.bool false)), type := 4, pos := "law.go:32", after := #[{ on := 16, ground := Go.Ground.data }, { on := 19, ground := Go.Ground.data }], guard := none }) (v := .bool true) rfl (by rfl) ?_ ?_
  · intro w' hg; go_simp; try rfl
  try simp only [Act.put, List.setIfInBounds_toArray, List.set_cons_zero, List.set_cons_succ]
  refine wpG_read (o := { dst := some 64, op := Go.Op.move (Go.Operand.tmp 63), type := 4, pos := "law.go:32", after := #[{ on := 20, ground := Go.Ground.data }, { on := 16, ground := Go.Ground.chain }], guard := none }) (v := .bool true) rfl (by rfl) ?_ ?_
  · intro w' hg; go_simp; try rfl
  try simp only [Act.put, List.setIfInBounds_toArray, List.set_cons_zero, List.set_cons_succ]
  refine wpG_read (o := { dst := some 65, op := Go.Op.load 23 (Go.Operand.tmp 2), type := 23, pos := "law.go:32", after := #[{ on := 21, ground := Go.Ground.guard }], guard := some (21, true) }) (v := .agg #[.int .i64 op, .int .i64 n, .string S]) rfl (by rfl) ?_ ?_
  · intro w' hg; obtain ⟨q0, q1, q2, -, -, -, -⟩ := X7.out.below (cz1.trans (hg.mono (by first | exact Nat.le_refl _ | exact cz1.size))) X7.out.lt; go_simp; try rfl
  try simp only [Act.put, List.setIfInBounds_toArray, List.set_cons_zero, List.set_cons_succ]
  refine wpG_read (o := { dst := some 67, op := Go.Op.load 23 (Go.Operand.tmp 2), type := 23, pos := "law.go:32", after := #[{ on := 21, ground := Go.Ground.guard }], guard := some (21, true) }) (v := .agg #[.int .i64 op, .int .i64 n, .string S]) rfl (by rfl) ?_ ?_
  · intro w' hg; obtain ⟨q0, q1, q2, -, -, -, -⟩ := X7.out.below (cz1.trans (hg.mono (by first | exact Nat.le_refl _ | exact cz1.size))) X7.out.lt; go_simp; try rfl
  try simp only [Act.put, List.setIfInBounds_toArray, List.set_cons_zero, List.set_cons_succ]
  refine wpG_call (o := { dst := some 66, op := Go.Op.call { callee := Go.Callee.value (Go.Operand.func 13), args := #[Go.Operand.tmp 65], argTypes := #[23] }, type := 4, pos := "law.go:32", after := #[{ on := 22, ground := Go.Ground.data }, { on := 21, ground := Go.Ground.chain }, { on := 21, ground := Go.Ground.guard }], guard := some (21, true) }) rfl (by rfl) (fun K hK => ?_)
  go_simp
  go_at_call 13
  with_reducible refine (Hmay.out _).mono ?_
  rintro e u2 ⟨rfl, bq⟩
  have cz2 : Below w7.heap.size w7 u2 := cz1.trans (bq.mono cz1.size)
  refine hK _ _ (bq.mono cz1.size) ?_
  clear hK K bq
  try simp only [Act.put, List.setIfInBounds_toArray, List.set_cons_zero, List.set_cons_succ]
  refine wpG_call (o := { dst := some 68, op := Go.Op.call { callee := Go.Callee.value (Go.Operand.func 14), args := #[Go.Operand.tmp 67], argTypes := #[23] }, type := 4, pos := "law.go:32", after := #[{ on := 24, ground := Go.Ground.data }, { on := 23, ground := Go.Ground.chain }, { on := 21, ground := Go.Ground.guard }], guard := some (21, true) }) rfl (by rfl) (fun K hK => ?_)
  go_simp
  go_at_call 14
  with_reducible refine (Hrmay.out _).mono ?_
  rintro e u3 ⟨rfl, bq⟩
  have cz3 : Below w7.heap.size w7 u3 := cz2.trans (bq.mono cz2.size)
  refine hK _ _ (bq.mono cz2.size) ?_
  clear hK K bq
  try simp only [Act.put, List.setIfInBounds_toArray, List.set_cons_zero, List.set_cons_succ]
  refine wpG_read (o := { dst := some 69, op := Go.Op.binOp Go.BinOp.eql 4 (Go.Operand.tmp 66) (Go.Operand.tmp 68) 4, type := 4, pos := "law.go:32", after := #[{ on := 23, ground := Go.Ground.data }, { on := 25, ground := Go.Ground.data }, { on := 21, ground := Go.Ground.guard }], guard := some (21, true) }) (v := .bool true) rfl (by rfl) ?_ ?_
  · intro w' hg; go_simp; try rfl
  try simp only [Act.put, List.setIfInBounds_toArray, List.set_cons_zero, List.set_cons_succ]
  refine wpG_read (o := { dst := some 70, op := Go.Op.pick (Go.Operand.tmp 64) (Go.Operand.tmp 69) (Go.Operand.const (Go.Value.bool false)), type := 4, pos := "law.go:32", after := #[{ on := 21, ground := Go.Ground.data }, { on := 26, ground := Go.Ground.data }], guard := none }) (v := .bool true) rfl (by rfl) ?_ ?_
  · intro w' hg; go_simp; try rfl
  try simp only [Act.put, List.setIfInBounds_toArray, List.set_cons_zero, List.set_cons_succ]
  refine wpG_read (o := { dst := some 71, op := Go.Op.move (Go.Operand.tmp 70), type := 4, pos := "law.go:32", after := #[{ on := 27, ground := Go.Ground.data }, { on := 25, ground := Go.Ground.chain }], guard := none }) (v := .bool true) rfl (by rfl) ?_ ?_
  · intro w' hg; go_simp; try rfl
  try simp only [Act.put, List.setIfInBounds_toArray, List.set_cons_zero, List.set_cons_succ]
  refine wpG_read (o := { dst := some 72, op := Go.Op.fieldAddr 23 (Go.Operand.tmp 2) 0, type := 0, pos := "law.go:32", after := #[{ on := 28, ground := Go.Ground.guard }], guard := some (28, true) }) (v := .pointer (some ⟨w.heap.size, 0, none⟩)) rfl (by rfl) ?_ ?_
  · intro w' hg; go_simp; try rfl
  try simp only [Act.put, List.setIfInBounds_toArray, List.set_cons_zero, List.set_cons_succ]
  refine wpG_read (o := { dst := some 73, op := Go.Op.load 3 (Go.Operand.tmp 72), type := 3, pos := "law.go:32", after := #[{ on := 29, ground := Go.Ground.data }, { on := 28, ground := Go.Ground.guard }], guard := some (28, true) }) (v := .int .i64 op) rfl (by rfl) ?_ ?_
  · intro w' hg; obtain ⟨q0, q1, q2, -, -, -, -⟩ := X7.out.below (cz3.trans (hg.mono (by first | exact Nat.le_refl _ | exact cz3.size))) X7.out.lt; go_simp; try rfl
  try simp only [Act.put, List.setIfInBounds_toArray, List.set_cons_zero, List.set_cons_succ]
  refine wpG_read (o := { dst := some 75, op := Go.Op.fieldAddr 23 (Go.Operand.tmp 2) 0, type := 0, pos := "law.go:32", after := #[{ on := 28, ground := Go.Ground.guard }], guard := some (28, true) }) (v := .pointer (some ⟨w.heap.size, 0, none⟩)) rfl (by rfl) ?_ ?_
  · intro w' hg; go_simp; try rfl
  try simp only [Act.put, List.setIfInBounds_toArray, List.set_cons_zero, List.set_cons_succ]
  refine wpG_read (o := { dst := some 76, op := Go.Op.load 3 (Go.Operand.tmp 75), type := 3, pos := "law.go:32", after := #[{ on := 32, ground := Go.Ground.data }, { on := 28, ground := Go.Ground.guard }], guard := some (28, true) }) (v := .int .i64 op) rfl (by rfl) ?_ ?_
  · intro w' hg; obtain ⟨q0, q1, q2, -, -, -, -⟩ := X7.out.below (cz3.trans (hg.mono (by first | exact Nat.le_refl _ | exact cz3.size))) X7.out.lt; go_simp; try rfl
  try simp only [Act.put, List.setIfInBounds_toArray, List.set_cons_zero, List.set_cons_succ]
  refine wpG_call (o := { dst := some 74, op := Go.Op.call { callee := Go.Callee.value (Go.Operand.func 15), args := #[Go.Operand.tmp 73], argTypes := #[3] }, type := 9, pos := "law.go:32", after := #[{ on := 30, ground := Go.Ground.data }, { on := 28, ground := Go.Ground.chain }, { on := 28, ground := Go.Ground.guard }], guard := some (28, true) }) rfl (by rfl) (fun K hK => ?_)
  go_simp
  go_at_call 15
  with_reducible refine (Hnm.out _).mono ?_
  rintro e u4 ⟨rfl, bq⟩
  have cz4 : Below w7.heap.size w7 u4 := cz3.trans (bq.mono cz3.size)
  refine hK _ _ (bq.mono cz3.size) ?_
  clear hK K bq
  try simp only [Act.put, List.setIfInBounds_toArray, List.set_cons_zero, List.set_cons_succ]
  refine wpG_call (o := { dst := some 77, op := Go.Op.call { callee := Go.Callee.value (Go.Operand.func 16), args := #[Go.Operand.tmp 76], argTypes := #[3] }, type := 9, pos := "law.go:32", after := #[{ on := 33, ground := Go.Ground.data }, { on := 31, ground := Go.Ground.chain }, { on := 28, ground := Go.Ground.guard }], guard := some (28, true) }) rfl (by rfl) (fun K hK => ?_)
  go_simp
  go_at_call 16
  with_reducible refine (Hrnm.out _).mono ?_
  rintro e u5 ⟨rfl, bq⟩
  have cz5 : Below w7.heap.size w7 u5 := cz4.trans (bq.mono cz4.size)
  refine hK _ _ (bq.mono cz4.size) ?_
  clear hK K bq
  try simp only [Act.put, List.setIfInBounds_toArray, List.set_cons_zero, List.set_cons_succ]
  refine wpG_read (o := { dst := some 78, op := Go.Op.binOp Go.BinOp.eql 9 (Go.Operand.tmp 74) (Go.Operand.tmp 77) 9, type := 4, pos := "law.go:32", after := #[{ on := 31, ground := Go.Ground.data }, { on := 34, ground := Go.Ground.data }, { on := 28, ground := Go.Ground.guard }], guard := some (28, true) }) (v := .bool true) rfl (by rfl) ?_ ?_
  · intro w' hg; go_simp; try rfl
  try simp only [Act.put, List.setIfInBounds_toArray, List.set_cons_zero, List.set_cons_succ]
  refine wpG_read (o := { dst := some 79, op := Go.Op.pick (Go.Operand.tmp 71) (Go.Operand.tmp 78) (Go.Operand.const (Go.Value.bool false)), type := 4, pos := "law.go:32", after := #[{ on := 28, ground := Go.Ground.data }, { on := 35, ground := Go.Ground.data }], guard := none }) (v := .bool true) rfl (by rfl) ?_ ?_
  · intro w' hg; go_simp; try rfl
  try simp only [Act.put, List.setIfInBounds_toArray, List.set_cons_zero, List.set_cons_succ]
  refine wpG_read (o := { dst := some 4, op := Go.Op.assign (Go.Operand.tmp 79), type := 4, pos := "law.go:32", after := #[{ on := 36, ground := Go.Ground.data }, { on := 34, ground := Go.Ground.chain }, { on := 0, ground := Go.Ground.phase }, { on := 1, ground := Go.Ground.phase }, { on := 2, ground := Go.Ground.phase }, { on := 3, ground := Go.Ground.phase }, { on := 4, ground := Go.Ground.phase }, { on := 5, ground := Go.Ground.phase }, { on := 6, ground := Go.Ground.phase }, { on := 7, ground := Go.Ground.phase }, { on := 8, ground := Go.Ground.phase }, { on := 9, ground := Go.Ground.phase }, { on := 10, ground := Go.Ground.phase }, { on := 11, ground := Go.Ground.phase }, { on := 12, ground := Go.Ground.phase }, { on := 13, ground := Go.Ground.phase }, { on := 14, ground := Go.Ground.phase }, { on := 15, ground := Go.Ground.phase }, { on := 16, ground := Go.Ground.phase }, { on := 17, ground := Go.Ground.phase }, { on := 18, ground := Go.Ground.phase }, { on := 19, ground := Go.Ground.phase }, { on := 20, ground := Go.Ground.phase }, { on := 21, ground := Go.Ground.phase }, { on := 22, ground := Go.Ground.phase }, { on := 23, ground := Go.Ground.phase }, { on := 24, ground := Go.Ground.phase }, { on := 25, ground := Go.Ground.phase }, { on := 26, ground := Go.Ground.phase }, { on := 27, ground := Go.Ground.phase }, { on := 28, ground := Go.Ground.phase }, { on := 29, ground := Go.Ground.phase }, { on := 30, ground := Go.Ground.phase }, { on := 31, ground := Go.Ground.phase }, { on := 32, ground := Go.Ground.phase }, { on := 33, ground := Go.Ground.phase }, { on := 34, ground := Go.Ground.phase }, { on := 35, ground := Go.Ground.phase }, { on := 36, ground := Go.Ground.phase }], guard := none }) (v := .bool true) rfl (by rfl) ?_ ?_
  · intro w' hg; go_simp; try rfl
  try simp only [Act.put, List.setIfInBounds_toArray, List.set_cons_zero, List.set_cons_succ]
  refine wpG_done ?_
  have BZ := Lib.hid (BB.out.trans (cz5.mono BB.out.size))
  go_wp2
  go_ret
  exact ⟨by first | rfl | simp, BZ.out⟩
end Go.Proofs.YtpdapgbamlcjjaaGreatDoor
