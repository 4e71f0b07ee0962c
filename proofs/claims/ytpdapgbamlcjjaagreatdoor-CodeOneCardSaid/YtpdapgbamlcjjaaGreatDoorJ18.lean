/-
  Joined: D7 U8.
-/
import Derived.Test.YtpdapgbamlcjjaaGreatDoorJ17
import Derived.Test.YtpdapgbamlcjjaaGreatDoorJ7
import Derived.Test.YtpdapgbamlcjjaaGreatDoorJ16
import Derived.Lib.Builder
/-
  The document's Parse.
-/
namespace Go.Proofs.YtpdapgbamlcjjaaGreatDoor
open Go.RowKit Vl Cd

theorem figs_pos (n : Nat) : 1 ≤ (figs n).length := by obtain ⟨c, r, e, -, -⟩ := figs_cons n; rw [e]; simp
theorem opd_pos (x : Ins) : 1 ≤ (opd x).length := by
  unfold opd
  split
  · unfold qt; simp
  · unfold figures
    split
    · simp
    · exact figs_pos _
theorem numb_I (s : List UInt8) : I (numb s) := by
  have h : ∀ x, I (w64 x) := fun x => by unfold I; rw [w64_def]; omega
  unfold numb; split <;> exact h _
theorem ln_has {x : Ins} {s : List UInt8} {op : Int} (h : ln x = s) (ho : x.op = op) (hh : hasO op = true) : s = nm op ++ 32 :: opd x := by
  rw [← h]; unfold ln; rw [ho, if_pos hh]
theorem ln_no {x : Ins} {s : List UInt8} {op : Int} (h : ln x = s) (ho : x.op = op) : s.take (nm op).length = nm op ∧ (nm op).length ≤ s.length := by
  rw [← h]; unfold ln; rw [ho]; split <;> simp
theorem drop_has (N O : List UInt8) : (N ++ 32 :: O).drop (N.length + 1) = O := by
  rw [show N ++ 32 :: O = (N ++ [32]) ++ O by simp, show N.length + 1 = (N ++ [32]).length by simp, List.drop_left]
def PaRel (w : World) (s : List UInt8) (t4 : Value) (wr : World) : Prop :=
  ∃ k : Nat, k ≤ 24 ∧ t4 = .int .i64 (k : Int) ∧ (∀ x, Gd x → ln x = s → (k : Int) ≤ x.op) ∧ Bx wr w.heap.size (.int .i64 0) (.int .i64 0) (.string ⟨#[]⟩) ∧ Below w.heap.size w wr
set_option maxRecDepth 100000 in
set_option maxHeartbeats 8000000 in
theorem rparse_c (s : List UInt8) (hs1 : s.length ≤ 1000000) (w : World) : Calls Tryz.prog 12 #[st s] w (RetV w (prV s)) := by
  obtain ⟨X, hX, hXs, -, hXl⟩ := hide_st s
  show Calls _ _ #[.string ⟨s.toArray⟩] _ _
  rw [← hX]
  have hz : X.size ≤ 1000000 := by omega
  have HXL := Lib.hid hXs.symm
  have HX := Lib.hid hX
  clear hX hXs hXl
  obtain ⟨Q, hQ⟩ : ∃ Q, Q = prV s := ⟨_, rfl⟩
  rw [← hQ]
  have HQ := Lib.hid hQ
  clear hQ
  obtain ⟨w1, hw1⟩ : ∃ w1, w1 = w.alloc (.cells #[.int .i64 0, .int .i64 0, .string ⟨#[]⟩] 23) := ⟨_, rfl⟩
  have B1 := Lib.hid (show Below w.heap.size w w1 by rw [hw1]; exact (Below.refl _ _).alloc (Nat.le_refl _) _)
  have R1 := Lib.hid (show Bx w1 w.heap.size (.int .i64 0) (.int .i64 0) (.string ⟨#[]⟩) by rw [hw1]; exact Bx.made _ _ _ _ _)
  have W1 := Lib.hid hw1
  clear hw1
  go_enter Tryz.func12, Tryz.ntmps12
  go_wp2_with (rw [← W1.out])
  go_loopw [4] (fun t4 wr => PaRel w s t4 wr) (fun t4 _ => 24 - (intOf t4).toNat)
  case atStart => exact ⟨0, by omega, rfl, fun x h1 h2 => (may_op h1.1).1, R1.out, B1.out⟩
  case round =>
    obtain ⟨k, hk, rfl, hno, rbox, bel⟩ := hrel
    have Hno := Lib.hid hno; have R0 := Lib.hid rbox; have B0 := Lib.hid bel
    clear hno rbox bel
    by_cases hlt : k ≤ 23
    · have c1 : decide ((k : Int) ≤ 23) = true := decide_eq_true (by omega)
      have hIk : I (k : Int) := by unfold I; omega
      obtain ⟨N, hN⟩ : ∃ N, N = nm (k : Int) := ⟨_, rfl⟩
      have hNl := (nm_plain (k : Int)).1
      have Hnm := Lib.hid (fun W => (show Calls Tryz.prog 16 #[.int .i64 (k : Int)] W (RetV W (st N)) from by rw [hN]; exact rname_c (k : Int) hIk W))
      rw [← hN] at hNl
      have HN := Lib.hid hN; have HNl := Lib.hid hNl
      clear hIk hN hNl
      obtain ⟨w5, hw5⟩ : ∃ w5, w5 = wr.alloc (.cells #[.int .i64 (k : Int), .int .i64 0, .string ⟨#[]⟩] 23) := ⟨_, rfl⟩
      have b5 : Below wr.heap.size wr w5 := by rw [hw5]; exact (Below.refl _ _).alloc (Nat.le_refl _) _
      have X5 := Lib.hid (show Bx w5 wr.heap.size (.int .i64 (k : Int)) (.int .i64 0) (.string ⟨#[]⟩) by rw [hw5]; exact Bx.made _ _ _ _ _)
      have R5 := Lib.hid (R0.out.below b5 R0.out.lt)
      have B5 := Lib.hid (B0.out.trans (b5.mono B0.out.size))
      have W5 := Lib.hid hw5
      clear hw5 b5
      go_wp2_with (rw [← W5.out])
      refine (Hnm.out w5).mono ?_
      rintro e w6 ⟨rfl, b6⟩
      have X6 := Lib.hid (X5.out.below b6 X5.out.lt)
      have R6 := Lib.hid (R5.out.below b6 R5.out.lt)
      have B6 := Lib.hid (B5.out.trans (b6.mono B5.out.size))
      clear b6
      by_cases hm : X.size < N.length
      · have c2 : decide ((X.size : Int) < (N.length : Int)) = true := decide_eq_true (by omega)
        have HNO := Lib.hid (show ∀ x, Gd x → ln x = s → ((k + 1 : Nat) : Int) ≤ x.op from fun x h1 h2 => by
          have := Hno.out x h1 h2
          by_cases he : x.op = (k : Int)
          · have := (ln_no h2 he).2
            rw [← HN.out, HXL.out] at this
            omega
          · omega)
        go_wp2_with fail
        go_quiet (fail)
        have R8 := Lib.hid (R6.out.below (below_drewN (Below.refl w6.heap.size _) nq) R6.out.lt)
        have B8 := Lib.hid (below_drewN B6.out nq)
        go_wp2
        go_roundw
        case rel => exact ⟨k + 1, by omega, by go_num, HNO.out, R8.out, B8.out⟩
        case measure => simp [intOf]; omega
      · have c2 : decide ((X.size : Int) < (N.length : Int)) = false := decide_eq_false (by omega)
        obtain ⟨P, hP⟩ : ∃ P, P = s.take N.length := ⟨_, rfl⟩
        have e1 : X.extract 0 N.length = ⟨P.toArray⟩ := by
          have := ext_eq s 0 N.length
          rw [← HX.out] at this
          rw [this, hP, List.drop_zero]
        have e3 : N.length ≤ X.size := by omega
        have hm' : ¬ (X.size : Int) < (N.length : Int) := by omega
        by_cases hpn : P = N
        · have d1 : (P == N) = true := beq_iff_eq.2 hpn
          have HM := Lib.hid (show N.length ≤ X.size from e3)
          clear hP hpn hm
          go_wp2_with fail
          refine wp_region_schedG (w6.heap.size) [(false, 0), (false, 1), (false, 2), (false, 3), (false, 4), (false, 5), (false, 6), (false, 7), (false, 8), (true, 9), (false, 10), (false, 11)] (by kernel_rfl) (by kernel_rfl) (by kernel_rfl) (by kernel_rfl) (fun _ _ d _ _ h => by cases d <;> exact h) ?_
          refine wpG_read (o := { dst := some 18, op := Go.Op.move (Go.Operand.tmp 0), type := 9, pos := "ref.go:97", after := #[], guard := none }) (v := .string X) rfl (by rfl) ?_ ?_
          · intro w' hg; go_simp
          try simp only [Act.put, List.setIfInBounds_toArray, List.set_cons_zero, List.set_cons_succ]
          refine wpG_read (o := { dst := some 19, op := Go.Op.call { callee := Go.Callee.builtin Go.Builtin.len, args := #[Go.Operand.tmp 18], argTypes := #[9] }, type := 3, pos := "ref.go:97", after := #[{ on := 0, ground := Go.Ground.data }], guard := none }) (v := .int .i64 (X.size : Int)) rfl (by rfl) ?_ ?_
          · intro w' hg; go_simp
          try simp only [Act.put, List.setIfInBounds_toArray, List.set_cons_zero, List.set_cons_succ]
          refine wpG_read (o := { dst := some 20, op := Go.Op.move (Go.Operand.tmp 6), type := 3, pos := "ref.go:97", after := #[], guard := none }) (v := .int .i64 (N.length : Int)) rfl (by rfl) ?_ ?_
          · intro w' hg; go_simp
          try simp only [Act.put, List.setIfInBounds_toArray, List.set_cons_zero, List.set_cons_succ]
          refine wpG_read (o := { dst := some 21, op := Go.Op.binOp Go.BinOp.lss 3 (Go.Operand.tmp 19) (Go.Operand.tmp 20) 3, type := 4, pos := "ref.go:97", after := #[{ on := 1, ground := Go.Ground.data }, { on := 2, ground := Go.Ground.data }], guard := none }) (v := .bool false) rfl (by rfl) ?_ ?_
          · intro w' hg; go_simp
          try simp only [Act.put, List.setIfInBounds_toArray, List.set_cons_zero, List.set_cons_succ]
          refine wpG_read (o := { dst := some 22, op := Go.Op.move (Go.Operand.tmp 21), type := 4, pos := "ref.go:97", after := #[{ on := 3, ground := Go.Ground.data }], guard := none }) (v := .bool false) rfl (by rfl) ?_ ?_
          · intro w' hg; go_simp
          try simp only [Act.put, List.setIfInBounds_toArray, List.set_cons_zero, List.set_cons_succ]
          refine wpG_read (o := { dst := some 23, op := Go.Op.move (Go.Operand.tmp 0), type := 9, pos := "ref.go:97", after := #[{ on := 4, ground := Go.Ground.guard }], guard := some (4, false) }) (v := .string X) rfl (by rfl) ?_ ?_
          · intro w' hg; go_simp
          try simp only [Act.put, List.setIfInBounds_toArray, List.set_cons_zero, List.set_cons_succ]
          refine wpG_read (o := { dst := some 24, op := Go.Op.move (Go.Operand.tmp 6), type := 3, pos := "ref.go:97", after := #[{ on := 4, ground := Go.Ground.guard }], guard := some (4, false) }) (v := .int .i64 (N.length : Int)) rfl (by rfl) ?_ ?_
          · intro w' hg; go_simp
          try simp only [Act.put, List.setIfInBounds_toArray, List.set_cons_zero, List.set_cons_succ]
          refine wpG_read (o := { dst := some 25, op := Go.Op.slice 9 (Go.Operand.tmp 23) none (some (Go.Operand.tmp 24)) none, type := 9, pos := "ref.go:97", after := #[{ on := 5, ground := Go.Ground.data }, { on := 6, ground := Go.Ground.data }, { on := 4, ground := Go.Ground.guard }], guard := some (4, false) }) (v := .string ⟨P.toArray⟩) rfl (by rfl) ?_ ?_
          · intro w' hg; go_simp
          try simp only [Act.put, List.setIfInBounds_toArray, List.set_cons_zero, List.set_cons_succ]
          refine wpG_read (o := { dst := some 26, op := Go.Op.move (Go.Operand.tmp 4), type := 3, pos := "ref.go:97", after := #[{ on := 4, ground := Go.Ground.guard }], guard := some (4, false) }) (v := .int .i64 (k : Int)) rfl (by rfl) ?_ ?_
          · intro w' hg; go_simp
          try simp only [Act.put, List.setIfInBounds_toArray, List.set_cons_zero, List.set_cons_succ]
          refine wpG_call (o := { dst := some 27, op := Go.Op.call { callee := Go.Callee.value (Go.Operand.func 16), args := #[Go.Operand.tmp 26], argTypes := #[3] }, type := 9, pos := "ref.go:97", after := #[{ on := 8, ground := Go.Ground.data }, { on := 4, ground := Go.Ground.chain }, { on := 4, ground := Go.Ground.guard }], guard := some (4, false) }) rfl (by rfl) (fun K hK => ?_)
          go_simp
          go_at_call 16
          with_reducible refine (Hnm.out _).mono ?_
          rintro e w7 ⟨rfl, b7⟩
          refine hK _ _ b7 ?_
          clear hK K
          try simp only [Act.put, List.setIfInBounds_toArray, List.set_cons_zero, List.set_cons_succ]
          refine wpG_read (o := { dst := some 28, op := Go.Op.binOp Go.BinOp.neq 9 (Go.Operand.tmp 25) (Go.Operand.tmp 27) 9, type := 4, pos := "ref.go:97", after := #[{ on := 7, ground := Go.Ground.data }, { on := 9, ground := Go.Ground.data }, { on := 4, ground := Go.Ground.guard }], guard := some (4, false) }) (v := .bool false) rfl (by rfl) ?_ ?_
          · intro w' hg; go_simp
          try simp only [Act.put, List.setIfInBounds_toArray, List.set_cons_zero, List.set_cons_succ]
          refine wpG_read (o := { dst := some 29, op := Go.Op.pick (Go.Operand.tmp 22) (Go.Operand.const (Go.Value.bool true)) (Go.Operand.tmp 28), type := 4, pos := "ref.go:97", after := #[{ on := 4, ground := Go.Ground.data }, { on := 10, ground := Go.Ground.data }], guard := none }) (v := .bool false) rfl (by rfl) ?_ ?_
          · intro w' hg; go_simp
          try simp only [Act.put, List.setIfInBounds_toArray, List.set_cons_zero, List.set_cons_succ]
          refine wpG_done ?_
          have hb7 : Below w6.heap.size w6 w7 := (below_drewN (Below.refl _ _) 1).trans b7
          have X7 := Lib.hid (X6.out.below hb7 X6.out.lt)
          have R7 := Lib.hid (R6.out.below hb7 R6.out.lt)
          have B7 := Lib.hid (B6.out.trans (hb7.mono B6.out.size))
          clear b7 hb7 c2 e1 d1 hm'
          by_cases hl : N.length + 1 < X.size
          · have c3 : decide ((N.length : Int) + 1 < (X.size : Int)) = true := decide_eq_true (by omega)
            obtain ⟨D, hD⟩ : ∃ D, D = s.drop (N.length + 1) := ⟨_, rfl⟩
            have e2 : X.extract (N.length + 1) X.size = ⟨D.toArray⟩ := by
              have := ext_eq s (N.length + 1) X.size
              rw [← HX.out] at this
              rw [this, hD, List.take_of_length_le (by rw [HXL.out]; exact Nat.le_refl _)]
            have hDl : D.length ≤ 1000000 := by rw [hD, List.length_drop, HXL.out]; omega
            have e4 : N.length + 1 ≤ X.size := by omega
            have HOP := Lib.hid (show ∀ x, ln x = s → x.op = (k : Int) → hasO (k : Int) = true → D = opd x from fun x h1 h2 h3 => by
              have := ln_has h1 h2 h3
              rw [← HN.out] at this
              rw [hD, this, drop_has])
            clear hD hl
            by_cases k1 : k = 1
            · have d1 : ((k : Int) == 1) = true := beq_iff_eq.2 (by omega)
              have d0 : ((k : Int) == 0) = false := beq_eq_false_iff_ne.2 (by omega)
              have d2 : ((k : Int) == 2) = false := beq_eq_false_iff_ne.2 (by omega)
              have K1 := Lib.hid k1
              clear k1
              go_wp2_with fail
              refine (runquoted_c D hDl w7).mono ?_
              rintro e w9 ⟨u, rfl, hu, b9⟩
              have xx9 := X7.out.below b9 X7.out.lt
              have rr9 := R7.out.below b9 R7.out.lt
              obtain ⟨wY, hwY⟩ : ∃ wY, wY = w9.setCell ⟨wr.heap.size, 2, none⟩ (.string ⟨u.toArray⟩) := ⟨_, rfl⟩
              have XY := Lib.hid (show Bx wY wr.heap.size (.int .i64 (k : Int)) (.int .i64 0) (.string ⟨u.toArray⟩) by rw [hwY]; exact xx9.set2 _)
              have RY := Lib.hid (show Bx wY w.heap.size _ _ _ by rw [hwY]; exact rr9.other (b := wr.heap.size) 2 _ (fun q => by have := R0.out.lt; omega))
              have BY := Lib.hid (show Below w.heap.size w wY by rw [hwY]; exact (B7.out.trans (b9.mono B7.out.size)).setCell (show w.heap.size ≤ wr.heap.size from B0.out.size) _)
              have WY := Lib.hid hwY
              have HIN := Lib.hid (show I 0 by unfold I; omega)
              have HKEY := Lib.hid (show ∀ x, Gd x → x.op = (k : Int) → ln x = s → (⟨(k : Int), 0, u⟩ : Ins) = x from fun x h1 h2 h3 => by
                have k1 := K1.out
                have ho := HOP.out x h3 h2 ((hasO_iff _).2 (by omega))
                have hx1 : x.op = 1 := by omega
                have hu2 := hu x.s (by rw [ho]; unfold opd; rw [if_pos hx1])
                rw [show (k : Int) = 1 by omega]
                exact withT h1 hx1 hu2)
              clear hu b9 rr9 hwY
              obtain ⟨c0, c1, c2, f0, f1, f2, hlt9⟩ := xx9
              clear c0 c1 hlt9 f0 f1
              obtain ⟨y, hy⟩ : ∃ y : Ins, y = ⟨(k : Int), 0, u⟩ := ⟨_, rfl⟩
              have hIo : I y.op := by rw [hy]; unfold I; dsimp only; omega
              have hIn : I y.n := by rw [hy]; exact HIN.out
              have hli := rline_c y hIo hIn wY
              have hiv : iv y = .agg #[.int .i64 (k : Int), .int .i64 0, .string ⟨(u : List UInt8).toArray⟩] := by rw [hy]
              have HIV := Lib.hid hiv
              have hKY : ∀ x, Gd x → x.op = (k : Int) → ln x = s → y = x := fun x h1 h2 h3 => by rw [hy]; exact HKEY.out x h1 h2 h3
              have HKY := Lib.hid hKY
              clear hy hIo hiv hKY
              obtain ⟨c0, c1, c2, -, -, -, -⟩ := XY.out
              cases hm : may y
              · unfold lnV at hli
                rw [hm, if_neg (by simp), HIV.out] at hli
                have HL := Lib.hid hli
                have HNO := Lib.hid (show ∀ x, Gd x → ln x = s → ((k + 1 : Nat) : Int) ≤ x.op from fun x h1 h2 => by
                  have := Hno.out x h1 h2
                  by_cases he : x.op = (k : Int)
                  · have := HKY.out x h1 he h2
                    rw [this, h1.1] at hm; cases hm
                  · omega)
                clear hli hm
                go_wp2_with (first | rw [← WY.out] | fail)
                refine HL.out.mono ?_
                rintro e w8 ⟨rfl, b8⟩
                have R8 := Lib.hid (RY.out.below b8 RY.out.lt)
                have B8 := Lib.hid (BY.out.trans (b8.mono BY.out.size))
                clear b8
                go_wp2
                go_roundw
                case rel => exact ⟨k + 1, by omega, by go_num, HNO.out, R8.out, B8.out⟩
                case measure => simp [intOf]; omega
              · unfold lnV at hli
                rw [hm, if_pos rfl, HIV.out] at hli
                by_cases hl : ln y = s
                · rw [hl] at hli
                  have hp := pr_some (l := s) ⟨hm, hIn⟩ hl
                  have HQ := Lib.hid (show Ending.returned (.tuple #[.agg #[.int .i64 (k : Int), .int .i64 0, .string ⟨(u : List UInt8).toArray⟩], .int .i64 0]) = Ending.returned Q by rw [HQ.out, prV_some hp, HIV.out])
                  have hli2 : Calls Tryz.prog 10 #[.agg #[.int .i64 (k : Int), .int .i64 0, .string ⟨(u : List UInt8).toArray⟩]] wY (RetV wY (.tuple #[.string X, .int .i64 0])) := by rw [HX.out]; exact hli
                  have HL := Lib.hid hli2
                  have d9' : (X.toList == X.toList) = true := beq_iff_eq.2 rfl
                  clear hli hm hl hp hli2
                  go_wp2_with (first | rw [← WY.out] | fail)
                  refine HL.out.mono ?_
                  rintro e w8 ⟨rfl, b8⟩
                  have R8 := Lib.hid (RY.out.below b8 RY.out.lt)
                  have B8 := Lib.hid (BY.out.trans (b8.mono BY.out.size))
                  have X8 := Lib.hid (XY.out.below b8 XY.out.lt)
                  clear b8 c0 c1 c2
                  obtain ⟨c0, c1, c2, -, -, -, -⟩ := X8.out
                  obtain ⟨f0, f1, f2, g0, g1, g2, -⟩ := R8.out
                  go_wp2
                  change bodyPost _ _ _ _ _ (put3 w8 w.heap.size _ _ _)
                  have s0 := fun v0 v1 v2 => (put3_box R8.out v0 v1 v2).c0
                  have s1 := fun v0 v1 v2 => (put3_box R8.out v0 v1 v2).c1
                  have s2 := fun v0 v1 v2 => (put3_box R8.out v0 v1 v2).c2
                  refine bodyPost_ret (v := .tuple #[.agg #[.int .i64 (k : Int), .int .i64 0, .string ⟨(u : List UInt8).toArray⟩], .int .i64 0]) ?_ rfl ⟨HQ.out, B8.out.trans ((put3_below _ _ _ _ _).mono (by omega))⟩
                  simp [results, Tryz.results12, go_sem, s0, s1, s2]
                · have HNO := Lib.hid (show ∀ x, Gd x → ln x = s → ((k + 1 : Nat) : Int) ≤ x.op from fun x h1 h2 => by
                    have := Hno.out x h1 h2
                    by_cases he : x.op = (k : Int)
                    · have := HKY.out x h1 he h2
                      rw [this] at hl; exact absurd h2 hl
                    · omega)
                  obtain ⟨Z, hZ⟩ : ∃ Z : ByteArray, Z = ⟨(ln y).toArray⟩ := ⟨_, rfl⟩
                  have hzx : Z ≠ X := fun q => hl (by have := hZ.symm.trans (q.trans HX.out); injection this with this; simpa using this)
                  have HL := Lib.hid (show Calls Tryz.prog 10 #[.agg #[.int .i64 (k : Int), .int .i64 0, .string ⟨(u : List UInt8).toArray⟩]] wY (RetV wY (.tuple #[.string Z, .int .i64 0])) by rw [hZ]; exact hli)
                  have d9' : (Z.toList == X.toList) = false := beq_eq_false_iff_ne.2 (fun q => hzx (by
                    rw [Lib.toList_data, Lib.toList_data] at q
                    exact str_eq q))
                  clear hli hm hl hZ hzx
                  go_wp2_with (first | rw [← WY.out] | fail)
                  refine HL.out.mono ?_
                  rintro e w8 ⟨rfl, b8⟩
                  have R8 := Lib.hid (RY.out.below b8 RY.out.lt)
                  have B8 := Lib.hid (BY.out.trans (b8.mono BY.out.size))
                  clear b8
                  go_wp2
                  go_roundw
                  case rel => exact ⟨k + 1, by omega, by go_num, HNO.out, R8.out, B8.out⟩
                  case measure => simp [intOf]; omega
            · have d1 : ((k : Int) == 1) = false := beq_eq_false_iff_ne.2 (by omega)
              by_cases k2 : k = 0 ∨ k = 2
              · have d02 : (((k : Int) == 0) = true) ∨ (((k : Int) == 0) = false ∧ ((k : Int) == 2) = true) := by
                  rcases k2 with h | h
                  · exact .inl (beq_iff_eq.2 (by omega))
                  · exact .inr ⟨beq_eq_false_iff_ne.2 (by omega), beq_iff_eq.2 (by omega)⟩
                have K2 := Lib.hid k2
                clear k2
                obtain ⟨v, hv⟩ : ∃ v, v = numb D := ⟨_, rfl⟩
                have Hnu := Lib.hid (show Calls Tryz.prog 32 #[st D] w7 fun e w' => e = .returned (.int .i64 v) ∧ w' = w7 by rw [hv]; exact rnumber_c D hDl w7)
                have HIN := Lib.hid (show I v by rw [hv]; exact numb_I _)
                have HKEY := Lib.hid (show ∀ x, Gd x → x.op = (k : Int) → ln x = s → (⟨(k : Int), v, []⟩ : Ins) = x from fun x h1 h2 h3 => by
                  have ho := HOP.out x h3 h2 ((hasO_iff _).2 (by have := K2.out; omega))
                  refine withN (by have := K2.out; omega) h1 h2 ?_
                  rw [hv, ho]; unfold opd; rw [if_neg (by have := K2.out; omega), numb_figures h1.2])
                obtain ⟨wY, hwY⟩ : ∃ wY, wY = w7.setCell ⟨wr.heap.size, 1, none⟩ (.int .i64 v) := ⟨_, rfl⟩
                have XY := Lib.hid (show Bx wY wr.heap.size (.int .i64 (k : Int)) (.int .i64 v) (.string ⟨#[]⟩) by rw [hwY]; exact X7.out.set1 _)
                have RY := Lib.hid (show Bx wY w.heap.size _ _ _ by rw [hwY]; exact R7.out.other (b := wr.heap.size) 1 _ (fun q => by have := R0.out.lt; omega))
                have BY := Lib.hid (show Below w.heap.size w wY by rw [hwY]; exact B7.out.setCell (show w.heap.size ≤ wr.heap.size from B0.out.size) _)
                have WY := Lib.hid hwY
                clear hv hwY
                rcases d02 with d0 | ⟨d0, d2⟩
                all_goals
                  obtain ⟨-, z1, -, -, f1, -, -⟩ := X7.out
                  go_wp2_with fail
                  refine Hnu.out.mono ?_
                  rintro e w9 ⟨rfl, rfl⟩
                  obtain ⟨y, hy⟩ : ∃ y : Ins, y = ⟨(k : Int), v, []⟩ := ⟨_, rfl⟩
                  have hIo : I y.op := by rw [hy]; unfold I; dsimp only; omega
                  have hIn : I y.n := by rw [hy]; exact HIN.out
                  have hli := rline_c y hIo hIn wY
                  have hiv : iv y = .agg #[.int .i64 (k : Int), .int .i64 v, .string ⟨([] : List UInt8).toArray⟩] := by rw [hy]
                  have HIV := Lib.hid hiv
                  have hKY : ∀ x, Gd x → x.op = (k : Int) → ln x = s → y = x := fun x h1 h2 h3 => by rw [hy]; exact HKEY.out x h1 h2 h3
                  have HKY := Lib.hid hKY
                  clear hy hIo hiv hKY
                  obtain ⟨c0, c1, c2, -, -, -, -⟩ := XY.out
                  cases hm : may y
                  · unfold lnV at hli
                    rw [hm, if_neg (by simp), HIV.out] at hli
                    have HL := Lib.hid hli
                    have HNO := Lib.hid (show ∀ x, Gd x → ln x = s → ((k + 1 : Nat) : Int) ≤ x.op from fun x h1 h2 => by
                      have := Hno.out x h1 h2
                      by_cases he : x.op = (k : Int)
                      · have := HKY.out x h1 he h2
                        rw [this, h1.1] at hm; cases hm
                      · omega)
                    clear hli hm
                    go_wp2_with (first | rw [← WY.out] | fail)
                    refine HL.out.mono ?_
                    rintro e w8 ⟨rfl, b8⟩
                    have R8 := Lib.hid (RY.out.below b8 RY.out.lt)
                    have B8 := Lib.hid (BY.out.trans (b8.mono BY.out.size))
                    clear b8
                    go_wp2
                    go_roundw
                    case rel => exact ⟨k + 1, by omega, by go_num, HNO.out, R8.out, B8.out⟩
                    case measure => simp [intOf]; omega
                  · unfold lnV at hli
                    rw [hm, if_pos rfl, HIV.out] at hli
                    by_cases hl : ln y = s
                    · rw [hl] at hli
                      have hp := pr_some (l := s) ⟨hm, hIn⟩ hl
                      have HQ := Lib.hid (show Ending.returned (.tuple #[.agg #[.int .i64 (k : Int), .int .i64 v, .string ⟨([] : List UInt8).toArray⟩], .int .i64 0]) = Ending.returned Q by rw [HQ.out, prV_some hp, HIV.out])
                      have hli2 : Calls Tryz.prog 10 #[.agg #[.int .i64 (k : Int), .int .i64 v, .string ⟨([] : List UInt8).toArray⟩]] wY (RetV wY (.tuple #[.string X, .int .i64 0])) := by rw [HX.out]; exact hli
                      have HL := Lib.hid hli2
                      have d9' : (X.toList == X.toList) = true := beq_iff_eq.2 rfl
                      clear hli hm hl hp hli2
                      go_wp2_with (first | rw [← WY.out] | fail)
                      refine HL.out.mono ?_
                      rintro e w8 ⟨rfl, b8⟩
                      have R8 := Lib.hid (RY.out.below b8 RY.out.lt)
                      have B8 := Lib.hid (BY.out.trans (b8.mono BY.out.size))
                      have X8 := Lib.hid (XY.out.below b8 XY.out.lt)
                      clear b8 c0 c1 c2
                      obtain ⟨c0, c1, c2, -, -, -, -⟩ := X8.out
                      obtain ⟨f0, f1, f2, g0, g1, g2, -⟩ := R8.out
                      go_wp2
                      change bodyPost _ _ _ _ _ (put3 w8 w.heap.size _ _ _)
                      have s0 := fun v0 v1 v2 => (put3_box R8.out v0 v1 v2).c0
                      have s1 := fun v0 v1 v2 => (put3_box R8.out v0 v1 v2).c1
                      have s2 := fun v0 v1 v2 => (put3_box R8.out v0 v1 v2).c2
                      refine bodyPost_ret (v := .tuple #[.agg #[.int .i64 (k : Int), .int .i64 v, .string ⟨([] : List UInt8).toArray⟩], .int .i64 0]) ?_ rfl ⟨HQ.out, B8.out.trans ((put3_below _ _ _ _ _).mono (by omega))⟩
                      simp [results, Tryz.results12, go_sem, s0, s1, s2]
                    · have HNO := Lib.hid (show ∀ x, Gd x → ln x = s → ((k + 1 : Nat) : Int) ≤ x.op from fun x h1 h2 => by
                        have := Hno.out x h1 h2
                        by_cases he : x.op = (k : Int)
                        · have := HKY.out x h1 he h2
                          rw [this] at hl; exact absurd h2 hl
                        · omega)
                      obtain ⟨Z, hZ⟩ : ∃ Z : ByteArray, Z = ⟨(ln y).toArray⟩ := ⟨_, rfl⟩
                      have hzx : Z ≠ X := fun q => hl (by have := hZ.symm.trans (q.trans HX.out); injection this with this; simpa using this)
                      have HL := Lib.hid (show Calls Tryz.prog 10 #[.agg #[.int .i64 (k : Int), .int .i64 v, .string ⟨([] : List UInt8).toArray⟩]] wY (RetV wY (.tuple #[.string Z, .int .i64 0])) by rw [hZ]; exact hli)
                      have d9' : (Z.toList == X.toList) = false := beq_eq_false_iff_ne.2 (fun q => hzx (by
                        rw [Lib.toList_data, Lib.toList_data] at q
                        exact str_eq q))
                      clear hli hm hl hZ hzx
                      go_wp2_with (first | rw [← WY.out] | fail)
                      refine HL.out.mono ?_
                      rintro e w8 ⟨rfl, b8⟩
                      have R8 := Lib.hid (RY.out.below b8 RY.out.lt)
                      have B8 := Lib.hid (BY.out.trans (b8.mono BY.out.size))
                      clear b8
                      go_wp2
                      go_roundw
                      case rel => exact ⟨k + 1, by omega, by go_num, HNO.out, R8.out, B8.out⟩
                      case measure => simp [intOf]; omega
              · have d0 : ((k : Int) == 0) = false := beq_eq_false_iff_ne.2 (by omega)
                have d2 : ((k : Int) == 2) = false := beq_eq_false_iff_ne.2 (by omega)
                have HKEY := Lib.hid (show ∀ x, Gd x → x.op = (k : Int) → ln x = s → (⟨(k : Int), 0, []⟩ : Ins) = x from fun x h1 h2 h3 => withO (by omega) (by omega) (by omega) h1 h2)
                obtain ⟨wY, hwY⟩ : ∃ wY, wY = w7 := ⟨_, rfl⟩
                have XY := Lib.hid (show Bx wY wr.heap.size _ _ _ by rw [hwY]; exact X7.out)
                have RY := Lib.hid (show Bx wY w.heap.size _ _ _ by rw [hwY]; exact R7.out)
                have BY := Lib.hid (show Below w.heap.size w wY by rw [hwY]; exact B7.out)
                have WY := Lib.hid hwY
                clear hwY
                have HIN := Lib.hid (show I 0 by unfold I; omega)
                rw [← WY.out]
                obtain ⟨y, hy⟩ : ∃ y : Ins, y = ⟨(k : Int), 0, []⟩ := ⟨_, rfl⟩
                have hIo : I y.op := by rw [hy]; unfold I; dsimp only; omega
                have hIn : I y.n := by rw [hy]; exact HIN.out
                have hli := rline_c y hIo hIn wY
                have hiv : iv y = .agg #[.int .i64 (k : Int), .int .i64 0, .string ⟨([] : List UInt8).toArray⟩] := by rw [hy]
                have HIV := Lib.hid hiv
                have hKY : ∀ x, Gd x → x.op = (k : Int) → ln x = s → y = x := fun x h1 h2 h3 => by rw [hy]; exact HKEY.out x h1 h2 h3
                have HKY := Lib.hid hKY
                clear hy hIo hiv hKY
                obtain ⟨c0, c1, c2, -, -, -, -⟩ := XY.out
                cases hm : may y
                · unfold lnV at hli
                  rw [hm, if_neg (by simp), HIV.out] at hli
                  have HL := Lib.hid hli
                  have HNO := Lib.hid (show ∀ x, Gd x → ln x = s → ((k + 1 : Nat) : Int) ≤ x.op from fun x h1 h2 => by
                    have := Hno.out x h1 h2
                    by_cases he : x.op = (k : Int)
                    · have := HKY.out x h1 he h2
                      rw [this, h1.1] at hm; cases hm
                    · omega)
                  clear hli hm
                  go_wp2_with (first | rw [← WY.out] | fail)
                  refine HL.out.mono ?_
                  rintro e w8 ⟨rfl, b8⟩
                  have R8 := Lib.hid (RY.out.below b8 RY.out.lt)
                  have B8 := Lib.hid (BY.out.trans (b8.mono BY.out.size))
                  clear b8
                  go_wp2
                  go_roundw
                  case rel => exact ⟨k + 1, by omega, by go_num, HNO.out, R8.out, B8.out⟩
                  case measure => simp [intOf]; omega
                · unfold lnV at hli
                  rw [hm, if_pos rfl, HIV.out] at hli
                  by_cases hl : ln y = s
                  · rw [hl] at hli
                    have hp := pr_some (l := s) ⟨hm, hIn⟩ hl
                    have HQ := Lib.hid (show Ending.returned (.tuple #[.agg #[.int .i64 (k : Int), .int .i64 0, .string ⟨([] : List UInt8).toArray⟩], .int .i64 0]) = Ending.returned Q by rw [HQ.out, prV_some hp, HIV.out])
                    have hli2 : Calls Tryz.prog 10 #[.agg #[.int .i64 (k : Int), .int .i64 0, .string ⟨([] : List UInt8).toArray⟩]] wY (RetV wY (.tuple #[.string X, .int .i64 0])) := by rw [HX.out]; exact hli
                    have HL := Lib.hid hli2
                    have d9' : (X.toList == X.toList) = true := beq_iff_eq.2 rfl
                    clear hli hm hl hp hli2
                    go_wp2_with (first | rw [← WY.out] | fail)
                    refine HL.out.mono ?_
                    rintro e w8 ⟨rfl, b8⟩
                    have R8 := Lib.hid (RY.out.below b8 RY.out.lt)
                    have B8 := Lib.hid (BY.out.trans (b8.mono BY.out.size))
                    have X8 := Lib.hid (XY.out.below b8 XY.out.lt)
                    clear b8 c0 c1 c2
                    obtain ⟨c0, c1, c2, -, -, -, -⟩ := X8.out
                    obtain ⟨f0, f1, f2, g0, g1, g2, -⟩ := R8.out
                    go_wp2
                    change bodyPost _ _ _ _ _ (put3 w8 w.heap.size _ _ _)
                    have s0 := fun v0 v1 v2 => (put3_box R8.out v0 v1 v2).c0
                    have s1 := fun v0 v1 v2 => (put3_box R8.out v0 v1 v2).c1
                    have s2 := fun v0 v1 v2 => (put3_box R8.out v0 v1 v2).c2
                    refine bodyPost_ret (v := .tuple #[.agg #[.int .i64 (k : Int), .int .i64 0, .string ⟨([] : List UInt8).toArray⟩], .int .i64 0]) ?_ rfl ⟨HQ.out, B8.out.trans ((put3_below _ _ _ _ _).mono (by omega))⟩
                    simp [results, Tryz.results12, go_sem, s0, s1, s2]
                  · have HNO := Lib.hid (show ∀ x, Gd x → ln x = s → ((k + 1 : Nat) : Int) ≤ x.op from fun x h1 h2 => by
                      have := Hno.out x h1 h2
                      by_cases he : x.op = (k : Int)
                      · have := HKY.out x h1 he h2
                        rw [this] at hl; exact absurd h2 hl
                      · omega)
                    obtain ⟨Z, hZ⟩ : ∃ Z : ByteArray, Z = ⟨(ln y).toArray⟩ := ⟨_, rfl⟩
                    have hzx : Z ≠ X := fun q => hl (by have := hZ.symm.trans (q.trans HX.out); injection this with this; simpa using this)
                    have HL := Lib.hid (show Calls Tryz.prog 10 #[.agg #[.int .i64 (k : Int), .int .i64 0, .string ⟨([] : List UInt8).toArray⟩]] wY (RetV wY (.tuple #[.string Z, .int .i64 0])) by rw [hZ]; exact hli)
                    have d9' : (Z.toList == X.toList) = false := beq_eq_false_iff_ne.2 (fun q => hzx (by
                      rw [Lib.toList_data, Lib.toList_data] at q
                      exact str_eq q))
                    clear hli hm hl hZ hzx
                    go_wp2_with (first | rw [← WY.out] | fail)
                    refine HL.out.mono ?_
                    rintro e w8 ⟨rfl, b8⟩
                    have R8 := Lib.hid (RY.out.below b8 RY.out.lt)
                    have B8 := Lib.hid (BY.out.trans (b8.mono BY.out.size))
                    clear b8
                    go_wp2
                    go_roundw
                    case rel => exact ⟨k + 1, by omega, by go_num, HNO.out, R8.out, B8.out⟩
                    case measure => simp [intOf]; omega
          · have c3 : decide ((N.length : Int) + 1 < (X.size : Int)) = false := decide_eq_false (by omega)
            have HKEY := Lib.hid (show ∀ x, Gd x → x.op = (k : Int) → ln x = s → (⟨(k : Int), 0, []⟩ : Ins) = x from fun x h1 h2 h3 => by
              by_cases ho : hasO (k : Int) = true
              · have h4 := ln_has h3 h2 ho
                have h5 := opd_pos x
                have := congrArg List.length h4
                rw [HXL.out, ← HN.out, List.length_append, List.length_cons] at this
                omega
              · have hno : ¬ ((k : Int) = 0 ∨ (k : Int) = 1 ∨ (k : Int) = 2) := fun q => ho ((hasO_iff _).2 q)
                exact withO (by omega) (by omega) (by omega) h1 h2)
            clear hl
            obtain ⟨wY, hwY⟩ : ∃ wY, wY = w7 := ⟨_, rfl⟩
            have XY := Lib.hid (show Bx wY wr.heap.size _ _ _ by rw [hwY]; exact X7.out)
            have RY := Lib.hid (show Bx wY w.heap.size _ _ _ by rw [hwY]; exact R7.out)
            have BY := Lib.hid (show Below w.heap.size w wY by rw [hwY]; exact B7.out)
            have WY := Lib.hid hwY
            clear hwY
            have HIN := Lib.hid (show I 0 by unfold I; omega)
            rw [← WY.out]
            obtain ⟨y, hy⟩ : ∃ y : Ins, y = ⟨(k : Int), 0, []⟩ := ⟨_, rfl⟩
            have hIo : I y.op := by rw [hy]; unfold I; dsimp only; omega
            have hIn : I y.n := by rw [hy]; exact HIN.out
            have hli := rline_c y hIo hIn wY
            have hiv : iv y = .agg #[.int .i64 (k : Int), .int .i64 0, .string ⟨([] : List UInt8).toArray⟩] := by rw [hy]
            have HIV := Lib.hid hiv
            have hKY : ∀ x, Gd x → x.op = (k : Int) → ln x = s → y = x := fun x h1 h2 h3 => by rw [hy]; exact HKEY.out x h1 h2 h3
            have HKY := Lib.hid hKY
            clear hy hIo hiv hKY
            obtain ⟨c0, c1, c2, -, -, -, -⟩ := XY.out
            cases hm : may y
            · unfold lnV at hli
              rw [hm, if_neg (by simp), HIV.out] at hli
              have HL := Lib.hid hli
              have HNO := Lib.hid (show ∀ x, Gd x → ln x = s → ((k + 1 : Nat) : Int) ≤ x.op from fun x h1 h2 => by
                have := Hno.out x h1 h2
                by_cases he : x.op = (k : Int)
                · have := HKY.out x h1 he h2
                  rw [this, h1.1] at hm; cases hm
                · omega)
              clear hli hm
              go_wp2_with (first | rw [← WY.out] | fail)
              refine HL.out.mono ?_
              rintro e w8 ⟨rfl, b8⟩
              have R8 := Lib.hid (RY.out.below b8 RY.out.lt)
              have B8 := Lib.hid (BY.out.trans (b8.mono BY.out.size))
              clear b8
              go_wp2
              go_roundw
              case rel => exact ⟨k + 1, by omega, by go_num, HNO.out, R8.out, B8.out⟩
              case measure => simp [intOf]; omega
            · unfold lnV at hli
              rw [hm, if_pos rfl, HIV.out] at hli
              by_cases hl : ln y = s
              · rw [hl] at hli
                have hp := pr_some (l := s) ⟨hm, hIn⟩ hl
                have HQ := Lib.hid (show Ending.returned (.tuple #[.agg #[.int .i64 (k : Int), .int .i64 0, .string ⟨([] : List UInt8).toArray⟩], .int .i64 0]) = Ending.returned Q by rw [HQ.out, prV_some hp, HIV.out])
                have hli2 : Calls Tryz.prog 10 #[.agg #[.int .i64 (k : Int), .int .i64 0, .string ⟨([] : List UInt8).toArray⟩]] wY (RetV wY (.tuple #[.string X, .int .i64 0])) := by rw [HX.out]; exact hli
                have HL := Lib.hid hli2
                have d9' : (X.toList == X.toList) = true := beq_iff_eq.2 rfl
                clear hli hm hl hp hli2
                go_wp2_with (first | rw [← WY.out] | fail)
                refine HL.out.mono ?_
                rintro e w8 ⟨rfl, b8⟩
                have R8 := Lib.hid (RY.out.below b8 RY.out.lt)
                have B8 := Lib.hid (BY.out.trans (b8.mono BY.out.size))
                have X8 := Lib.hid (XY.out.below b8 XY.out.lt)
                clear b8 c0 c1 c2
                obtain ⟨c0, c1, c2, -, -, -, -⟩ := X8.out
                obtain ⟨f0, f1, f2, g0, g1, g2, -⟩ := R8.out
                go_wp2
                change bodyPost _ _ _ _ _ (put3 w8 w.heap.size _ _ _)
                have s0 := fun v0 v1 v2 => (put3_box R8.out v0 v1 v2).c0
                have s1 := fun v0 v1 v2 => (put3_box R8.out v0 v1 v2).c1
                have s2 := fun v0 v1 v2 => (put3_box R8.out v0 v1 v2).c2
                refine bodyPost_ret (v := .tuple #[.agg #[.int .i64 (k : Int), .int .i64 0, .string ⟨([] : List UInt8).toArray⟩], .int .i64 0]) ?_ rfl ⟨HQ.out, B8.out.trans ((put3_below _ _ _ _ _).mono (by omega))⟩
                simp [results, Tryz.results12, go_sem, s0, s1, s2]
              · have HNO := Lib.hid (show ∀ x, Gd x → ln x = s → ((k + 1 : Nat) : Int) ≤ x.op from fun x h1 h2 => by
                  have := Hno.out x h1 h2
                  by_cases he : x.op = (k : Int)
                  · have := HKY.out x h1 he h2
                    rw [this] at hl; exact absurd h2 hl
                  · omega)
                obtain ⟨Z, hZ⟩ : ∃ Z : ByteArray, Z = ⟨(ln y).toArray⟩ := ⟨_, rfl⟩
                have hzx : Z ≠ X := fun q => hl (by have := hZ.symm.trans (q.trans HX.out); injection this with this; simpa using this)
                have HL := Lib.hid (show Calls Tryz.prog 10 #[.agg #[.int .i64 (k : Int), .int .i64 0, .string ⟨([] : List UInt8).toArray⟩]] wY (RetV wY (.tuple #[.string Z, .int .i64 0])) by rw [hZ]; exact hli)
                have d9' : (Z.toList == X.toList) = false := beq_eq_false_iff_ne.2 (fun q => hzx (by
                  rw [Lib.toList_data, Lib.toList_data] at q
                  exact str_eq q))
                clear hli hm hl hZ hzx
                go_wp2_with (first | rw [← WY.out] | fail)
                refine HL.out.mono ?_
                rintro e w8 ⟨rfl, b8⟩
                have R8 := Lib.hid (RY.out.below b8 RY.out.lt)
                have B8 := Lib.hid (BY.out.trans (b8.mono BY.out.size))
                clear b8
                go_wp2
                go_roundw
                case rel => exact ⟨k + 1, by omega, by go_num, HNO.out, R8.out, B8.out⟩
                case measure => simp [intOf]; omega
        · have d1 : (P == N) = false := beq_eq_false_iff_ne.2 hpn
          have HNO := Lib.hid (show ∀ x, Gd x → ln x = s → ((k + 1 : Nat) : Int) ≤ x.op from fun x h1 h2 => by
            have := Hno.out x h1 h2
            by_cases he : x.op = (k : Int)
            · have := (ln_no h2 he).1
              rw [← HN.out, ← hP] at this
              exact absurd this hpn
            · omega)
          clear hP hpn hm
          go_wp2_with fail
          refine wp_region_schedG (w6.heap.size) [(false, 0), (false, 1), (false, 2), (false, 3), (false, 4), (false, 5), (false, 6), (false, 7), (false, 8), (true, 9), (false, 10), (false, 11)] (by kernel_rfl) (by kernel_rfl) (by kernel_rfl) (by kernel_rfl) (fun _ _ d _ _ h => by cases d <;> exact h) ?_
          refine wpG_read (o := { dst := some 18, op := Go.Op.move (Go.Operand.tmp 0), type := 9, pos := "ref.go:97", after := #[], guard := none }) (v := .string X) rfl (by rfl) ?_ ?_
          · intro w' hg; go_simp
          try simp only [Act.put, List.setIfInBounds_toArray, List.set_cons_zero, List.set_cons_succ]
          refine wpG_read (o := { dst := some 19, op := Go.Op.call { callee := Go.Callee.builtin Go.Builtin.len, args := #[Go.Operand.tmp 18], argTypes := #[9] }, type := 3, pos := "ref.go:97", after := #[{ on := 0, ground := Go.Ground.data }], guard := none }) (v := .int .i64 (X.size : Int)) rfl (by rfl) ?_ ?_
          · intro w' hg; go_simp
          try simp only [Act.put, List.setIfInBounds_toArray, List.set_cons_zero, List.set_cons_succ]
          refine wpG_read (o := { dst := some 20, op := Go.Op.move (Go.Operand.tmp 6), type := 3, pos := "ref.go:97", after := #[], guard := none }) (v := .int .i64 (N.length : Int)) rfl (by rfl) ?_ ?_
          · intro w' hg; go_simp
          try simp only [Act.put, List.setIfInBounds_toArray, List.set_cons_zero, List.set_cons_succ]
          refine wpG_read (o := { dst := some 21, op := Go.Op.binOp Go.BinOp.lss 3 (Go.Operand.tmp 19) (Go.Operand.tmp 20) 3, type := 4, pos := "ref.go:97", after := #[{ on := 1, ground := Go.Ground.data }, { on := 2, ground := Go.Ground.data }], guard := none }) (v := .bool false) rfl (by rfl) ?_ ?_
          · intro w' hg; go_simp
          try simp only [Act.put, List.setIfInBounds_toArray, List.set_cons_zero, List.set_cons_succ]
          refine wpG_read (o := { dst := some 22, op := Go.Op.move (Go.Operand.tmp 21), type := 4, pos := "ref.go:97", after := #[{ on := 3, ground := Go.Ground.data }], guard := none }) (v := .bool false) rfl (by rfl) ?_ ?_
          · intro w' hg; go_simp
          try simp only [Act.put, List.setIfInBounds_toArray, List.set_cons_zero, List.set_cons_succ]
          refine wpG_read (o := { dst := some 23, op := Go.Op.move (Go.Operand.tmp 0), type := 9, pos := "ref.go:97", after := #[{ on := 4, ground := Go.Ground.guard }], guard := some (4, false) }) (v := .string X) rfl (by rfl) ?_ ?_
          · intro w' hg; go_simp
          try simp only [Act.put, List.setIfInBounds_toArray, List.set_cons_zero, List.set_cons_succ]
          refine wpG_read (o := { dst := some 24, op := Go.Op.move (Go.Operand.tmp 6), type := 3, pos := "ref.go:97", after := #[{ on := 4, ground := Go.Ground.guard }], guard := some (4, false) }) (v := .int .i64 (N.length : Int)) rfl (by rfl) ?_ ?_
          · intro w' hg; go_simp
          try simp only [Act.put, List.setIfInBounds_toArray, List.set_cons_zero, List.set_cons_succ]
          refine wpG_read (o := { dst := some 25, op := Go.Op.slice 9 (Go.Operand.tmp 23) none (some (Go.Operand.tmp 24)) none, type := 9, pos := "ref.go:97", after := #[{ on := 5, ground := Go.Ground.data }, { on := 6, ground := Go.Ground.data }, { on := 4, ground := Go.Ground.guard }], guard := some (4, false) }) (v := .string ⟨P.toArray⟩) rfl (by rfl) ?_ ?_
          · intro w' hg; go_simp
          try simp only [Act.put, List.setIfInBounds_toArray, List.set_cons_zero, List.set_cons_succ]
          refine wpG_read (o := { dst := some 26, op := Go.Op.move (Go.Operand.tmp 4), type := 3, pos := "ref.go:97", after := #[{ on := 4, ground := Go.Ground.guard }], guard := some (4, false) }) (v := .int .i64 (k : Int)) rfl (by rfl) ?_ ?_
          · intro w' hg; go_simp
          try simp only [Act.put, List.setIfInBounds_toArray, List.set_cons_zero, List.set_cons_succ]
          refine wpG_call (o := { dst := some 27, op := Go.Op.call { callee := Go.Callee.value (Go.Operand.func 16), args := #[Go.Operand.tmp 26], argTypes := #[3] }, type := 9, pos := "ref.go:97", after := #[{ on := 8, ground := Go.Ground.data }, { on := 4, ground := Go.Ground.chain }, { on := 4, ground := Go.Ground.guard }], guard := some (4, false) }) rfl (by rfl) (fun K hK => ?_)
          go_simp
          go_at_call 16
          with_reducible refine (Hnm.out _).mono ?_
          rintro e w7 ⟨rfl, b7⟩
          refine hK _ _ b7 ?_
          clear hK K
          try simp only [Act.put, List.setIfInBounds_toArray, List.set_cons_zero, List.set_cons_succ]
          refine wpG_read (o := { dst := some 28, op := Go.Op.binOp Go.BinOp.neq 9 (Go.Operand.tmp 25) (Go.Operand.tmp 27) 9, type := 4, pos := "ref.go:97", after := #[{ on := 7, ground := Go.Ground.data }, { on := 9, ground := Go.Ground.data }, { on := 4, ground := Go.Ground.guard }], guard := some (4, false) }) (v := .bool true) rfl (by rfl) ?_ ?_
          · intro w' hg; go_simp
          try simp only [Act.put, List.setIfInBounds_toArray, List.set_cons_zero, List.set_cons_succ]
          refine wpG_read (o := { dst := some 29, op := Go.Op.pick (Go.Operand.tmp 22) (Go.Operand.const (Go.Value.bool true)) (Go.Operand.tmp 28), type := 4, pos := "ref.go:97", after := #[{ on := 4, ground := Go.Ground.data }, { on := 10, ground := Go.Ground.data }], guard := none }) (v := .bool true) rfl (by rfl) ?_ ?_
          · intro w' hg; go_simp
          try simp only [Act.put, List.setIfInBounds_toArray, List.set_cons_zero, List.set_cons_succ]
          refine wpG_done ?_
          have hb7 : Below w6.heap.size w6 w7 := (below_drewN (Below.refl _ _) 1).trans b7
          have R8 := Lib.hid (R6.out.below hb7 R6.out.lt)
          have B8 := Lib.hid (B6.out.trans (hb7.mono B6.out.size))
          clear b7 hb7
          go_wp2
          go_roundw
          case rel => exact ⟨k + 1, by omega, by go_num, HNO.out, R8.out, B8.out⟩
          case measure => simp [intOf]; omega
    · have c1 : decide ((k : Int) ≤ 23) = false := decide_eq_false (by omega)
      have hp : pr s = none := pr_none fun x h1 h2 => by
        have := Hno.out x h1 h2
        have := (may_op h1.1).2
        omega
      have HQ := Lib.hid (show Ending.returned (.tuple #[.agg #[.int .i64 0, .int .i64 0, .string ⟨#[]⟩], .int .i64 3]) = Ending.returned Q by rw [HQ.out, prV_none hp]; rfl)
      clear hp
      obtain ⟨f0, f1, f2, g0, g1, g2, -⟩ := R0.out
      go_wp2
      change bodyPost _ _ _ _ _ (put3 wr w.heap.size _ _ _)
      have s0 := fun v0 v1 v2 => (put3_box R0.out v0 v1 v2).c0
      have s1 := fun v0 v1 v2 => (put3_box R0.out v0 v1 v2).c1
      have s2 := fun v0 v1 v2 => (put3_box R0.out v0 v1 v2).c2
      refine bodyPost_ret (v := .tuple #[.agg #[.int .i64 0, .int .i64 0, .string ⟨#[]⟩], .int .i64 3]) ?_ rfl ⟨HQ.out, B0.out.trans ((put3_below _ _ _ _ _).mono (by omega))⟩
      simp [results, Tryz.results12, go_sem, s0, s1, s2]
end Go.Proofs.YtpdapgbamlcjjaaGreatDoor

/-
  strings.Builder: copyCheck, WriteString, String.
-/
namespace Go.Proofs.YtpdapgbamlcjjaaGreatDoor
open Go.RowKit Vl Cd

theorem bdz : (Tryz.prog.info? 56).map (·.size) = some 2 := by kernel_rfl
/-- A builder at a row: its cells, and the row that it holds. -/
structure Bd (w : World) (base b : Nat) (p : Value) (L : List UInt8) : Prop where
  ex : ∃ A c, w.heap[b]? = some (.cells #[p, .slice A L.length c] 56 (0, 0)) ∧ Own w 5 base A c L
  ge : base ≤ b
theorem Bd.lt {w : World} {base b : Nat} {p : Value} {L : List UInt8} (h : Bd w base b p L) : b < w.heap.size := by
  obtain ⟨⟨A, c, hh, -⟩, -⟩ := h
  exact (Array.getElem?_eq_some_iff.1 hh).1
theorem Bd.keep {w w' : World} {base b : Nat} {p : Value} {L : List UInt8} (h : Bd w base b p L) (hb : Below w.heap.size w w') : Bd w' base b p L := by
  have hlt := h.lt
  obtain ⟨⟨A, c, hh, own⟩, hge⟩ := h
  exact ⟨⟨A, c, (hb.block b hlt).trans hh, Oc.keep own hb⟩, hge⟩

set_option maxRecDepth 100000 in
set_option maxHeartbeats 2000000 in
theorem copyCheck_c (base b : Nat) (p : Value) (L : List UInt8) (w : World) (h : Bd w base b p L) (hp : p = .pointer none ∨ p = pt b) :
    Calls Tryz.prog 46 #[pt b] w fun e w' => e = .returned (.tuple #[]) ∧ Bd w' base b (pt b) L ∧ Below base w w' := by
  have hd := h
  obtain ⟨⟨A, c, hh, own⟩, hge⟩ := h
  have h0 : w.cell? ⟨b, 0, none⟩ = some p := by simp [World.cell?, hh]
  have hz0 : w.frozen? ⟨b, 0, none⟩ = false := by simp [World.frozen?, hh]
  have hsh : w.shape? b = some (56, 2) := by simp [World.shape?, hh]
  obtain ⟨j, hj, hjs⟩ := Option.map_eq_some_iff.1 bdz
  rcases hp with rfl | rfl
  · have hne := own_notat own hh (by decide)
    have hb5 : (w.setCell ⟨b, 0, none⟩ (pt b)).heap[b]? = some (.cells #[pt b, .slice A L.length c] 56 (0, 0)) := by
      show (w.heap.modify b _)[b]? = _
      rw [Array.getElem?_modify, if_pos rfl, hh]
      rfl
    have own5 : Own (w.setCell ⟨b, 0, none⟩ (pt b)) 5 base A c L := rc_setCell own (p := ⟨b, 0, none⟩) hne _
    have H := Lib.hid (show Bd (w.setCell ⟨b, 0, none⟩ (pt b)) base b (pt b) L from ⟨⟨A, c, hb5, own5⟩, hge⟩)
    clear hd hne hb5 own5 own hh
    go_enter Tryz.func46, Tryz.ntmps46
    go_wp2
    rw [Lib.run_to_unsafe w ⟨b, 0, none⟩ Tryz.underlying53 Tryz.underlying72 hj (by rw [hjs]; decide) hsh (Nat.zero_lt_succ 1)]
    simp only [Result.andThen]
    rw [Oper.upon_value]
    go_wp2
    rw [run_callFunc_extern Tryz.func58 (by kernel_rfl) (by kernel_rfl) (by kernel_rfl) (e := Extern.AbiNoEscape.same) (by kernel_rfl)]
    rw [Lib.run_noEscape]
    simp only [Result.andThen]
    rw [Oper.upon_value]
    go_wp2
    rw [Lib.run_from_unsafe w ⟨b, 0, none⟩ Tryz.underlying72 Tryz.underlying53 hj hsh (by kernel_rfl)]
    simp only [Result.andThen]
    rw [Oper.upon_value]
    go_wp2
    go_end0
    exact ⟨rfl, H.out, (Below.refl _ _).setCell hge _⟩
  · have H := Lib.hid hd
    clear hd hh own
    go_enter Tryz.func46, Tryz.ntmps46
    go_wp2
    rw [Lib.run_neq_ptr_same w _ Tryz.underlying53 hj]
    go_wp2
    go_end0
    exact ⟨rfl, H.out, Below.refl _ _⟩

set_option maxRecDepth 100000 in
set_option maxHeartbeats 2000000 in
theorem bws_c (base b : Nat) (p : Value) (X : ByteArray) (L M : List UInt8) (w : World) (h : Bd w base b p L) (hp : p = .pointer none ∨ p = pt b) (hM : L ++ X.data.toList = M) (hs : L.length + X.size ≤ 3000000) :
    Calls Tryz.prog 35 #[pt b, .string X] w fun e w' => e = .returned (.tuple #[.int .i64 (X.size : Int), .nilIface]) ∧ Bd w' base b (pt b) M ∧ Below base w w' := by
  have Hcc := Lib.hid (copyCheck_c base b p L w h hp)
  have HM := Lib.hid hM
  clear h hp hM
  go_enter Tryz.func35, Tryz.ntmps35
  go_wp2_with fail
  refine Hcc.out.mono ?_
  rintro e w1 ⟨rfl, hb1, bb1⟩
  have hlt := hb1.lt
  obtain ⟨⟨A, c, hh, own⟩, hge⟩ := hb1
  have hne := own_notat own hh (by decide)
  have q0 : w1.cell? ⟨b, 1, none⟩ = some (.slice A L.length c) := by simp [World.cell?, hh]
  have Own0 := Lib.hid own; have Hne := Lib.hid hne; have Hh := Lib.hid hh; have Hlt := Lib.hid hlt; have Hge := Lib.hid hge; have BB1 := Lib.hid bb1
  clear own hne hh hlt hge bb1
  go_wp2_with (at_builtin; go_must (refine bty.wpAppStrG rfl (.tmp 12) (.tmp 13) rfl (l := L) (N := M) rfl rfl Own0.out ?h0 ?h1 ?h2 ?_))
  case h0 => exact HM.out
  case h1 => omega
  case h2 => have := Hlt.out; have := Hge.out; omega
  intro A4 c4 w4 own4 g4
  have hb4 : w4.heap[b]? = some (.cells #[pt b, .slice A L.length c] 56 (0, 0)) := (g4.block b Hlt.out (fun e => Hne.out e.symm)).trans Hh.out
  have q4 : w4.cell? ⟨b, 1, none⟩ = some (.slice A L.length c) := by simp [World.cell?, hb4]
  have f4 : w4.frozen? ⟨b, 1, none⟩ = false := by simp [World.frozen?, hb4]
  have hne4 := own_notat own4 hb4 (by decide)
  have hb5 : (w4.setCell ⟨b, 1, none⟩ (.slice A4 M.length c4)).heap[b]? = some (.cells #[pt b, .slice A4 M.length c4] 56 (0, 0)) := by
    show (w4.heap.modify b _)[b]? = _
    rw [Array.getElem?_modify, if_pos rfl, hb4]
    rfl
  have own5 : Own (w4.setCell ⟨b, 1, none⟩ (.slice A4 M.length c4)) 5 base A4 c4 M := rc_setCell own4 (p := ⟨b, 1, none⟩) hne4 _
  have bel : Below base w1 w4 := (Below.refl base w1).grown g4 (by have := Hlt.out; have := Hge.out; omega) fun k hk => (own_ob Own0.out k hk).1
  have bel5 : Below base w (w4.setCell ⟨b, 1, none⟩ (.slice A4 M.length c4)) := BB1.out.trans (bel.setCell Hge.out _)
  have H5 := Lib.hid hb5; have Own5 := Lib.hid own5; have Bel5 := Lib.hid bel5
  clear hb4 hne4 hb5 own5 bel bel5 own4 g4 q0
  go_wp2
  go_ret2
  exact ⟨rfl, ⟨⟨A4, c4, H5.out, Own5.out⟩, Hge.out⟩, Bel5.out⟩

theorem bstr_c (base b : Nat) (p : Value) (L : List UInt8) (w : World) (h : Bd w base b p L) (hp : p = .pointer none ∨ p = pt b) (hB : base ≤ w.heap.size) :
    Calls Tryz.prog 36 #[pt b] w fun e w' => e = .returned (st L) ∧ Below base w w' := by
  obtain ⟨⟨A, c, hh, own⟩, hge⟩ := h
  have hne := own_notat own hh (by decide)
  have hat : Lib.BuilderAt 56 5 base b p (Lib.byteCells L) w := ⟨hge, _, hh, by
    have hl : (Lib.byteCells L).length = L.length := by simp [Lib.byteCells]
    rw [hl]; exact own, by rw [ownBlock_slice]; exact hne⟩
  have hib : Lib.IsBuilder 56 5 base b (Lib.byteCells L) w := by
    rcases hp with rfl | rfl
    · exact .inl hat
    · exact .inr hat
  refine (Tryz.Builder_String_any_k base b L w (Lib.IsBuilderF.of hib) hB).mono ?_
  rintro e w' ⟨rfl, -, hb, -⟩
  exact ⟨rfl, hb⟩
end Go.Proofs.YtpdapgbamlcjjaaGreatDoor
