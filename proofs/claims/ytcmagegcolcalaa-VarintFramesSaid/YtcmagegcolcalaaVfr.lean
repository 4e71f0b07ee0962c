/-
  The walk of the law VarintFrames.
-/
import Derived.Test.YtcmagegcolcalaaVa
import Derived.Test.YtcmagegcolcalaaRs
import Derived.Deep.DeepCutAuto
namespace Go.Proofs.Ytcmagegcolcalaa
open Go.RowKit
set_option linter.unusedSimpArgs false

set_option maxRecDepth 100000 in
theorem varintFrames_long (A : Option Addr) (n c : Nat) (k v : ByteArray) (w : World) (hm : n ≤ maxLen) (hk : k.size ≤ maxLen) (hv : v.size ≤ maxLen) (h : 3000 < n ∨ 3000 < k.size ∨ 3000 < v.size) :
    Calls Try.prog 5 #[.slice A n c, .agg #[.string k, .string v]] w fun e w' => e = .returned (.bool true) ∧ Below w.heap.size w w' := by
  unfold maxLen at hm hk hv
  by_cases h1 : 3000 < n
  · have hd : decide ((3000 : Int) < (n : Int)) = true := by simp; omega
    clear h
    go_enter Try.func5, Try.ntmps5
    go_wp2_with fail
    refine (alive_c _).mono ?_
    rintro e w2 ⟨rfl, hb2⟩
    go_wp2
    go_ret
    exact ⟨rfl, ((Below.refl _ _).alloc (Nat.le_refl _) _).trans (hb2.mono (by simp))⟩
  · have hd : decide ((3000 : Int) < (n : Int)) = false := by simp; omega
    by_cases h2 : 3000 < k.size
    · have hd2 : decide ((3000 : Int) < (k.size : Int)) = true := by simp; omega
      clear h
      go_enter Try.func5, Try.ntmps5
      go_wp2_with fail
      refine (alive_c _).mono ?_
      rintro e w2 ⟨rfl, hb2⟩
      go_wp2
      go_ret
      exact ⟨rfl, ((Below.refl _ _).alloc (Nat.le_refl _) _).trans (hb2.mono (by simp))⟩
    · have h3 : 3000 < v.size := by omega
      have hd2 : decide ((3000 : Int) < (k.size : Int)) = false := by simp; omega
      have hd3 : decide ((3000 : Int) < (v.size : Int)) = true := by simp; omega
      clear h
      go_enter Try.func5, Try.ntmps5
      go_wp2_with fail
      refine (alive_c _).mono ?_
      rintro e w2 ⟨rfl, hb2⟩
      go_wp2
      go_ret
      exact ⟨rfl, ((Below.refl _ _).alloc (Nat.le_refl _) _).trans (hb2.mono (by simp))⟩


set_option maxRecDepth 100000 in
set_option maxHeartbeats 4000000 in
theorem varintFrames_short (A : Option Addr) (n c : Nat) (l : List UInt8) (k v : ByteArray) (w : World) (hr : Rb w w.heap.size A n c l) (hn : n ≤ 3000) (hk : k.size ≤ 3000) (hv : v.size ≤ 3000) :
    Calls Try.prog 5 #[.slice A n c, .agg #[.string k, .string v]] w fun e w' => e = .returned (.bool true) ∧ Below w.heap.size w w' := by
  have hl := hr.len
  obtain ⟨X, hX⟩ : ∃ X, X = l ++ fr k := ⟨_, rfl⟩
  obtain ⟨Y, hY⟩ : ∃ Y, Y = l ++ (fr k ++ fr v) := ⟨_, rfl⟩
  have HX := Lib.hid hX; have HY := Lib.hid hY; have Hr := Lib.hid hr; have Hl := Lib.hid hl; clear hX hY hr hl
  go_enter Try.func5, Try.ntmps5
  go_upto_region 3 with fail
  obtain ⟨W, hW⟩ : ∃ W, W = w.alloc (.cells #[.string k, .string v] 35) := ⟨_, rfl⟩
  rw [← hW]
  have hbW : Below w.heap.size w W := by rw [hW]; exact (Below.refl _ _).alloc (Nat.le_refl _) _
  have hszW : w.heap.size < W.heap.size := by rw [hW]; simp
  have hbox0 : W.cell? ⟨w.heap.size, 0, none⟩ = some (.string k) := by rw [hW]; simp
  have hbox1 : W.cell? ⟨w.heap.size, 1, none⟩ = some (.string v) := by rw [hW]; simp
  have HrW := Lib.hid ((Hr.out.below hbW).more hbW.size)
  have HB0 := Lib.hid hbox0; have HB1 := Lib.hid hbox1
  clear hW hbox0 hbox1
  go_wp2_with (at_builtin; go_must (refine bty.wpApp rfl (.tmp 22) (.tmp 23) rfl (l := []) (r := l) rfl rfl (Own.made0 _ _) (HrW.out.alloc (Nat.le_refl _) _) ?hs1 ?hs2 ?_))
  case hs1 => rw [Hl.out]; simp; omega
  case hs2 => simp
  intro A1 c1 w1 hown1 hb1
  have hb01 : Below W.heap.size W w1 := ((Below.refl _ _).alloc (Nat.le_refl _) _).trans hb1
  have hbw : Below w.heap.size w w1 := hbW.trans (hb01.mono (by omega))
  have hlt : w.heap.size < w1.heap.size := Nat.lt_of_lt_of_le hszW hb01.size
  have H0 := Lib.hid ((hb01.cell (p := ⟨w.heap.size, 0, none⟩) hszW).trans HB0.out)
  have H1 := Lib.hid ((hb01.cell (p := ⟨w.heap.size, 1, none⟩) hszW).trans HB1.out)
  have HR := Lib.hid (rb_len hown1.rb (n := n) (by have := Hl.out; simpa using this.symm))
  have HB := Lib.hid ((HrW.out.below hb01).more hb01.size)
  have HBW := Lib.hid hbw; have HLT := Lib.hid hlt
  have ebl : l.length = n := Hl.out
  rw [ebl]
  clear hown1 hb1 hb01 hbw hlt ebl hbW hszW
  go_upto_region 4 with fail
  refine wp_region_sched [(true, 0), (false, 1), (false, 2), (false, 3), (false, 4), (false, 7), (false, 8), (false, 9), (true, 5), (false, 6), (true, 10), (false, 11), (false, 12), (false, 13), (false, 14), (false, 15), (false, 16), (false, 19), (false, 20), (true, 17), (false, 18), (true, 21), (false, 22), (false, 23), (false, 24), (false, 25), (false, 26), (false, 27), (false, 28), (false, 29), (false, 30), (false, 31), (false, 32)] (by kernel_rfl) (by kernel_rfl) (by kernel_rfl) (by kernel_rfl) (fun _ _ d _ _ h => by cases d <;> exact h) ?_
  have H0d : Hid (w1.drew.cell? ⟨w.heap.size, 0, none⟩ = some (.string k)) := H0
  have H1d : Hid (w1.drew.cell? ⟨w.heap.size, 1, none⟩ = some (.string v)) := H1
  have HLd : Hid (w.heap.size < w1.drew.heap.size) := HLT
  have Hrd : Hid (Rb w1.drew w1.drew.heap.size A1 n c1 l) := HR
  have Hbd : Hid (Rb w1.drew w1.drew.heap.size A n c l) := HB
  have HGd := Lib.hid (grow_drew w1)
  refine wpS_call (o := { dst := some 25, op := Go.Op.call { callee := Go.Callee.value (Go.Operand.func 9), args := #[], argTypes := #[] }, type := 4, pos := "law.go:59", after := #[], guard := none }) rfl (by rfl) (fun K hK => ?_)
  go_simp
  go_at_call 9
  with_reducible refine (alive_c _).mono ?_
  rintro e w2 ⟨rfl, hb2⟩
  have H02 := Lib.hid ((Below.cell hb2 (p := ⟨w.heap.size, 0, none⟩) HLd.out).trans H0d.out); have H12 := Lib.hid ((Below.cell hb2 (p := ⟨w.heap.size, 1, none⟩) HLd.out).trans H1d.out)
  have HL2 := Lib.hid (Nat.lt_of_lt_of_le HLd.out hb2.size); have Hr2 := Lib.hid ((Hrd.out.below hb2).more hb2.size); have Hb2 := Lib.hid ((Hbd.out.below hb2).more hb2.size); have HG2 := Lib.hid (HGd.out.trans hb2)
  refine hK.out _ _ hb2 ?_
  clear hK K hb2
  try simp only [Act.put, List.setIfInBounds_toArray, List.set_cons_zero, List.set_cons_succ]
  refine wpS_read (o := { dst := some 26, op := Go.Op.move (Go.Operand.tmp 25), type := 4, pos := "law.go:59", after := #[{ on := 0, ground := Go.Ground.data }, { on := 0, ground := Go.Ground.chain }], guard := none }) (v := ?_) rfl (by rfl) ?_ ?_
  rotate_left
  · intro w' hg; go_simp; try with_reducible rfl
  try simp only [Act.put, List.setIfInBounds_toArray, List.set_cons_zero, List.set_cons_succ]
  refine wpS_read (o := { dst := some 27, op := Go.Op.move (Go.Operand.tmp 5), type := 22, pos := "law.go:59", after := #[{ on := 1, ground := Go.Ground.guard }], guard := some (1, true) }) (v := ?_) rfl (by rfl) ?_ ?_
  rotate_left
  · intro w' hg; go_simp; try with_reducible rfl
  try simp only [Act.put, List.setIfInBounds_toArray, List.set_cons_zero, List.set_cons_succ]
  refine wpS_read (o := { dst := some 28, op := Go.Op.fieldAddr 35 (Go.Operand.tmp 3) 0, type := 0, pos := "law.go:59", after := #[{ on := 1, ground := Go.Ground.guard }], guard := some (1, true) }) (v := ?_) rfl (by rfl) ?_ ?_
  rotate_left
  · intro w' hg; go_simp; try with_reducible rfl
  try simp only [Act.put, List.setIfInBounds_toArray, List.set_cons_zero, List.set_cons_succ]
  refine wpS_read (o := { dst := some 29, op := Go.Op.load 9 (Go.Operand.tmp 28), type := 9, pos := "law.go:59", after := #[{ on := 3, ground := Go.Ground.data }, { on := 1, ground := Go.Ground.guard }], guard := some (1, true) }) (v := ?_) rfl (by rfl) ?_ ?_
  rotate_left
  · intro w' hg; have q0 := (Below.cell hg (p := ⟨w.heap.size, 0, none⟩) HL2.out).trans H02.out; go_simp; try with_reducible rfl
  try simp only [Act.put, List.setIfInBounds_toArray, List.set_cons_zero, List.set_cons_succ]
  refine wpS_read (o := { dst := some 32, op := Go.Op.move (Go.Operand.tmp 0), type := 22, pos := "law.go:59", after := #[{ on := 1, ground := Go.Ground.guard }], guard := some (1, true) }) (v := ?_) rfl (by rfl) ?_ ?_
  rotate_left
  · intro w' hg; go_simp; try with_reducible rfl
  try simp only [Act.put, List.setIfInBounds_toArray, List.set_cons_zero, List.set_cons_succ]
  refine wpS_read (o := { dst := some 33, op := Go.Op.fieldAddr 35 (Go.Operand.tmp 3) 0, type := 0, pos := "law.go:59", after := #[{ on := 1, ground := Go.Ground.guard }], guard := some (1, true) }) (v := ?_) rfl (by rfl) ?_ ?_
  rotate_left
  · intro w' hg; go_simp; try with_reducible rfl
  try simp only [Act.put, List.setIfInBounds_toArray, List.set_cons_zero, List.set_cons_succ]
  refine wpS_read (o := { dst := some 34, op := Go.Op.load 9 (Go.Operand.tmp 33), type := 9, pos := "law.go:59", after := #[{ on := 8, ground := Go.Ground.data }, { on := 1, ground := Go.Ground.guard }], guard := some (1, true) }) (v := ?_) rfl (by rfl) ?_ ?_
  rotate_left
  · intro w' hg; have q0 := (Below.cell hg (p := ⟨w.heap.size, 0, none⟩) HL2.out).trans H02.out; go_simp; try with_reducible rfl
  try simp only [Act.put, List.setIfInBounds_toArray, List.set_cons_zero, List.set_cons_succ]
  refine wpS_call (o := { dst := some 30, op := Go.Op.call { callee := Go.Callee.value (Go.Operand.func 23), args := #[Go.Operand.tmp 27, Go.Operand.tmp 29], argTypes := #[22, 9] }, type := 22, pos := "law.go:59", after := #[{ on := 2, ground := Go.Ground.data }, { on := 4, ground := Go.Ground.data }, { on := 1, ground := Go.Ground.chain }, { on := 1, ground := Go.Ground.guard }], guard := some (1, true) }) rfl (by rfl) (fun K hK => ?_)
  go_simp
  go_at_call 23
  with_reducible refine (frameP_c A1 n c1 l k _ Hr2.out (by omega) (by omega)).mono ?_
  rintro e w3 ⟨A3, c3, rfl, hown3, hb3⟩
  rw [← HX.out] at hown3 ⊢
  have Hs3 := Lib.hid hown3.rb; clear hown3
  have H03 := Lib.hid ((Below.cell hb3 (p := ⟨w.heap.size, 0, none⟩) HL2.out).trans H02.out); have H13 := Lib.hid ((Below.cell hb3 (p := ⟨w.heap.size, 1, none⟩) HL2.out).trans H12.out)
  have HL3 := Lib.hid (Nat.lt_of_lt_of_le HL2.out hb3.size); have Hr3 := Lib.hid ((Hr2.out.below hb3).more hb3.size); have Hb3 := Lib.hid ((Hb2.out.below hb3).more hb3.size); have HG3 := Lib.hid (HG2.out.trans hb3)
  refine hK.out _ _ hb3 ?_
  clear hK K hb3
  try simp only [Act.put, List.setIfInBounds_toArray, List.set_cons_zero, List.set_cons_succ]
  refine wpS_read (o := { dst := some 31, op := Go.Op.convert 22 9 (Go.Operand.tmp 30), type := 9, pos := "law.go:59", after := #[{ on := 5, ground := Go.Ground.data }, { on := 1, ground := Go.Ground.guard }], guard := some (1, true) }) (v := ?_) rfl (by rfl) ?_ ?_
  rotate_left
  · intro w' hg; have q0 := bty.conv (Hs3.out.below hg); go_simp; try with_reducible rfl
  try simp only [Act.put, List.setIfInBounds_toArray, List.set_cons_zero, List.set_cons_succ]
  refine wpS_call (o := { dst := some 35, op := Go.Op.call { callee := Go.Callee.value (Go.Operand.func 24), args := #[Go.Operand.tmp 32, Go.Operand.tmp 34], argTypes := #[22, 9] }, type := 22, pos := "law.go:59", after := #[{ on := 7, ground := Go.Ground.data }, { on := 9, ground := Go.Ground.data }, { on := 5, ground := Go.Ground.chain }, { on := 1, ground := Go.Ground.guard }], guard := some (1, true) }) rfl (by rfl) (fun K hK => ?_)
  go_simp
  go_at_call 24
  with_reducible refine (rframe_c A n c l k _ Hb3.out (by omega) (by omega)).mono ?_
  rintro e w4 ⟨A4, c4, rfl, hown4, hb4⟩
  rw [← HX.out] at hown4 ⊢
  have Hs4 := Lib.hid hown4.rb; clear hown4
  have H04 := Lib.hid ((Below.cell hb4 (p := ⟨w.heap.size, 0, none⟩) HL3.out).trans H03.out); have H14 := Lib.hid ((Below.cell hb4 (p := ⟨w.heap.size, 1, none⟩) HL3.out).trans H13.out)
  have HL4 := Lib.hid (Nat.lt_of_lt_of_le HL3.out hb4.size); have Hr4 := Lib.hid ((Hr3.out.below hb4).more hb4.size); have Hb4 := Lib.hid ((Hb3.out.below hb4).more hb4.size); have HG4 := Lib.hid (HG3.out.trans hb4)
  refine hK.out _ _ hb4 ?_
  clear hK K hb4
  try simp only [Act.put, List.setIfInBounds_toArray, List.set_cons_zero, List.set_cons_succ]
  refine wpS_read (o := { dst := some 36, op := Go.Op.convert 22 9 (Go.Operand.tmp 35), type := 9, pos := "law.go:59", after := #[{ on := 10, ground := Go.Ground.data }, { on := 1, ground := Go.Ground.guard }], guard := some (1, true) }) (v := ?_) rfl (by rfl) ?_ ?_
  rotate_left
  · intro w' hg; have q0 := bty.conv (Hs4.out.below hg); go_simp; try with_reducible rfl
  try simp only [Act.put, List.setIfInBounds_toArray, List.set_cons_zero, List.set_cons_succ]
  refine wpS_read (o := { dst := some 37, op := Go.Op.binOp Go.BinOp.eql 9 (Go.Operand.tmp 31) (Go.Operand.tmp 36) 9, type := 4, pos := "law.go:59", after := #[{ on := 6, ground := Go.Ground.data }, { on := 11, ground := Go.Ground.data }, { on := 1, ground := Go.Ground.guard }], guard := some (1, true) }) (v := ?_) rfl (by rfl) ?_ ?_
  rotate_left
  · intro w' hg; go_simp; try with_reducible rfl
  try simp only [Act.put, List.setIfInBounds_toArray, List.set_cons_zero, List.set_cons_succ]
  refine wpS_read (o := { dst := some 38, op := Go.Op.pick (Go.Operand.tmp 26) (Go.Operand.tmp 37) (Go.Operand.const (Go.Value.bool false)), type := 4, pos := "law.go:59", after := #[{ on := 1, ground := Go.Ground.data }, { on := 12, ground := Go.Ground.data }], guard := none }) (v := ?_) rfl (by rfl) ?_ ?_
  rotate_left
  · intro w' hg; go_simp; try with_reducible rfl
  try simp only [Act.put, List.setIfInBounds_toArray, List.set_cons_zero, List.set_cons_succ]
  refine wpS_read (o := { dst := some 39, op := Go.Op.move (Go.Operand.tmp 38), type := 4, pos := "law.go:59", after := #[{ on := 13, ground := Go.Ground.data }, { on := 10, ground := Go.Ground.chain }], guard := none }) (v := ?_) rfl (by rfl) ?_ ?_
  rotate_left
  · intro w' hg; go_simp; try with_reducible rfl
  try simp only [Act.put, List.setIfInBounds_toArray, List.set_cons_zero, List.set_cons_succ]
  refine wpS_read (o := { dst := some 40, op := Go.Op.move (Go.Operand.tmp 5), type := 22, pos := "law.go:59", after := #[{ on := 14, ground := Go.Ground.guard }], guard := some (14, true) }) (v := ?_) rfl (by rfl) ?_ ?_
  rotate_left
  · intro w' hg; go_simp; try with_reducible rfl
  try simp only [Act.put, List.setIfInBounds_toArray, List.set_cons_zero, List.set_cons_succ]
  refine wpS_read (o := { dst := some 41, op := Go.Op.load 35 (Go.Operand.tmp 3), type := 35, pos := "law.go:59", after := #[{ on := 14, ground := Go.Ground.guard }], guard := some (14, true) }) (v := ?_) rfl (by rfl) ?_ ?_
  rotate_left
  · intro w' hg; have q0 := (Below.cell hg (p := ⟨w.heap.size, 0, none⟩) HL4.out).trans H04.out; have q1 := (Below.cell hg (p := ⟨w.heap.size, 1, none⟩) HL4.out).trans H14.out; go_simp; try with_reducible rfl
  try simp only [Act.put, List.setIfInBounds_toArray, List.set_cons_zero, List.set_cons_succ]
  refine wpS_read (o := { dst := some 44, op := Go.Op.move (Go.Operand.tmp 0), type := 22, pos := "law.go:59", after := #[{ on := 14, ground := Go.Ground.guard }], guard := some (14, true) }) (v := ?_) rfl (by rfl) ?_ ?_
  rotate_left
  · intro w' hg; go_simp; try with_reducible rfl
  try simp only [Act.put, List.setIfInBounds_toArray, List.set_cons_zero, List.set_cons_succ]
  refine wpS_read (o := { dst := some 45, op := Go.Op.load 35 (Go.Operand.tmp 3), type := 35, pos := "law.go:59", after := #[{ on := 14, ground := Go.Ground.guard }], guard := some (14, true) }) (v := ?_) rfl (by rfl) ?_ ?_
  rotate_left
  · intro w' hg; have q0 := (Below.cell hg (p := ⟨w.heap.size, 0, none⟩) HL4.out).trans H04.out; have q1 := (Below.cell hg (p := ⟨w.heap.size, 1, none⟩) HL4.out).trans H14.out; go_simp; try with_reducible rfl
  try simp only [Act.put, List.setIfInBounds_toArray, List.set_cons_zero, List.set_cons_succ]
  refine wpS_call (o := { dst := some 42, op := Go.Op.call { callee := Go.Callee.value (Go.Operand.func 25), args := #[Go.Operand.tmp 40, Go.Operand.tmp 41], argTypes := #[22, 35] }, type := 22, pos := "law.go:59", after := #[{ on := 15, ground := Go.Ground.data }, { on := 16, ground := Go.Ground.data }, { on := 14, ground := Go.Ground.chain }, { on := 14, ground := Go.Ground.guard }], guard := some (14, true) }) rfl (by rfl) (fun K hK => ?_)
  go_simp
  go_at_call 25
  with_reducible refine (pair_c A1 n c1 l k v _ Hr4.out (by omega) (by omega) (by omega)).mono ?_
  rintro e w5 ⟨A5, c5, rfl, hown5, hb5⟩
  rw [← HY.out] at hown5 ⊢
  have Hs5 := Lib.hid hown5.rb; clear hown5
  have H05 := Lib.hid ((Below.cell hb5 (p := ⟨w.heap.size, 0, none⟩) HL4.out).trans H04.out); have H15 := Lib.hid ((Below.cell hb5 (p := ⟨w.heap.size, 1, none⟩) HL4.out).trans H14.out)
  have HL5 := Lib.hid (Nat.lt_of_lt_of_le HL4.out hb5.size); have Hr5 := Lib.hid ((Hr4.out.below hb5).more hb5.size); have Hb5 := Lib.hid ((Hb4.out.below hb5).more hb5.size); have HG5 := Lib.hid (HG4.out.trans hb5)
  refine hK.out _ _ hb5 ?_
  clear hK K hb5
  try simp only [Act.put, List.setIfInBounds_toArray, List.set_cons_zero, List.set_cons_succ]
  refine wpS_read (o := { dst := some 43, op := Go.Op.convert 22 9 (Go.Operand.tmp 42), type := 9, pos := "law.go:59", after := #[{ on := 17, ground := Go.Ground.data }, { on := 14, ground := Go.Ground.guard }], guard := some (14, true) }) (v := ?_) rfl (by rfl) ?_ ?_
  rotate_left
  · intro w' hg; have q0 := bty.conv (Hs5.out.below hg); go_simp; try with_reducible rfl
  try simp only [Act.put, List.setIfInBounds_toArray, List.set_cons_zero, List.set_cons_succ]
  refine wpS_call (o := { dst := some 46, op := Go.Op.call { callee := Go.Callee.value (Go.Operand.func 26), args := #[Go.Operand.tmp 44, Go.Operand.tmp 45], argTypes := #[22, 35] }, type := 22, pos := "law.go:59", after := #[{ on := 19, ground := Go.Ground.data }, { on := 20, ground := Go.Ground.data }, { on := 17, ground := Go.Ground.chain }, { on := 14, ground := Go.Ground.guard }], guard := some (14, true) }) rfl (by rfl) (fun K hK => ?_)
  go_simp
  go_at_call 26
  with_reducible refine (rpair_c A n c l k v _ Hb5.out (by omega) (by omega) (by omega)).mono ?_
  rintro e w6 ⟨A6, c6, rfl, hown6, hb6⟩
  rw [← HY.out] at hown6 ⊢
  have Hs6 := Lib.hid hown6.rb; clear hown6
  have H06 := Lib.hid ((Below.cell hb6 (p := ⟨w.heap.size, 0, none⟩) HL5.out).trans H05.out); have H16 := Lib.hid ((Below.cell hb6 (p := ⟨w.heap.size, 1, none⟩) HL5.out).trans H15.out)
  have HL6 := Lib.hid (Nat.lt_of_lt_of_le HL5.out hb6.size); have Hr6 := Lib.hid ((Hr5.out.below hb6).more hb6.size); have Hb6 := Lib.hid ((Hb5.out.below hb6).more hb6.size); have HG6 := Lib.hid (HG5.out.trans hb6)
  refine hK.out _ _ hb6 ?_
  clear hK K hb6
  try simp only [Act.put, List.setIfInBounds_toArray, List.set_cons_zero, List.set_cons_succ]
  refine wpS_read (o := { dst := some 47, op := Go.Op.convert 22 9 (Go.Operand.tmp 46), type := 9, pos := "law.go:59", after := #[{ on := 21, ground := Go.Ground.data }, { on := 14, ground := Go.Ground.guard }], guard := some (14, true) }) (v := ?_) rfl (by rfl) ?_ ?_
  rotate_left
  · intro w' hg; have q0 := bty.conv (Hs6.out.below hg); go_simp; try with_reducible rfl
  try simp only [Act.put, List.setIfInBounds_toArray, List.set_cons_zero, List.set_cons_succ]
  refine wpS_read (o := { dst := some 48, op := Go.Op.binOp Go.BinOp.eql 9 (Go.Operand.tmp 43) (Go.Operand.tmp 47) 9, type := 4, pos := "law.go:59", after := #[{ on := 18, ground := Go.Ground.data }, { on := 22, ground := Go.Ground.data }, { on := 14, ground := Go.Ground.guard }], guard := some (14, true) }) (v := ?_) rfl (by rfl) ?_ ?_
  rotate_left
  · intro w' hg; go_simp; try with_reducible rfl
  try simp only [Act.put, List.setIfInBounds_toArray, List.set_cons_zero, List.set_cons_succ]
  refine wpS_read (o := { dst := some 49, op := Go.Op.pick (Go.Operand.tmp 39) (Go.Operand.tmp 48) (Go.Operand.const (Go.Value.bool false)), type := 4, pos := "law.go:59", after := #[{ on := 14, ground := Go.Ground.data }, { on := 23, ground := Go.Ground.data }], guard := none }) (v := ?_) rfl (by rfl) ?_ ?_
  rotate_left
  · intro w' hg; go_simp; try with_reducible rfl
  try simp only [Act.put, List.setIfInBounds_toArray, List.set_cons_zero, List.set_cons_succ]
  refine wpS_read (o := { dst := some 50, op := Go.Op.move (Go.Operand.tmp 49), type := 4, pos := "law.go:59", after := #[{ on := 24, ground := Go.Ground.data }, { on := 21, ground := Go.Ground.chain }], guard := none }) (v := ?_) rfl (by rfl) ?_ ?_
  rotate_left
  · intro w' hg; go_simp; try with_reducible rfl
  try simp only [Act.put, List.setIfInBounds_toArray, List.set_cons_zero, List.set_cons_succ]
  refine wpS_read (o := { dst := some 51, op := Go.Op.move (Go.Operand.tmp 5), type := 22, pos := "law.go:59", after := #[{ on := 25, ground := Go.Ground.guard }], guard := some (25, true) }) (v := ?_) rfl (by rfl) ?_ ?_
  rotate_left
  · intro w' hg; go_simp; try with_reducible rfl
  try simp only [Act.put, List.setIfInBounds_toArray, List.set_cons_zero, List.set_cons_succ]
  refine wpS_read (o := { dst := some 52, op := Go.Op.convert 22 9 (Go.Operand.tmp 51), type := 9, pos := "law.go:59", after := #[{ on := 26, ground := Go.Ground.data }, { on := 25, ground := Go.Ground.guard }], guard := some (25, true) }) (v := ?_) rfl (by rfl) ?_ ?_
  rotate_left
  · intro w' hg; have q0 := bty.conv (Hr6.out.below hg); go_simp; try with_reducible rfl
  try simp only [Act.put, List.setIfInBounds_toArray, List.set_cons_zero, List.set_cons_succ]
  refine wpS_read (o := { dst := some 53, op := Go.Op.move (Go.Operand.tmp 0), type := 22, pos := "law.go:59", after := #[{ on := 25, ground := Go.Ground.guard }], guard := some (25, true) }) (v := ?_) rfl (by rfl) ?_ ?_
  rotate_left
  · intro w' hg; go_simp; try with_reducible rfl
  try simp only [Act.put, List.setIfInBounds_toArray, List.set_cons_zero, List.set_cons_succ]
  refine wpS_read (o := { dst := some 54, op := Go.Op.convert 22 9 (Go.Operand.tmp 53), type := 9, pos := "law.go:59", after := #[{ on := 28, ground := Go.Ground.data }, { on := 25, ground := Go.Ground.guard }], guard := some (25, true) }) (v := ?_) rfl (by rfl) ?_ ?_
  rotate_left
  · intro w' hg; have q0 := bty.conv (Hb6.out.below hg); go_simp; try with_reducible rfl
  try simp only [Act.put, List.setIfInBounds_toArray, List.set_cons_zero, List.set_cons_succ]
  refine wpS_read (o := { dst := some 55, op := Go.Op.binOp Go.BinOp.eql 9 (Go.Operand.tmp 52) (Go.Operand.tmp 54) 9, type := 4, pos := "law.go:59", after := #[{ on := 27, ground := Go.Ground.data }, { on := 29, ground := Go.Ground.data }, { on := 25, ground := Go.Ground.guard }], guard := some (25, true) }) (v := ?_) rfl (by rfl) ?_ ?_
  rotate_left
  · intro w' hg; go_simp; try with_reducible rfl
  try simp only [Act.put, List.setIfInBounds_toArray, List.set_cons_zero, List.set_cons_succ]
  refine wpS_read (o := { dst := some 56, op := Go.Op.pick (Go.Operand.tmp 50) (Go.Operand.tmp 55) (Go.Operand.const (Go.Value.bool false)), type := 4, pos := "law.go:59", after := #[{ on := 25, ground := Go.Ground.data }, { on := 30, ground := Go.Ground.data }], guard := none }) (v := ?_) rfl (by rfl) ?_ ?_
  rotate_left
  · intro w' hg; go_simp; try with_reducible rfl
  try simp only [Act.put, List.setIfInBounds_toArray, List.set_cons_zero, List.set_cons_succ]
  refine wpS_read (o := { dst := some 4, op := Go.Op.assign (Go.Operand.tmp 56), type := 4, pos := "law.go:59", after := #[{ on := 31, ground := Go.Ground.data }, { on := 25, ground := Go.Ground.chain }, { on := 0, ground := Go.Ground.phase }, { on := 1, ground := Go.Ground.phase }, { on := 2, ground := Go.Ground.phase }, { on := 3, ground := Go.Ground.phase }, { on := 4, ground := Go.Ground.phase }, { on := 5, ground := Go.Ground.phase }, { on := 6, ground := Go.Ground.phase }, { on := 7, ground := Go.Ground.phase }, { on := 8, ground := Go.Ground.phase }, { on := 9, ground := Go.Ground.phase }, { on := 10, ground := Go.Ground.phase }, { on := 11, ground := Go.Ground.phase }, { on := 12, ground := Go.Ground.phase }, { on := 13, ground := Go.Ground.phase }, { on := 14, ground := Go.Ground.phase }, { on := 15, ground := Go.Ground.phase }, { on := 16, ground := Go.Ground.phase }, { on := 17, ground := Go.Ground.phase }, { on := 18, ground := Go.Ground.phase }, { on := 19, ground := Go.Ground.phase }, { on := 20, ground := Go.Ground.phase }, { on := 21, ground := Go.Ground.phase }, { on := 22, ground := Go.Ground.phase }, { on := 23, ground := Go.Ground.phase }, { on := 24, ground := Go.Ground.phase }, { on := 25, ground := Go.Ground.phase }, { on := 26, ground := Go.Ground.phase }, { on := 27, ground := Go.Ground.phase }, { on := 28, ground := Go.Ground.phase }, { on := 29, ground := Go.Ground.phase }, { on := 30, ground := Go.Ground.phase }, { on := 31, ground := Go.Ground.phase }], guard := none }) (v := ?_) rfl (by rfl) ?_ ?_
  rotate_left
  · intro w' hg; go_simp; try with_reducible rfl
  try simp only [Act.put, List.setIfInBounds_toArray, List.set_cons_zero, List.set_cons_succ]
  refine wpS_done ?_
  go_wp2
  go_ret
  exact ⟨by simp, HBW.out.trans (Below.mono HG6.out HBW.out.size)⟩

theorem varintFrames_walk (A : Option Addr) (n c : Nat) (l : List UInt8) (k v : ByteArray) (w : World) (hr : Rb w w.heap.size A n c l) (hk : k.size ≤ maxLen) (hv : v.size ≤ maxLen) :
    Calls Try.prog 5 #[.slice A n c, .agg #[.string k, .string v]] w fun e w' => e = .returned (.bool true) ∧ Below w.heap.size w w' := by
  by_cases h : 3000 < n ∨ 3000 < k.size ∨ 3000 < v.size
  · exact varintFrames_long A n c k v w (Nat.le_trans hr.2.1 hr.2.2.1) hk hv h
  · exact varintFrames_short A n c l k v w hr (by omega) (by omega) (by omega)
end Go.Proofs.Ytcmagegcolcalaa
