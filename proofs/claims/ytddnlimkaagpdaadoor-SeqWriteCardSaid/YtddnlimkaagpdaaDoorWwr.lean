/-
  The walk of the law SeqWrite.
-/
import Derived.Test.YtddnlimkaagpdaaDoorYb
import Derived.Test.YtddnlimkaagpdaaDoorFw
import Derived.Test.YtddnlimkaagpdaaDoorRs
import Derived.Deep.DeepCutAuto
namespace Go.Proofs.YtddnlimkaagpdaaDoor
open Go.RowKit
set_option linter.unusedSimpArgs false

theorem rl_boundsW {w : World} {B n c : Nat} {A : Option Addr} {l : List Sm.R} (h : RL w B A n c l) : n ≤ c ∧ n ≤ 9223372036854775807 := by
  obtain ⟨vs, h1, _⟩ := h
  have h2 := h1.2.1; have h3 := h1.2.2.1
  unfold maxLen at h3
  omega

set_option maxRecDepth 100000 in
set_option maxHeartbeats 4000000 in
theorem seqWrite_walk (A : Option Addr) (n c : Nat) (l : List (List (List UInt8))) (A' : Option Addr) (m d : Nat) (b : List UInt8) (w : World) (hr : RL w w.heap.size A n c l) (hz : ∀ r ∈ l, ∀ q ∈ r, q.length ≤ 140737488355328) (hb : Rb w w.heap.size A' m d b) (hx : Mx w) :
    Calls Tryd.prog 4 #[.slice A n c, .slice A' m d] w fun e w' => e = .returned (.bool true) ∧ Below w.heap.size w w' := by
  obtain rfl := hb.len
  have hl := hr.len
  obtain ⟨hnc, hnmax⟩ := rl_boundsW hr
  have hmax : b.length ≤ 9223372036854775807 := by have h2 := hb.2.1; have h3 := hb.2.2.1; unfold maxLen at h3; omega
  have hfew := fewR_c A n c w.heap.size l w hr hz _ rfl
  by_cases h1 : wL l ≤ 3000 ∧ l.length ≤ 120
  · rw [decide_eq_true h1] at hfew
    by_cases h2 : 3000 < b.length
    · have d2 : (3000 : Int) < (b.length : Int) := by omega
      have Hx := Lib.hid hx; have Hfew := Lib.hid hfew; clear hr hz h1 hb hx hfew hl
      go_enter Tryd.func4, Tryd.ntmps4
      go_wp2_with fail
      refine Hfew.out.mono ?_
      rintro e w1 ⟨rfl, rfl⟩
      go_wp2_with fail
      refine (alive_c _ Hx.out).mono ?_
      rintro e w2 ⟨rfl, hb2⟩
      go_wp2
      go_ret
      exact ⟨rfl, hb2⟩
    · have d2 : ¬ (3000 : Int) < (b.length : Int) := by omega
      have hbn : b.length ≤ 3000 := by omega
      obtain ⟨X, hX⟩ : ∃ X, X = Sm.wrS l := ⟨_, rfl⟩
      obtain ⟨U, hU⟩ : ∃ U, U = unS b := ⟨_, rfl⟩
      obtain ⟨E, hE⟩ : ∃ E, E = Sm.esc b := ⟨_, rfl⟩
      have c1 := write_c A n c l w hr (by omega) hnc hx
      have c2 : ∀ W, RL W W.heap.size A n c l → Calls Tryd.prog 16 #[.slice A n c] W (RetWD W X) := fun W h => by rw [hX]; exact rwrite_c A n c l W h (by omega)
      have c3 : ∀ W, Rb W W.heap.size A' b.length d b → Calls Tryd.prog 17 #[.slice A' b.length d] W (RetE W.heap.size W U) := fun W h => by rw [hU]; exact unesc_c A' _ d b W h (by omega)
      have c4 : ∀ W, Rb W W.heap.size A' b.length d b → Calls Tryd.prog 18 #[.slice A' b.length d] W (RetE W.heap.size W U) := fun W h => by rw [hU]; exact runesc_c A' _ d b W h (by omega)
      have c5 : ∀ W, Rb W W.heap.size A' b.length d b → Mx W → Calls Tryd.prog 19 #[.slice A' b.length d] W (RetB W.heap.size W E) := fun W h h2 => by rw [hE]; exact esc_c A' _ d b W h (by omega) h2
      have c6 : ∀ W, Rb W W.heap.size A' b.length d b → Calls Tryd.prog 20 #[.slice A' b.length d] W (RetB W.heap.size W E) := fun W h => by rw [hE]; exact resc_c A' _ d b W h (by omega)
      rw [← hX] at c1
      have Hr := Lib.hid hr; have Hb := Lib.hid hb; have Hx := Lib.hid hx; have Hfew := Lib.hid hfew
      have C1 := Lib.hid c1; have C2 := Lib.hid c2; have C3 := Lib.hid c3; have C4 := Lib.hid c4; have C5 := Lib.hid c5; have C6 := Lib.hid c6
      clear hr hz h1 hb hx hfew hl c1 c2 c3 c4 c5 c6 hX hU hE
      go_enter Tryd.func4, Tryd.ntmps4
      go_wp2_with fail
      refine Hfew.out.mono ?_
      rintro e w0 ⟨rfl, rfl⟩
      go_wp2_with fail
      refine C1.out.mono ?_
      rintro e w1 ⟨A1, c1, rfl, hw1, hb1⟩
      have z1 := hb1.size
      have H1 := Lib.hid hw1.1; clear hw1
      go_wp2_with fail
      refine (C2.out w1 ((Hr.out.below hb1).more z1)).mono ?_
      rintro e w2 ⟨A2, c2, rfl, hw2, hb2⟩
      have z2 := hb2.size
      have H2 := Lib.hid hw2; clear hw2
      have b2 := hb1.trans (hb2.mono z1)
      go_wp2_with fail
      refine (C3.out w2 ((Hb.out.below b2).more (by omega))).mono ?_
      rintro e w3 ⟨A3, c3, rfl, hw3, hb3⟩
      have z3 := hb3.size
      have H3 := Lib.hid hw3.rb; clear hw3
      have b3 := b2.trans (hb3.mono (by omega))
      go_wp2_with fail
      refine (C4.out w3 ((Hb.out.below b3).more (by omega))).mono ?_
      rintro e w4 ⟨A4, c4, rfl, hw4, hb4⟩
      have z4 := hb4.size
      have H4 := Lib.hid hw4.rb; clear hw4
      have b4 := b3.trans (hb4.mono (by omega))
      -- REGION
      go_upto_region 7 with fail
      refine wp_region_sched [(true, 0), (false, 1), (false, 2), (false, 3), (false, 4), (false, 5), (false, 6), (false, 7), (false, 8), (false, 9), (false, 10), (false, 11), (false, 12), (false, 13), (false, 14), (false, 17), (true, 15), (false, 16), (true, 18), (false, 19), (false, 20), (false, 21), (false, 22), (false, 23), (false, 24), (false, 25), (false, 26), (false, 27), (false, 28), (false, 29), (false, 30), (false, 31), (false, 32), (false, 33), (false, 34)] (by kernel_rfl) (by kernel_rfl) (by kernel_rfl) (by kernel_rfl) (fun _ _ d _ _ h => by cases d <;> exact h) ?_
      have b14 : Below w1.heap.size w1 w4 := (hb2.trans (hb3.mono z2)).trans (hb4.mono (by omega))
      have b24 : Below w2.heap.size w2 w4 := hb3.trans (hb4.mono z3)
      have H1d : Hid (Rb w4.drew w4.drew.heap.size A1 X.1.length c1 X.1) := Lib.hid ((H1.out.below b14).more (show w1.heap.size ≤ w4.heap.size by omega))
      have H2d : Hid (Rb w4.drew w4.drew.heap.size A2 X.1.length c2 X.1) := Lib.hid ((H2.out.below b24).more (show w2.heap.size ≤ w4.heap.size by omega))
      have H3d : Hid (Rb w4.drew w4.drew.heap.size A3 U.1.length c3 U.1) := Lib.hid ((H3.out.below hb4).more (show w3.heap.size ≤ w4.heap.size by omega))
      have H4d : Hid (Rb w4.drew w4.drew.heap.size A4 U.1.length c4 U.1) := H4
      have Hbd : Hid (Rb w4.drew w4.drew.heap.size A' b.length d b) := Lib.hid ((Hb.out.below b4).more (show w.heap.size ≤ w4.heap.size by omega))
      have HXd : Hid (Mx w4.drew) := Lib.hid (Hx.out.below' (b4.trans ((grow_drew w4).mono (show w.heap.size ≤ w4.heap.size by omega))))
      have HGd := Lib.hid (grow_drew w4)
      refine wpS_call (o := { dst := some 42, op := Go.Op.call { callee := Go.Callee.value (Go.Operand.func 9), args := #[], argTypes := #[] }, type := 4, pos := "law.go:55", after := #[], guard := none }) rfl (by rfl) (fun K hK => ?_)
      go_simp
      go_at_call 9
      with_reducible refine (alive_c _ HXd.out).mono ?_
      rintro e w5 ⟨rfl, hb5⟩
      have H15 := Lib.hid ((H1d.out.below hb5).more hb5.size)
      have H25 := Lib.hid ((H2d.out.below hb5).more hb5.size)
      have H35 := Lib.hid ((H3d.out.below hb5).more hb5.size)
      have H45 := Lib.hid ((H4d.out.below hb5).more hb5.size)
      have Hb5 := Lib.hid ((Hbd.out.below hb5).more hb5.size)
      have HG5 := Lib.hid (HGd.out.trans hb5); have HX5 := Lib.hid (HXd.out.below' hb5)
      refine hK.out _ _ hb5 ?_
      clear hK K hb5
      try simp only [Act.put, List.setIfInBounds_toArray, List.set_cons_zero, List.set_cons_succ]
      refine wpS_read (o := { dst := some 43, op := Go.Op.move (Go.Operand.tmp 42), type := 4, pos := "law.go:55", after := #[{ on := 0, ground := Go.Ground.data }, { on := 0, ground := Go.Ground.chain }], guard := none }) (v := ?_) rfl (by rfl) ?_ ?_
      rotate_left
      · intro w' hg; go_simp; try with_reducible rfl
      try simp only [Act.put, List.setIfInBounds_toArray, List.set_cons_zero, List.set_cons_succ]
      refine wpS_read (o := { dst := some 44, op := Go.Op.move (Go.Operand.tmp 5), type := 22, pos := "law.go:55", after := #[{ on := 1, ground := Go.Ground.guard }], guard := some (1, true) }) (v := ?_) rfl (by rfl) ?_ ?_
      rotate_left
      · intro w' hg; go_simp; try with_reducible rfl
      try simp only [Act.put, List.setIfInBounds_toArray, List.set_cons_zero, List.set_cons_succ]
      refine wpS_read (o := { dst := some 45, op := Go.Op.convert 22 9 (Go.Operand.tmp 44), type := 9, pos := "law.go:55", after := #[{ on := 2, ground := Go.Ground.data }, { on := 1, ground := Go.Ground.guard }], guard := some (1, true) }) (v := ?_) rfl (by rfl) ?_ ?_
      rotate_left
      · intro w' hg; have q0 := bty.conv (H15.out.below hg); go_simp; try with_reducible rfl
      try simp only [Act.put, List.setIfInBounds_toArray, List.set_cons_zero, List.set_cons_succ]
      refine wpS_read (o := { dst := some 46, op := Go.Op.move (Go.Operand.tmp 7), type := 22, pos := "law.go:55", after := #[{ on := 1, ground := Go.Ground.guard }], guard := some (1, true) }) (v := ?_) rfl (by rfl) ?_ ?_
      rotate_left
      · intro w' hg; go_simp; try with_reducible rfl
      try simp only [Act.put, List.setIfInBounds_toArray, List.set_cons_zero, List.set_cons_succ]
      refine wpS_read (o := { dst := some 47, op := Go.Op.convert 22 9 (Go.Operand.tmp 46), type := 9, pos := "law.go:55", after := #[{ on := 4, ground := Go.Ground.data }, { on := 1, ground := Go.Ground.guard }], guard := some (1, true) }) (v := ?_) rfl (by rfl) ?_ ?_
      rotate_left
      · intro w' hg; have q0 := bty.conv (H25.out.below hg); go_simp; try with_reducible rfl
      try simp only [Act.put, List.setIfInBounds_toArray, List.set_cons_zero, List.set_cons_succ]
      refine wpS_read (o := { dst := some 48, op := Go.Op.binOp Go.BinOp.eql 9 (Go.Operand.tmp 45) (Go.Operand.tmp 47) 9, type := 4, pos := "law.go:55", after := #[{ on := 3, ground := Go.Ground.data }, { on := 5, ground := Go.Ground.data }, { on := 1, ground := Go.Ground.guard }], guard := some (1, true) }) (v := ?_) rfl (by rfl) ?_ ?_
      rotate_left
      · intro w' hg; go_simp; try with_reducible rfl
      try simp only [Act.put, List.setIfInBounds_toArray, List.set_cons_zero, List.set_cons_succ]
      refine wpS_read (o := { dst := some 49, op := Go.Op.pick (Go.Operand.tmp 43) (Go.Operand.tmp 48) (Go.Operand.const (Go.Value.bool false)), type := 4, pos := "law.go:55", after := #[{ on := 1, ground := Go.Ground.data }, { on := 6, ground := Go.Ground.data }], guard := none }) (v := ?_) rfl (by rfl) ?_ ?_
      rotate_left
      · intro w' hg; go_simp; try with_reducible rfl
      try simp only [Act.put, List.setIfInBounds_toArray, List.set_cons_zero, List.set_cons_succ]
      refine wpS_read (o := { dst := some 50, op := Go.Op.move (Go.Operand.tmp 49), type := 4, pos := "law.go:55", after := #[{ on := 7, ground := Go.Ground.data }, { on := 1, ground := Go.Ground.chain }], guard := none }) (v := ?_) rfl (by rfl) ?_ ?_
      rotate_left
      · intro w' hg; go_simp; try with_reducible rfl
      try simp only [Act.put, List.setIfInBounds_toArray, List.set_cons_zero, List.set_cons_succ]
      refine wpS_read (o := { dst := some 51, op := Go.Op.move (Go.Operand.tmp 6), type := 25, pos := "law.go:55", after := #[{ on := 8, ground := Go.Ground.guard }], guard := some (8, true) }) (v := ?_) rfl (by rfl) ?_ ?_
      rotate_left
      · intro w' hg; go_simp; try with_reducible rfl
      try simp only [Act.put, List.setIfInBounds_toArray, List.set_cons_zero, List.set_cons_succ]
      refine wpS_read (o := { dst := some 52, op := Go.Op.move (Go.Operand.tmp 8), type := 25, pos := "law.go:55", after := #[{ on := 8, ground := Go.Ground.guard }], guard := some (8, true) }) (v := ?_) rfl (by rfl) ?_ ?_
      rotate_left
      · intro w' hg; go_simp; try with_reducible rfl
      try simp only [Act.put, List.setIfInBounds_toArray, List.set_cons_zero, List.set_cons_succ]
      refine wpS_read (o := { dst := some 53, op := Go.Op.binOp Go.BinOp.eql 25 (Go.Operand.tmp 51) (Go.Operand.tmp 52) 25, type := 4, pos := "law.go:55", after := #[{ on := 9, ground := Go.Ground.data }, { on := 10, ground := Go.Ground.data }, { on := 8, ground := Go.Ground.guard }], guard := some (8, true) }) (v := ?_) rfl (by rfl) ?_ ?_
      rotate_left
      · intro w' hg; go_simp; try with_reducible rfl
      try simp only [Act.put, List.setIfInBounds_toArray, List.set_cons_zero, List.set_cons_succ]
      refine wpS_read (o := { dst := some 54, op := Go.Op.pick (Go.Operand.tmp 50) (Go.Operand.tmp 53) (Go.Operand.const (Go.Value.bool false)), type := 4, pos := "law.go:55", after := #[{ on := 8, ground := Go.Ground.data }, { on := 11, ground := Go.Ground.data }], guard := none }) (v := ?_) rfl (by rfl) ?_ ?_
      rotate_left
      · intro w' hg; go_simp; try with_reducible rfl
      try simp only [Act.put, List.setIfInBounds_toArray, List.set_cons_zero, List.set_cons_succ]
      refine wpS_read (o := { dst := some 55, op := Go.Op.move (Go.Operand.tmp 54), type := 4, pos := "law.go:55", after := #[{ on := 12, ground := Go.Ground.data }, { on := 8, ground := Go.Ground.chain }], guard := none }) (v := ?_) rfl (by rfl) ?_ ?_
      rotate_left
      · intro w' hg; go_simp; try with_reducible rfl
      try simp only [Act.put, List.setIfInBounds_toArray, List.set_cons_zero, List.set_cons_succ]
      refine wpS_read (o := { dst := some 56, op := Go.Op.move (Go.Operand.tmp 1), type := 22, pos := "law.go:55", after := #[{ on := 13, ground := Go.Ground.guard }], guard := some (13, true) }) (v := ?_) rfl (by rfl) ?_ ?_
      rotate_left
      · intro w' hg; go_simp; try with_reducible rfl
      try simp only [Act.put, List.setIfInBounds_toArray, List.set_cons_zero, List.set_cons_succ]
      refine wpS_read (o := { dst := some 59, op := Go.Op.move (Go.Operand.tmp 1), type := 22, pos := "law.go:55", after := #[{ on := 13, ground := Go.Ground.guard }], guard := some (13, true) }) (v := ?_) rfl (by rfl) ?_ ?_
      rotate_left
      · intro w' hg; go_simp; try with_reducible rfl
      try simp only [Act.put, List.setIfInBounds_toArray, List.set_cons_zero, List.set_cons_succ]
      refine wpS_call (o := { dst := some 57, op := Go.Op.call { callee := Go.Callee.value (Go.Operand.func 19), args := #[Go.Operand.tmp 56], argTypes := #[22] }, type := 22, pos := "law.go:55", after := #[{ on := 14, ground := Go.Ground.data }, { on := 13, ground := Go.Ground.chain }, { on := 13, ground := Go.Ground.guard }], guard := some (13, true) }) rfl (by rfl) (fun K hK => ?_)
      go_simp
      go_at_call 19
      with_reducible refine (C5.out _ Hb5.out HX5.out).mono ?_
      rintro e w6 ⟨A6, c6, rfl, ho6, hb6⟩
      have H16 := Lib.hid ((H15.out.below hb6).more hb6.size)
      have H26 := Lib.hid ((H25.out.below hb6).more hb6.size)
      have H36 := Lib.hid ((H35.out.below hb6).more hb6.size)
      have H46 := Lib.hid ((H45.out.below hb6).more hb6.size)
      have Hb6 := Lib.hid ((Hb5.out.below hb6).more hb6.size)
      have HG6 := Lib.hid (HG5.out.trans hb6); have HX6 := Lib.hid (HX5.out.below' hb6)
      have HE6 := Lib.hid ho6.rb; clear ho6
      refine hK.out _ _ hb6 ?_
      clear hK K hb6
      try simp only [Act.put, List.setIfInBounds_toArray, List.set_cons_zero, List.set_cons_succ]
      refine wpS_read (o := { dst := some 58, op := Go.Op.convert 22 9 (Go.Operand.tmp 57), type := 9, pos := "law.go:55", after := #[{ on := 15, ground := Go.Ground.data }, { on := 13, ground := Go.Ground.guard }], guard := some (13, true) }) (v := ?_) rfl (by rfl) ?_ ?_
      rotate_left
      · intro w' hg; have q0 := bty.conv (HE6.out.below hg); go_simp; try with_reducible rfl
      try simp only [Act.put, List.setIfInBounds_toArray, List.set_cons_zero, List.set_cons_succ]
      refine wpS_call (o := { dst := some 60, op := Go.Op.call { callee := Go.Callee.value (Go.Operand.func 20), args := #[Go.Operand.tmp 59], argTypes := #[22] }, type := 22, pos := "law.go:55", after := #[{ on := 17, ground := Go.Ground.data }, { on := 15, ground := Go.Ground.chain }, { on := 13, ground := Go.Ground.guard }], guard := some (13, true) }) rfl (by rfl) (fun K hK => ?_)
      go_simp
      go_at_call 20
      with_reducible refine (C6.out _ Hb6.out).mono ?_
      rintro e w7 ⟨A7, c7, rfl, ho7, hb7⟩
      have H17 := Lib.hid ((H16.out.below hb7).more hb7.size)
      have H27 := Lib.hid ((H26.out.below hb7).more hb7.size)
      have H37 := Lib.hid ((H36.out.below hb7).more hb7.size)
      have H47 := Lib.hid ((H46.out.below hb7).more hb7.size)
      have Hb7 := Lib.hid ((Hb6.out.below hb7).more hb7.size)
      have HE7 := Lib.hid ((HE6.out.below hb7).more hb7.size)
      have HG7 := Lib.hid (HG6.out.trans hb7); have HX7 := Lib.hid (HX6.out.below' hb7)
      have HF7 := Lib.hid ho7.rb; clear ho7
      refine hK.out _ _ hb7 ?_
      clear hK K hb7
      try simp only [Act.put, List.setIfInBounds_toArray, List.set_cons_zero, List.set_cons_succ]
      refine wpS_read (o := { dst := some 61, op := Go.Op.convert 22 9 (Go.Operand.tmp 60), type := 9, pos := "law.go:55", after := #[{ on := 18, ground := Go.Ground.data }, { on := 13, ground := Go.Ground.guard }], guard := some (13, true) }) (v := ?_) rfl (by rfl) ?_ ?_
      rotate_left
      · intro w' hg; have q0 := bty.conv (HF7.out.below hg); go_simp; try with_reducible rfl
      try simp only [Act.put, List.setIfInBounds_toArray, List.set_cons_zero, List.set_cons_succ]
      refine wpS_read (o := { dst := some 62, op := Go.Op.binOp Go.BinOp.eql 9 (Go.Operand.tmp 58) (Go.Operand.tmp 61) 9, type := 4, pos := "law.go:55", after := #[{ on := 16, ground := Go.Ground.data }, { on := 19, ground := Go.Ground.data }, { on := 13, ground := Go.Ground.guard }], guard := some (13, true) }) (v := ?_) rfl (by rfl) ?_ ?_
      rotate_left
      · intro w' hg; go_simp; try with_reducible rfl
      try simp only [Act.put, List.setIfInBounds_toArray, List.set_cons_zero, List.set_cons_succ]
      refine wpS_read (o := { dst := some 63, op := Go.Op.pick (Go.Operand.tmp 55) (Go.Operand.tmp 62) (Go.Operand.const (Go.Value.bool false)), type := 4, pos := "law.go:55", after := #[{ on := 13, ground := Go.Ground.data }, { on := 20, ground := Go.Ground.data }], guard := none }) (v := ?_) rfl (by rfl) ?_ ?_
      rotate_left
      · intro w' hg; go_simp; try with_reducible rfl
      try simp only [Act.put, List.setIfInBounds_toArray, List.set_cons_zero, List.set_cons_succ]
      refine wpS_read (o := { dst := some 64, op := Go.Op.move (Go.Operand.tmp 63), type := 4, pos := "law.go:55", after := #[{ on := 21, ground := Go.Ground.data }, { on := 18, ground := Go.Ground.chain }], guard := none }) (v := ?_) rfl (by rfl) ?_ ?_
      rotate_left
      · intro w' hg; go_simp; try with_reducible rfl
      try simp only [Act.put, List.setIfInBounds_toArray, List.set_cons_zero, List.set_cons_succ]
      refine wpS_read (o := { dst := some 65, op := Go.Op.move (Go.Operand.tmp 9), type := 22, pos := "law.go:55", after := #[{ on := 22, ground := Go.Ground.guard }], guard := some (22, true) }) (v := ?_) rfl (by rfl) ?_ ?_
      rotate_left
      · intro w' hg; go_simp; try with_reducible rfl
      try simp only [Act.put, List.setIfInBounds_toArray, List.set_cons_zero, List.set_cons_succ]
      refine wpS_read (o := { dst := some 66, op := Go.Op.convert 22 9 (Go.Operand.tmp 65), type := 9, pos := "law.go:55", after := #[{ on := 23, ground := Go.Ground.data }, { on := 22, ground := Go.Ground.guard }], guard := some (22, true) }) (v := ?_) rfl (by rfl) ?_ ?_
      rotate_left
      · intro w' hg; have q0 := bty.conv (H37.out.below hg); go_simp; try with_reducible rfl
      try simp only [Act.put, List.setIfInBounds_toArray, List.set_cons_zero, List.set_cons_succ]
      refine wpS_read (o := { dst := some 67, op := Go.Op.move (Go.Operand.tmp 11), type := 22, pos := "law.go:55", after := #[{ on := 22, ground := Go.Ground.guard }], guard := some (22, true) }) (v := ?_) rfl (by rfl) ?_ ?_
      rotate_left
      · intro w' hg; go_simp; try with_reducible rfl
      try simp only [Act.put, List.setIfInBounds_toArray, List.set_cons_zero, List.set_cons_succ]
      refine wpS_read (o := { dst := some 68, op := Go.Op.convert 22 9 (Go.Operand.tmp 67), type := 9, pos := "law.go:55", after := #[{ on := 25, ground := Go.Ground.data }, { on := 22, ground := Go.Ground.guard }], guard := some (22, true) }) (v := ?_) rfl (by rfl) ?_ ?_
      rotate_left
      · intro w' hg; have q0 := bty.conv (H47.out.below hg); go_simp; try with_reducible rfl
      try simp only [Act.put, List.setIfInBounds_toArray, List.set_cons_zero, List.set_cons_succ]
      refine wpS_read (o := { dst := some 69, op := Go.Op.binOp Go.BinOp.eql 9 (Go.Operand.tmp 66) (Go.Operand.tmp 68) 9, type := 4, pos := "law.go:55", after := #[{ on := 24, ground := Go.Ground.data }, { on := 26, ground := Go.Ground.data }, { on := 22, ground := Go.Ground.guard }], guard := some (22, true) }) (v := ?_) rfl (by rfl) ?_ ?_
      rotate_left
      · intro w' hg; go_simp; try with_reducible rfl
      try simp only [Act.put, List.setIfInBounds_toArray, List.set_cons_zero, List.set_cons_succ]
      refine wpS_read (o := { dst := some 70, op := Go.Op.pick (Go.Operand.tmp 64) (Go.Operand.tmp 69) (Go.Operand.const (Go.Value.bool false)), type := 4, pos := "law.go:55", after := #[{ on := 22, ground := Go.Ground.data }, { on := 27, ground := Go.Ground.data }], guard := none }) (v := ?_) rfl (by rfl) ?_ ?_
      rotate_left
      · intro w' hg; go_simp; try with_reducible rfl
      try simp only [Act.put, List.setIfInBounds_toArray, List.set_cons_zero, List.set_cons_succ]
      refine wpS_read (o := { dst := some 71, op := Go.Op.move (Go.Operand.tmp 70), type := 4, pos := "law.go:55", after := #[{ on := 28, ground := Go.Ground.data }, { on := 22, ground := Go.Ground.chain }], guard := none }) (v := ?_) rfl (by rfl) ?_ ?_
      rotate_left
      · intro w' hg; go_simp; try with_reducible rfl
      try simp only [Act.put, List.setIfInBounds_toArray, List.set_cons_zero, List.set_cons_succ]
      refine wpS_read (o := { dst := some 72, op := Go.Op.move (Go.Operand.tmp 10), type := 25, pos := "law.go:55", after := #[{ on := 29, ground := Go.Ground.guard }], guard := some (29, true) }) (v := ?_) rfl (by rfl) ?_ ?_
      rotate_left
      · intro w' hg; go_simp; try with_reducible rfl
      try simp only [Act.put, List.setIfInBounds_toArray, List.set_cons_zero, List.set_cons_succ]
      refine wpS_read (o := { dst := some 73, op := Go.Op.move (Go.Operand.tmp 12), type := 25, pos := "law.go:55", after := #[{ on := 29, ground := Go.Ground.guard }], guard := some (29, true) }) (v := ?_) rfl (by rfl) ?_ ?_
      rotate_left
      · intro w' hg; go_simp; try with_reducible rfl
      try simp only [Act.put, List.setIfInBounds_toArray, List.set_cons_zero, List.set_cons_succ]
      refine wpS_read (o := { dst := some 74, op := Go.Op.binOp Go.BinOp.eql 25 (Go.Operand.tmp 72) (Go.Operand.tmp 73) 25, type := 4, pos := "law.go:55", after := #[{ on := 30, ground := Go.Ground.data }, { on := 31, ground := Go.Ground.data }, { on := 29, ground := Go.Ground.guard }], guard := some (29, true) }) (v := ?_) rfl (by rfl) ?_ ?_
      rotate_left
      · intro w' hg; go_simp; try with_reducible rfl
      try simp only [Act.put, List.setIfInBounds_toArray, List.set_cons_zero, List.set_cons_succ]
      refine wpS_read (o := { dst := some 75, op := Go.Op.pick (Go.Operand.tmp 71) (Go.Operand.tmp 74) (Go.Operand.const (Go.Value.bool false)), type := 4, pos := "law.go:55", after := #[{ on := 29, ground := Go.Ground.data }, { on := 32, ground := Go.Ground.data }], guard := none }) (v := ?_) rfl (by rfl) ?_ ?_
      rotate_left
      · intro w' hg; go_simp; try with_reducible rfl
      try simp only [Act.put, List.setIfInBounds_toArray, List.set_cons_zero, List.set_cons_succ]
      refine wpS_read (o := { dst := some 4, op := Go.Op.assign (Go.Operand.tmp 75), type := 4, pos := "law.go:55", after := #[{ on := 33, ground := Go.Ground.data }, { on := 29, ground := Go.Ground.chain }, { on := 0, ground := Go.Ground.phase }, { on := 1, ground := Go.Ground.phase }, { on := 2, ground := Go.Ground.phase }, { on := 3, ground := Go.Ground.phase }, { on := 4, ground := Go.Ground.phase }, { on := 5, ground := Go.Ground.phase }, { on := 6, ground := Go.Ground.phase }, { on := 7, ground := Go.Ground.phase }, { on := 8, ground := Go.Ground.phase }, { on := 9, ground := Go.Ground.phase }, { on := 10, ground := Go.Ground.phase }, { on := 11, ground := Go.Ground.phase }, { on := 12, ground := Go.Ground.phase }, { on := 13, ground := Go.Ground.phase }, { on := 14, ground := Go.Ground.phase }, { on := 15, ground := Go.Ground.phase }, { on := 16, ground := Go.Ground.phase }, { on := 17, ground := Go.Ground.phase }, { on := 18, ground := Go.Ground.phase }, { on := 19, ground := Go.Ground.phase }, { on := 20, ground := Go.Ground.phase }, { on := 21, ground := Go.Ground.phase }, { on := 22, ground := Go.Ground.phase }, { on := 23, ground := Go.Ground.phase }, { on := 24, ground := Go.Ground.phase }, { on := 25, ground := Go.Ground.phase }, { on := 26, ground := Go.Ground.phase }, { on := 27, ground := Go.Ground.phase }, { on := 28, ground := Go.Ground.phase }, { on := 29, ground := Go.Ground.phase }, { on := 30, ground := Go.Ground.phase }, { on := 31, ground := Go.Ground.phase }, { on := 32, ground := Go.Ground.phase }, { on := 33, ground := Go.Ground.phase }], guard := none }) (v := ?_) rfl (by rfl) ?_ ?_
      rotate_left
      · intro w' hg; go_simp; try with_reducible rfl
      try simp only [Act.put, List.setIfInBounds_toArray, List.set_cons_zero, List.set_cons_succ]
      refine wpS_done ?_
      go_wp2
      go_ret
      exact ⟨by simp, b4.trans (Below.mono HG7.out (show w.heap.size ≤ w4.heap.size by omega))⟩
  · rw [decide_eq_false h1] at hfew
    have Hx := Lib.hid hx; have Hfew := Lib.hid hfew; clear hr hz h1 hb hx hfew hl
    go_enter Tryd.func4, Tryd.ntmps4
    go_wp2_with fail
    refine Hfew.out.mono ?_
    rintro e w1 ⟨rfl, rfl⟩
    go_wp2_with fail
    refine (alive_c _ Hx.out).mono ?_
    rintro e w2 ⟨rfl, hb2⟩
    go_wp2
    go_ret
    exact ⟨rfl, hb2⟩
end Go.Proofs.YtddnlimkaagpdaaDoor
