/-
  The walk of the law FieldLines.
-/
import Derived.Test.YtihfejjkkgnneaaAl
import Derived.Test.YtihfejjkkgnneaaQ7
import Derived.Test.YtihfejjkkgnneaaRs
import Derived.Deep.DeepCutAuto
namespace Go.Proofs.Ytihfejjkkgnneaa
open Go.RowKit Go.Maps
set_option linter.unusedSimpArgs false

theorem lines_len : ∀ l : List (List UInt8 × List UInt8), (Fm.lines l).length ≤ 2 * wP l ∧ 2 * l.length ≤ wP l
  | [] => by simp [Fm.lines, wP]
  | p :: t => by
    obtain ⟨h1, h2⟩ := lines_len t
    have e1 := Fm.esc_len p.1
    have e2 := Fm.esc_len p.2
    rw [lines_cons]
    simp only [List.length_append, List.length_cons, List.length_nil, wP]
    exact ⟨by omega, by omega⟩
theorem wP_mem : ∀ (l : List (List UInt8 × List UInt8)) (p : List UInt8 × List UInt8), p ∈ l → p.1.length ≤ wP l ∧ p.2.length ≤ wP l
  | [], p, h => by cases h
  | q :: t, p, h => by
    rcases List.mem_cons.1 h with rfl | h
    · simp only [wP]; exact ⟨by omega, by omega⟩
    · have := wP_mem t p h
      simp only [wP]; exact ⟨by omega, by omega⟩
theorem lines_n (A : Option Addr) (n c : Nat) (l : List (List UInt8 × List UInt8)) (X : List UInt8) (w : World) (hr : RP w w.heap.size A n c l) (hn : n ≤ 4000) (hs : Shorts l) (hX : X = Fm.lines l) (hXl : X.length ≤ 8000) :
    Calls Try.prog 27 #[.slice A n c] w (RetB w.heap.size w X) := by
  subst hX
  exact lines_c A n c _ l w hr (Nat.le_refl _) (by omega) hs (by omega)
theorem rlines_n (A : Option Addr) (n c : Nat) (l : List (List UInt8 × List UInt8)) (X : List UInt8) (w : World) (hr : RP w w.heap.size A n c l) (hn : n ≤ 4000) (hs : Shorts l) (hX : X = Fm.lines l) (hXl : X.length ≤ 8000) :
    Calls Try.prog 28 #[.slice A n c] w (RetB w.heap.size w X) := by
  subst hX
  exact rlines_c A n c _ l w hr (Nat.le_refl _) (by omega) hs (by omega)

set_option maxRecDepth 100000 in
theorem fieldLines_many (A D : Option Addr) (n c m d : Nat) (l : List (List UInt8 × List UInt8)) (w : World) (hr : RP w w.heap.size A n c l) (hz : ∀ p ∈ l, p.1.length ≤ 140737488355328 ∧ p.2.length ≤ 140737488355328) (h : ¬ wP l ≤ 4000) :
    Calls Try.prog 5 #[.slice A n c, .slice D m d] w fun e w' => e = .returned (.bool true) ∧ Below w.heap.size w w' := by
  have Hr := Lib.hid hr; have Hz := Lib.hid hz; have Ho := Lib.hid (decide_eq_false h).symm; clear hr hz h
  go_enter Try.func5, Try.ntmps5
  go_wp2_with fail
  refine (few_c A n c _ l _ Hr.out Hz.out false Ho.out).mono ?_
  rintro e w1 ⟨rfl, q, rfl⟩
  go_wp2_with fail
  refine (alive_c _).mono ?_
  rintro e w2 ⟨rfl, hb2⟩
  go_wp2
  go_ret
  exact ⟨rfl, (below_drewN (Below.refl _ _) q).trans hb2⟩
set_option maxRecDepth 100000 in
theorem fieldLines_long (A D : Option Addr) (n c m d : Nat) (l : List (List UInt8 × List UInt8)) (w : World) (hr : RP w w.heap.size A n c l) (hz : ∀ p ∈ l, p.1.length ≤ 140737488355328 ∧ p.2.length ≤ 140737488355328) (h : wP l ≤ 4000) (hm : m ≤ maxLen) (hbig : 4000 < m) :
    Calls Try.prog 5 #[.slice A n c, .slice D m d] w fun e w' => e = .returned (.bool true) ∧ Below w.heap.size w w' := by
  unfold maxLen at hm
  have Hr := Lib.hid hr; have Hz := Lib.hid hz; have Ho := Lib.hid (decide_eq_true h).symm; clear hr hz h
  go_enter Try.func5, Try.ntmps5
  go_wp2_with fail
  refine (few_c A n c _ l _ Hr.out Hz.out true Ho.out).mono ?_
  rintro e w1 ⟨rfl, q, rfl⟩
  go_wp2_with fail
  refine (alive_c _).mono ?_
  rintro e w2 ⟨rfl, hb2⟩
  go_wp2
  go_ret
  exact ⟨rfl, (below_drewN (Below.refl _ _) q).trans hb2⟩

theorem line_two : ∀ l : List (List UInt8 × List UInt8), 2 * l.length ≤ (Fm.lines l).length
  | [] => by simp
  | p :: t => by
    have := line_two t
    rw [lines_cons]
    simp only [List.length_append, List.length_cons, List.length_nil]
    omega
theorem ps_len (T : List UInt8) : (psS (Fm.pairs T)).1.length ≤ T.length := by
  cases h : Fm.pairs T with
  | none => simp [psS]
  | some l =>
    have := lines_len l
    have e := Fm.lines_pairs h
    have h2 := line_two l
    rw [e] at h2
    simp only [psS]
    omega

set_option maxRecDepth 100000 in
set_option maxHeartbeats 4000000 in
theorem fieldLines_short (A D : Option Addr) (n c m d : Nat) (l : List (List UInt8 × List UInt8)) (T : List UInt8) (w : World) (hr : RP w w.heap.size A n c l) (hrD : Rb w w.heap.size D m d T) (hz : ∀ p ∈ l, p.1.length ≤ 140737488355328 ∧ p.2.length ≤ 140737488355328) (h : wP l ≤ 4000) (hm : m ≤ 4000) :
    Calls Try.prog 5 #[.slice A n c, .slice D m d] w fun e w' => e = .returned (.bool true) ∧ Below w.heap.size w w' := by
  have hTl := hrD.len
  have hln := hr.len
  have hll := lines_len l
  have hn : n ≤ 4000 := by omega
  have hsh : Shorts l := fun p hp => by have := wP_mem l p hp; exact ⟨by omega, by omega⟩
  obtain ⟨X, hX⟩ : ∃ X, X = Fm.lines l := ⟨_, rfl⟩
  have hXl : X.length ≤ 8000 := by rw [hX]; omega
  obtain ⟨PL, x, hP⟩ : ∃ PL x, psS (Fm.pairs T) = (PL, x) := ⟨_, _, rfl⟩
  have hPl : PL.length ≤ 1000000 := by
    have := ps_len T
    rw [hP] at this
    have h2 : PL.length ≤ T.length := this
    omega
  have c1 : ∀ W, Rb W W.heap.size D m d T → Calls Try.prog 25 #[.slice D m d] W (RetPs W.heap.size W (PL, x)) := fun W h => by rw [← hP]; exact pairs_c D m d T W h (by omega)
  have c2 : ∀ W, Rb W W.heap.size D m d T → Calls Try.prog 26 #[.slice D m d] W (RetPs W.heap.size W (PL, x)) := fun W h => by rw [← hP]; exact rpairs_c D m d T W h (by omega)
  have Hr := Lib.hid hr; have HrD := Lib.hid hrD; have Hz := Lib.hid hz; have Ho := Lib.hid (decide_eq_true h).symm; have HSh := Lib.hid hsh; have HX := Lib.hid hX; have C1 := Lib.hid c1; have C2 := Lib.hid c2
  clear hr hrD hz h hsh hX hP c1 c2 hTl hln hll
  go_enter Try.func5, Try.ntmps5
  go_wp2_with fail
  refine (few_c A n c _ l _ Hr.out Hz.out true Ho.out).mono ?_
  rintro e w1 ⟨rfl, q, rfl⟩
  go_wp2_with fail
  refine (C1.out _ (HrD.out.drewN q)).mono ?_
  rintro e wu ⟨Au, cu, rfl, hownu, hbu0⟩
  have hbu : Below w.heap.size w wu := (below_drewN (Below.refl _ _) q).trans hbu0
  have hru := hownu.rc
  have Hru := Lib.hid hru; clear hownu hru hbu0
  go_wp2_with fail
  refine (C2.out _ ((HrD.out.below hbu).more hbu.size)).mono ?_
  rintro e wv ⟨Av, cv, rfl, hownv, hbv⟩
  have hbw : Below w.heap.size w wv := hbu.trans (hbv.mono hbu.size)
  have HU := Lib.hid (show RP wv wv.heap.size Au PL.length cu PL from (Rc.below Hru.out hbv).more hbv.size)
  have HV := Lib.hid (show RP wv wv.heap.size Av PL.length cv PL from hownv.rc)
  have HA := Lib.hid ((Hr.out.below hbw).more hbw.size)
  have HBW := Lib.hid hbw
  clear hownv hbv hbu hbw Hru
  go_upto_region 5 with fail
  refine wp_region_sched [(true, 0), (false, 1), (false, 2), (false, 5), (true, 3), (false, 4), (true, 6), (false, 7), (false, 8), (false, 9), (false, 10), (false, 11), (false, 12), (true, 13), (false, 14), (false, 15), (false, 16), (false, 17), (false, 18), (false, 19), (false, 20)] (by kernel_rfl) (by kernel_rfl) (by kernel_rfl) (by kernel_rfl) (fun _ _ d _ _ h => by cases d <;> exact h) ?_
  have HAd : Hid (RP wv.drew wv.drew.heap.size A n c l) := HA
  have HUd : Hid (RP wv.drew wv.drew.heap.size Au PL.length cu PL) := HU
  have HVd : Hid (RP wv.drew wv.drew.heap.size Av PL.length cv PL) := HV
  have HGd := Lib.hid (grow_drew wv)
  refine wpS_call (o := { dst := some 28, op := Go.Op.call { callee := Go.Callee.value (Go.Operand.func 9), args := #[], argTypes := #[] }, type := 4, pos := "law.go:71", after := #[], guard := none }) rfl (by rfl) (fun K hK => ?_)
  go_simp
  go_at_call 9
  with_reducible refine (alive_c _).mono ?_
  rintro e w2 ⟨rfl, hb2⟩
  have HA2 := Lib.hid ((HAd.out.below hb2).more hb2.size); have HU2 := Lib.hid ((HUd.out.below hb2).more hb2.size); have HV2 := Lib.hid ((HVd.out.below hb2).more hb2.size); have HG2 := Lib.hid (HGd.out.trans hb2)
  refine hK.out _ _ hb2 ?_
  clear hK K hb2
  try simp only [Act.put, List.setIfInBounds_toArray, List.set_cons_zero, List.set_cons_succ]
  refine wpS_read (o := { dst := some 29, op := Go.Op.move (Go.Operand.tmp 28), type := 4, pos := "law.go:71", after := #[{ on := 0, ground := Go.Ground.data }, { on := 0, ground := Go.Ground.chain }], guard := none }) (v := ?_) rfl (by rfl) ?_ ?_
  rotate_left
  · intro w' hg; go_simp; try with_reducible rfl
  try simp only [Act.put, List.setIfInBounds_toArray, List.set_cons_zero, List.set_cons_succ]
  refine wpS_read (o := { dst := some 30, op := Go.Op.move (Go.Operand.tmp 0), type := 42, pos := "law.go:71", after := #[{ on := 1, ground := Go.Ground.guard }], guard := some (1, true) }) (v := ?_) rfl (by rfl) ?_ ?_
  rotate_left
  · intro w' hg; go_simp; try with_reducible rfl
  try simp only [Act.put, List.setIfInBounds_toArray, List.set_cons_zero, List.set_cons_succ]
  refine wpS_read (o := { dst := some 33, op := Go.Op.move (Go.Operand.tmp 0), type := 42, pos := "law.go:71", after := #[{ on := 1, ground := Go.Ground.guard }], guard := some (1, true) }) (v := ?_) rfl (by rfl) ?_ ?_
  rotate_left
  · intro w' hg; go_simp; try with_reducible rfl
  try simp only [Act.put, List.setIfInBounds_toArray, List.set_cons_zero, List.set_cons_succ]
  refine wpS_call (o := { dst := some 31, op := Go.Op.call { callee := Go.Callee.value (Go.Operand.func 27), args := #[Go.Operand.tmp 30], argTypes := #[42] }, type := 23, pos := "law.go:71", after := #[{ on := 2, ground := Go.Ground.data }, { on := 1, ground := Go.Ground.chain }, { on := 1, ground := Go.Ground.guard }], guard := some (1, true) }) rfl (by rfl) (fun K hK => ?_)
  go_simp
  go_at_call 27
  with_reducible refine (lines_n A n c l X _ HA2.out hn HSh.out HX.out hXl).mono ?_
  rintro e w3 ⟨A3, c3, rfl, hown3, hb3⟩
  have Hs3 := Lib.hid hown3.rb; clear hown3
  have HA3 := Lib.hid ((HA2.out.below hb3).more hb3.size); have HU3 := Lib.hid ((HU2.out.below hb3).more hb3.size); have HV3 := Lib.hid ((HV2.out.below hb3).more hb3.size); have HG3 := Lib.hid (HG2.out.trans hb3)
  refine hK.out _ _ hb3 ?_
  clear hK K hb3
  try simp only [Act.put, List.setIfInBounds_toArray, List.set_cons_zero, List.set_cons_succ]
  refine wpS_read (o := { dst := some 32, op := Go.Op.convert 23 9 (Go.Operand.tmp 31), type := 9, pos := "law.go:71", after := #[{ on := 3, ground := Go.Ground.data }, { on := 1, ground := Go.Ground.guard }], guard := some (1, true) }) (v := ?_) rfl (by rfl) ?_ ?_
  rotate_left
  · intro w' hg; have q0 := bty.conv (Hs3.out.below hg); go_simp; try with_reducible rfl
  try simp only [Act.put, List.setIfInBounds_toArray, List.set_cons_zero, List.set_cons_succ]
  refine wpS_call (o := { dst := some 34, op := Go.Op.call { callee := Go.Callee.value (Go.Operand.func 28), args := #[Go.Operand.tmp 33], argTypes := #[42] }, type := 23, pos := "law.go:71", after := #[{ on := 5, ground := Go.Ground.data }, { on := 3, ground := Go.Ground.chain }, { on := 1, ground := Go.Ground.guard }], guard := some (1, true) }) rfl (by rfl) (fun K hK => ?_)
  go_simp
  go_at_call 28
  with_reducible refine (rlines_n A n c l X _ HA3.out hn HSh.out HX.out hXl).mono ?_
  rintro e w4 ⟨A4, c4, rfl, hown4, hb4⟩
  have Hs4 := Lib.hid hown4.rb; clear hown4
  have HA4 := Lib.hid ((HA3.out.below hb4).more hb4.size); have HU4 := Lib.hid ((HU3.out.below hb4).more hb4.size); have HV4 := Lib.hid ((HV3.out.below hb4).more hb4.size); have HG4 := Lib.hid (HG3.out.trans hb4)
  refine hK.out _ _ hb4 ?_
  clear hK K hb4
  try simp only [Act.put, List.setIfInBounds_toArray, List.set_cons_zero, List.set_cons_succ]
  refine wpS_read (o := { dst := some 35, op := Go.Op.convert 23 9 (Go.Operand.tmp 34), type := 9, pos := "law.go:71", after := #[{ on := 6, ground := Go.Ground.data }, { on := 1, ground := Go.Ground.guard }], guard := some (1, true) }) (v := ?_) rfl (by rfl) ?_ ?_
  rotate_left
  · intro w' hg; have q0 := bty.conv (Hs4.out.below hg); go_simp; try with_reducible rfl
  try simp only [Act.put, List.setIfInBounds_toArray, List.set_cons_zero, List.set_cons_succ]
  refine wpS_read (o := { dst := some 36, op := Go.Op.binOp Go.BinOp.eql 9 (Go.Operand.tmp 32) (Go.Operand.tmp 35) 9, type := 4, pos := "law.go:71", after := #[{ on := 4, ground := Go.Ground.data }, { on := 7, ground := Go.Ground.data }, { on := 1, ground := Go.Ground.guard }], guard := some (1, true) }) (v := ?_) rfl (by rfl) ?_ ?_
  rotate_left
  · intro w' hg; go_simp; try with_reducible rfl
  try simp only [Act.put, List.setIfInBounds_toArray, List.set_cons_zero, List.set_cons_succ]
  refine wpS_read (o := { dst := some 37, op := Go.Op.pick (Go.Operand.tmp 29) (Go.Operand.tmp 36) (Go.Operand.const (Go.Value.bool false)), type := 4, pos := "law.go:71", after := #[{ on := 1, ground := Go.Ground.data }, { on := 8, ground := Go.Ground.data }], guard := none }) (v := ?_) rfl (by rfl) ?_ ?_
  rotate_left
  · intro w' hg; go_simp; try with_reducible rfl
  try simp only [Act.put, List.setIfInBounds_toArray, List.set_cons_zero, List.set_cons_succ]
  refine wpS_read (o := { dst := some 38, op := Go.Op.move (Go.Operand.tmp 37), type := 4, pos := "law.go:71", after := #[{ on := 9, ground := Go.Ground.data }, { on := 6, ground := Go.Ground.chain }], guard := none }) (v := ?_) rfl (by rfl) ?_ ?_
  rotate_left
  · intro w' hg; go_simp; try with_reducible rfl
  try simp only [Act.put, List.setIfInBounds_toArray, List.set_cons_zero, List.set_cons_succ]
  refine wpS_read (o := { dst := some 39, op := Go.Op.move (Go.Operand.tmp 5), type := 42, pos := "law.go:71", after := #[{ on := 10, ground := Go.Ground.guard }], guard := some (10, true) }) (v := ?_) rfl (by rfl) ?_ ?_
  rotate_left
  · intro w' hg; go_simp; try with_reducible rfl
  try simp only [Act.put, List.setIfInBounds_toArray, List.set_cons_zero, List.set_cons_succ]
  refine wpS_read (o := { dst := some 40, op := Go.Op.move (Go.Operand.tmp 7), type := 42, pos := "law.go:71", after := #[{ on := 10, ground := Go.Ground.guard }], guard := some (10, true) }) (v := ?_) rfl (by rfl) ?_ ?_
  rotate_left
  · intro w' hg; go_simp; try with_reducible rfl
  try simp only [Act.put, List.setIfInBounds_toArray, List.set_cons_zero, List.set_cons_succ]
  refine wpS_call (o := { dst := some 41, op := Go.Op.call { callee := Go.Callee.value (Go.Operand.func 29), args := #[Go.Operand.tmp 39, Go.Operand.tmp 40], argTypes := #[42, 42] }, type := 4, pos := "law.go:71", after := #[{ on := 11, ground := Go.Ground.data }, { on := 12, ground := Go.Ground.data }, { on := 10, ground := Go.Ground.chain }, { on := 10, ground := Go.Ground.guard }], guard := some (10, true) }) rfl (by rfl) (fun K hK => ?_)
  go_simp
  go_at_call 29
  with_reducible refine (pairsEq_c Au Av PL.length cu cv _ _ PL _ HU4.out HV4.out hPl).mono ?_
  rintro e w5 ⟨rfl, q5, rfl⟩
  have hb5 : Grow w4 (w4.drewN q5) := below_drewN (Below.refl _ _) q5
  have HG5 := Lib.hid (HG4.out.trans hb5)
  refine hK.out _ _ hb5 ?_
  clear hK K hb5
  try simp only [Act.put, List.setIfInBounds_toArray, List.set_cons_zero, List.set_cons_succ]
  refine wpS_read (o := { dst := some 42, op := Go.Op.pick (Go.Operand.tmp 38) (Go.Operand.tmp 41) (Go.Operand.const (Go.Value.bool false)), type := 4, pos := "law.go:71", after := #[{ on := 10, ground := Go.Ground.data }, { on := 13, ground := Go.Ground.data }], guard := none }) (v := ?_) rfl (by rfl) ?_ ?_
  rotate_left
  · intro w' hg; go_simp; try with_reducible rfl
  try simp only [Act.put, List.setIfInBounds_toArray, List.set_cons_zero, List.set_cons_succ]
  refine wpS_read (o := { dst := some 43, op := Go.Op.move (Go.Operand.tmp 42), type := 4, pos := "law.go:71", after := #[{ on := 14, ground := Go.Ground.data }, { on := 13, ground := Go.Ground.chain }], guard := none }) (v := ?_) rfl (by rfl) ?_ ?_
  rotate_left
  · intro w' hg; go_simp; try with_reducible rfl
  try simp only [Act.put, List.setIfInBounds_toArray, List.set_cons_zero, List.set_cons_succ]
  refine wpS_read (o := { dst := some 44, op := Go.Op.move (Go.Operand.tmp 6), type := 26, pos := "law.go:71", after := #[{ on := 15, ground := Go.Ground.guard }], guard := some (15, true) }) (v := ?_) rfl (by rfl) ?_ ?_
  rotate_left
  · intro w' hg; go_simp; try with_reducible rfl
  try simp only [Act.put, List.setIfInBounds_toArray, List.set_cons_zero, List.set_cons_succ]
  refine wpS_read (o := { dst := some 45, op := Go.Op.move (Go.Operand.tmp 8), type := 26, pos := "law.go:71", after := #[{ on := 15, ground := Go.Ground.guard }], guard := some (15, true) }) (v := ?_) rfl (by rfl) ?_ ?_
  rotate_left
  · intro w' hg; go_simp; try with_reducible rfl
  try simp only [Act.put, List.setIfInBounds_toArray, List.set_cons_zero, List.set_cons_succ]
  refine wpS_read (o := { dst := some 46, op := Go.Op.binOp Go.BinOp.eql 26 (Go.Operand.tmp 44) (Go.Operand.tmp 45) 26, type := 4, pos := "law.go:71", after := #[{ on := 16, ground := Go.Ground.data }, { on := 17, ground := Go.Ground.data }, { on := 15, ground := Go.Ground.guard }], guard := some (15, true) }) (v := ?_) rfl (by rfl) ?_ ?_
  rotate_left
  · intro w' hg; go_simp; try with_reducible rfl
  try simp only [Act.put, List.setIfInBounds_toArray, List.set_cons_zero, List.set_cons_succ]
  refine wpS_read (o := { dst := some 47, op := Go.Op.pick (Go.Operand.tmp 43) (Go.Operand.tmp 46) (Go.Operand.const (Go.Value.bool false)), type := 4, pos := "law.go:71", after := #[{ on := 15, ground := Go.Ground.data }, { on := 18, ground := Go.Ground.data }], guard := none }) (v := ?_) rfl (by rfl) ?_ ?_
  rotate_left
  · intro w' hg; go_simp; try with_reducible rfl
  try simp only [Act.put, List.setIfInBounds_toArray, List.set_cons_zero, List.set_cons_succ]
  refine wpS_read (o := { dst := some 4, op := Go.Op.assign (Go.Operand.tmp 47), type := 4, pos := "law.go:71", after := #[{ on := 19, ground := Go.Ground.data }, { on := 15, ground := Go.Ground.chain }, { on := 0, ground := Go.Ground.phase }, { on := 1, ground := Go.Ground.phase }, { on := 2, ground := Go.Ground.phase }, { on := 3, ground := Go.Ground.phase }, { on := 4, ground := Go.Ground.phase }, { on := 5, ground := Go.Ground.phase }, { on := 6, ground := Go.Ground.phase }, { on := 7, ground := Go.Ground.phase }, { on := 8, ground := Go.Ground.phase }, { on := 9, ground := Go.Ground.phase }, { on := 10, ground := Go.Ground.phase }, { on := 11, ground := Go.Ground.phase }, { on := 12, ground := Go.Ground.phase }, { on := 13, ground := Go.Ground.phase }, { on := 14, ground := Go.Ground.phase }, { on := 15, ground := Go.Ground.phase }, { on := 16, ground := Go.Ground.phase }, { on := 17, ground := Go.Ground.phase }, { on := 18, ground := Go.Ground.phase }, { on := 19, ground := Go.Ground.phase }], guard := none }) (v := ?_) rfl (by rfl) ?_ ?_
  rotate_left
  · intro w' hg; go_simp; try with_reducible rfl
  try simp only [Act.put, List.setIfInBounds_toArray, List.set_cons_zero, List.set_cons_succ]
  refine wpS_done ?_
  go_wp2
  go_ret
  exact ⟨by simp, HBW.out.trans (Below.mono HG5.out HBW.out.size)⟩

theorem fieldLines_walk (A : Option Addr) (n c : Nat) (l : List (List UInt8 × List UInt8)) (D : Option Addr) (m d : Nat) (T : List UInt8) (w : World) (hr : RP w w.heap.size A n c l) (hz : ∀ p ∈ l, p.1.length ≤ 140737488355328 ∧ p.2.length ≤ 140737488355328) (hrD : Rb w w.heap.size D m d T) :
    Calls Try.prog 5 #[.slice A n c, .slice D m d] w fun e w' => e = .returned (.bool true) ∧ Below w.heap.size w w' := by
  by_cases h : wP l ≤ 4000
  · by_cases h2 : 4000 < m
    · exact fieldLines_long A D n c m d l w hr hz h (Nat.le_trans hrD.2.1 hrD.2.2.1) h2
    · exact fieldLines_short A D n c m d l T w hr hrD hz h (by omega)
  · exact fieldLines_many A D n c m d l w hr hz h
end Go.Proofs.Ytihfejjkkgnneaa
