/-
  The walk of the law PlanMakes.
-/
import Derived.Test.YtknmhdkomjjneaaGreatDoorJ39
import Derived.Test.YtknmhdkomjjneaaGreatDoorJ23
namespace Go.Proofs.YtknmhdkomjjneaaGreatDoor
open Go.RowKit Pl

/-- What stays said while the blocks that there are stay. -/
structure Held (T : World → Prop) (W : World) : Prop where
  st : ∀ W W' : World, T W → Below W.heap.size W W' → T W'
  it : T W
theorem Held.go {T : World → Prop} {W W' : World} (h : Held T W) (b : Below W.heap.size W W') : Held T W' := ⟨h.st, h.st _ _ h.it b⟩
theorem Held.cons {S T : World → Prop} {W : World} (g : Held S W) (h : Held T W) : Held (fun W => S W ∧ T W) W := ⟨fun _ _ q b => ⟨g.st _ _ q.1 b, h.st _ _ q.2 b⟩, g.it, h.it⟩
theorem held_rc {z n c : Nat} {A : Option Addr} {vs : List Value} {W : World} (h : Rc z W W.heap.size A n c vs) : Held (fun W => Rc z W W.heap.size A n c vs) W := ⟨fun _ _ q b => (q.below b).more b.size, h⟩
theorem held_pl {n c : Nat} {A : Option Addr} {P : List (Nat × List (List (List UInt8)))} {W : World} (h : PLS W (· < W.heap.size) A n c P) : Held (fun W => PL W W.heap.size A n c P) W := ⟨fun _ _ q b => PLS.keep q (stays_below b b.size), h⟩
theorem held_mx {W : World} (h : Sq.Mx W) : Held Sq.Mx W := ⟨fun _ _ q b => q.below b q.2, h⟩
theorem pcs2_c (A A' : Option Addr) (n c c' : Nat) (l : List (Nat × List (List (List UInt8)))) (w : World) (h1 : PL w w.heap.size A n c l) (h2 : PL w w.heap.size A' n c' l) (hn : n ≤ 1000000) (hz : ∀ p ∈ l, p.2.length ≤ 1000000 ∧ ∀ r ∈ p.2, r.length ≤ 1000000) :
    Calls Tryz.prog 17 #[.slice A n c, .slice A' n c'] w fun e w' => e = .returned (.bool true) ∧ Below w.heap.size w w' :=
  (Txt.pieces_c A A' n c c' l w h1 h2 hn hz).mono fun e w' ⟨h, q, hq⟩ => ⟨h, by rw [hq]; exact below_drewN (Below.refl _ _) q⟩

set_option maxRecDepth 100000 in
set_option maxHeartbeats 1000000 in
theorem planMakes_big (f k : Int) (A : Option Addr) (n c : Nat) (A' : Option Addr) (m d : Nat) (w : World) (hn : n ≤ 9223372036854775807) (hm : m ≤ 9223372036854775807) (hx : Sq.Mx w) (h : 1500 < n ∨ 100 < m) :
    Calls Tryz.prog 3 #[flv f k A n c, .slice A' m d] w fun e w' => e = .returned (.bool true) ∧ Below w.heap.size w w' := by
  obtain ⟨w0, hw0⟩ : ∃ w0, w0 = w.alloc (.cells #[.int .i64 f, .int .i64 k, .slice A n c] 24) := ⟨_, rfl⟩
  have b0 : Below w.heap.size w w0 := by rw [hw0]; exact (Below.refl _ _).alloc (Nat.le_refl _) _
  have x0 : Bx w0 w.heap.size (.int .i64 f) (.int .i64 k) (.slice A n c) := by rw [hw0]; exact Bx.made _ _ _ _ _
  have z0 := b0.size
  have Ha := Lib.hid (alive_c w0 (hx.below b0 hx.2))
  have W0 := Lib.hid hw0
  obtain ⟨c0, c1, c2, -, -, -, hlt⟩ := x0
  clear hw0 hx
  by_cases h1 : 1500 < n
  · have d1 : decide ((1500 : Int) < (n : Int)) = true := by simp; omega
    clear h
    go_enter Tryz.func3, Tryz.ntmps3
    go_wp2_with (rw [← W0.out])
    refine Ha.out.mono ?_
    rintro e w2 ⟨rfl, hb2⟩
    have bb := b0.trans (hb2.mono z0)
    go_wp2
    go_ret
    exact ⟨rfl, bb⟩
  · have h2 : 100 < m := h.resolve_left h1
    have d1 : decide ((1500 : Int) < (n : Int)) = false := by simp; omega
    have d2 : decide ((100 : Int) < (m : Int)) = true := by simp; omega
    clear h
    go_enter Tryz.func3, Tryz.ntmps3
    go_wp2_with (rw [← W0.out])
    refine Ha.out.mono ?_
    rintro e w2 ⟨rfl, hb2⟩
    have bb := b0.trans (hb2.mono z0)
    go_wp2
    go_ret
    exact ⟨rfl, bb⟩

set_option maxRecDepth 100000 in
set_option maxHeartbeats 4000000 in
theorem planMakes_walk (f k : Int) (A : Option Addr) (n c : Nat) (l : List UInt8) (A' : Option Addr) (m d : Nat) (cs : List Int) (w : World) (_ : I64 f) (_ : I64 k) (hr : Rb w w.heap.size A n c l) (hc : Rc 1 w w.heap.size A' m d (cs.map fun x => Value.int .i64 x)) (hx : Sq.Mx w) :
    Calls Tryz.prog 3 #[flv f k A n c, .slice A' m d] w fun e w' => e = .returned (.bool true) ∧ Below w.heap.size w w' := by
  have hmax : n ≤ 9223372036854775807 := by have h2 := hr.2.1; have h3 := hr.2.2.1; unfold maxLen at h3; omega
  have hmax2 : m ≤ 9223372036854775807 := by have h2 := hc.2.1; have h3 := hc.2.2.1; unfold maxLen at h3; omega
  by_cases hbig : 1500 < n ∨ 100 < m
  · exact planMakes_big f k A n c A' m d w hmax hmax2 hx hbig
  · have hn : n ≤ 1500 := by omega
    have hm : m ≤ 100 := by omega
    have d1 : decide ((1500 : Int) < (n : Int)) = false := by simp; omega
    have d2 : decide ((100 : Int) < (m : Int)) = false := by simp; omega
    obtain ⟨w0, hw0⟩ : ∃ w0, w0 = w.alloc (.cells #[.int .i64 f, .int .i64 k, .slice A n c] 24) := ⟨_, rfl⟩
    have b0 : Below w.heap.size w w0 := by rw [hw0]; exact (Below.refl _ _).alloc (Nat.le_refl _) _
    have x0 : Bx w0 w.heap.size (.int .i64 f) (.int .i64 k) (.slice A n c) := by rw [hw0]; exact Bx.made _ _ _ _ _
    have z0 := b0.size
    have hx0 := hx.below b0 hx.2
    obtain ⟨P, g, h, L, I, g2, h2, M, h3, few, small, lfew, ifew, sc, rsc, mk, rmk, al, ral⟩ := six_ex f k A n c l A' m d cs w0 ((hr.below b0).more z0) hn ((hc.below b0).more z0) hm hx0
    obtain ⟨o, ho⟩ : ∃ o, o = (isF f k && decide (n ≤ 100000)) := ⟨_, rfl⟩
    have W0 := Lib.hid hw0; have K0 := Lib.hid (held_mx hx0); have Few := Lib.hid few; have Small := Lib.hid small; have Sc := Lib.hid sc; have Rsc := Lib.hid rsc; have Mk := Lib.hid mk; have Rmk := Lib.hid rmk; have Al := Lib.hid al; have Ral := Lib.hid ral; have Ho := Lib.hid ho; have BB0 := Lib.hid b0; have X0 := Lib.hid x0
    have hlt := x0.lt
    obtain ⟨c0, c1, c2, -, -, -, -⟩ := x0
    clear hw0 hx hx0 hr hc few small sc rsc mk rmk al ral ho hbig b0
    go_enter Tryz.func3, Tryz.ntmps3
    go_wp2_with (rw [← W0.out])
    refine (Sc.out _ (Below.refl _ _)).mono ?_
    rintro e w1 ⟨A1, a1, rfl, r1, b1⟩
    have z1 := b1.size
    have K1 := Lib.hid ((held_pl r1).cons (K0.out.go b1)); have X1 := Lib.hid (X0.out.below b1 hlt); have B1 := Lib.hid b1
    have hlt1 : w.heap.size < w1.heap.size := by omega
    clear c0 c1 c2 r1 b1
    obtain ⟨c0, c1, c2, -, -, -, -⟩ := X1.out
    go_wp2_with fail
    refine (plain_c f k A n c _).mono ?_
    rintro e w2 ⟨rfl, b2⟩
    have z2 := b2.size
    have K2 := Lib.hid (K1.out.go b2); have X2 := Lib.hid (X1.out.below b2 hlt1); have B2 := Lib.hid (B1.out.trans (b2.mono z1))
    have hlt2 : w.heap.size < w2.heap.size := by omega
    clear c0 c1 c2 b2
    go_wp2_with fail
    refine (Rsc.out _ B2.out).mono ?_
    rintro e w3 ⟨A3, a3, rfl, r3, b3⟩
    have z3 := b3.size
    have K3 := Lib.hid ((held_pl r3).cons (K2.out.go b3)); have X3 := Lib.hid (X2.out.below b3 hlt2); have B3 := Lib.hid (B2.out.trans (b3.mono (by omega)))
    have hlt3 : w.heap.size < w3.heap.size := by omega
    clear r3 b3
    obtain ⟨c0, c1, c2, -, -, -, -⟩ := X3.out
    go_wp2_with fail
    refine (Mk.out _ B3.out).mono ?_
    rintro e w4 ⟨A4, a4, D4, d4, rfl, r4, s4, b4⟩
    have z4 := b4.size
    obtain ⟨w5, hw5⟩ : ∃ w5, w5 = w4.alloc (.cells #[.slice A4 L.length a4, .slice D4 I.length d4, .int .i64 g2] 36) := ⟨_, rfl⟩
    have b5 : Below w4.heap.size w4 w5 := by rw [hw5]; exact (Below.refl _ _).alloc (Nat.le_refl _) _
    have z5 := b5.size
    have P5 := Lib.hid (show Bx w5 w4.heap.size (.slice A4 L.length a4) (.slice D4 I.length d4) (.int .i64 g2) by rw [hw5]; exact Bx.made _ _ _ _ _)
    have b45 := b4.trans (b5.mono z4)
    have K5 := Lib.hid (((held_rc s4).cons ((held_rc r4).cons (K3.out.go b4))).go b5); have X5 := Lib.hid (X3.out.below b45 hlt3); have B5 := Lib.hid (B3.out.trans (b45.mono (by omega))); have W5 := Lib.hid hw5
    have hlt5 : w.heap.size < w5.heap.size := by omega
    have plt5 := P5.out.lt
    clear c0 c1 c2 r4 s4 b4 b5 b45 hw5
    obtain ⟨c0, c1, c2, -, -, -, -⟩ := X5.out
    go_wp2_with (rw [← W5.out])
    refine (plain_c f k A n c _).mono ?_
    rintro e w6 ⟨rfl, b6⟩
    have z6 := b6.size
    have K6 := Lib.hid (K5.out.go b6); have X6 := Lib.hid (X5.out.below b6 hlt5); have B6 := Lib.hid (B5.out.trans (b6.mono (by omega))); have P6 := Lib.hid (P5.out.below b6 plt5)
    have hlt6 : w.heap.size < w6.heap.size := by omega
    clear c0 c1 c2 b6
    go_wp2_with fail
    refine (Rmk.out _ B6.out).mono ?_
    rintro e w7 ⟨A7, a7, D7, d7, rfl, r7, s7, b7⟩
    have z7 := b7.size
    obtain ⟨w8, hw8⟩ : ∃ w8, w8 = w7.alloc (.cells #[.slice A7 L.length a7, .slice D7 I.length d7, .int .i64 g2] 39) := ⟨_, rfl⟩
    have b8 : Below w7.heap.size w7 w8 := by rw [hw8]; exact (Below.refl _ _).alloc (Nat.le_refl _) _
    have z8 := b8.size
    have Q8 := Lib.hid (show Bx w8 w7.heap.size (.slice A7 L.length a7) (.slice D7 I.length d7) (.int .i64 g2) by rw [hw8]; exact Bx.made _ _ _ _ _)
    have b78 := b7.trans (b8.mono z7)
    have K8 := Lib.hid (((held_rc s7).cons ((held_rc r7).cons (K6.out.go b7))).go b8); have X8 := Lib.hid (X6.out.below b78 hlt6); have B8 := Lib.hid (B6.out.trans (b78.mono (by omega))); have P8 := Lib.hid (P6.out.below b78 (by omega)); have W8 := Lib.hid hw8
    have hlt8 : w.heap.size < w8.heap.size := by omega
    have qlt8 := Q8.out.lt
    clear r7 s7 b7 b8 b78 hw8
    obtain ⟨c0, c1, c2, -, -, -, -⟩ := X8.out
    go_wp2_with (rw [← W8.out])
    refine (Al.out _ B8.out).mono ?_
    rintro e w9 ⟨A9, a9, rfl, r9, b9⟩
    have z9 := b9.size
    have K9 := Lib.hid ((held_rc r9).cons (K8.out.go b9)); have X9 := Lib.hid (X8.out.below b9 hlt8); have B9 := Lib.hid (B8.out.trans (b9.mono (by omega))); have P9 := Lib.hid (P8.out.below b9 (by omega)); have Q9 := Lib.hid (Q8.out.below b9 qlt8)
    have hlt9 : w.heap.size < w9.heap.size := by omega
    clear c0 c1 c2 r9 b9
    obtain ⟨c0, c1, c2, -, -, -, -⟩ := X9.out
    go_wp2_with fail
    refine (plain_c f k A n c _).mono ?_
    rintro e w10 ⟨rfl, b10⟩
    have z10 := b10.size
    have K10 := Lib.hid (K9.out.go b10); have X10 := Lib.hid (X9.out.below b10 hlt9); have B10 := Lib.hid (B9.out.trans (b10.mono (by omega))); have P10 := Lib.hid (P9.out.below b10 (by omega)); have Q10 := Lib.hid (Q9.out.below b10 (by omega))
    have hlt10 : w.heap.size < w10.heap.size := by omega
    clear c0 c1 c2 b10
    go_wp2_with fail
    refine (Ral.out _ B10.out).mono ?_
    rintro e w11 ⟨Ab, ab, rfl, rb, b11⟩
    have z11 := b11.size
    have K12 := Lib.hid (((held_rc rb).cons (K10.out.go b11)).go (show Below w11.heap.size w11 w11.drew from below_drewN (Below.refl _ _) 1))
    have B11 := Lib.hid (B10.out.trans (b11.mono (by omega)))
    have lF : w.heap.size < w11.heap.size := by omega
    have lP : w4.heap.size < w11.heap.size := by omega
    have lQ : w7.heap.size < w11.heap.size := by omega
    have xF := X10.out.below b11 hlt10
    have xP := P10.out.below b11 (by omega)
    have xQ := Q10.out.below b11 (by omega)
    have F0 := Lib.hid (show w11.drew.cell? ⟨w.heap.size, 0, none⟩ = _ from xF.c0); have F1 := Lib.hid (show w11.drew.cell? ⟨w.heap.size, 1, none⟩ = _ from xF.c1); have F2 := Lib.hid (show w11.drew.cell? ⟨w.heap.size, 2, none⟩ = _ from xF.c2)
    have P0 := Lib.hid (show w11.drew.cell? ⟨w4.heap.size, 0, none⟩ = _ from xP.c0); have P1 := Lib.hid (show w11.drew.cell? ⟨w4.heap.size, 1, none⟩ = _ from xP.c1); have P2 := Lib.hid (show w11.drew.cell? ⟨w4.heap.size, 2, none⟩ = _ from xP.c2)
    have Q0 := Lib.hid (show w11.drew.cell? ⟨w7.heap.size, 0, none⟩ = _ from xQ.c0); have Q1 := Lib.hid (show w11.drew.cell? ⟨w7.heap.size, 1, none⟩ = _ from xQ.c1); have Q2 := Lib.hid (show w11.drew.cell? ⟨w7.heap.size, 2, none⟩ = _ from xQ.c2)
    have B0 := Lib.hid (Below.refl w11.heap.size w11.drew)
    have HK := Lib.hid (fun (W : World) (b : Below w11.heap.size w11.drew W) => K12.out.go b)
    have BB12 := Lib.hid (BB0.out.trans ((below_drewN B11.out 1).mono z0))
    have lw : w.heap.size ≤ w11.heap.size := by omega
    clear rb b11 xF xP xQ
    go_upto_region 9 with fail
    refine wp_region_schedR (Below w11.heap.size) (Below.refl _) (fun _ _ _ => Below.trans) [(true, 0), (false, 1), (false, 2), (false, 4), (true, 3), (true, 5), (true, 6), (false, 7), (false, 8), (false, 9), (false, 10), (false, 11), (true, 12), (false, 13), (false, 14), (false, 15), (false, 16), (false, 17), (false, 18), (false, 19), (false, 20), (false, 21), (false, 22), (false, 23), (false, 24), (false, 25), (false, 27), (true, 26), (true, 28), (false, 29), (false, 30), (false, 31), (false, 32), (false, 33), (false, 34), (false, 35), (false, 36), (false, 37), (true, 38), (false, 39), (false, 40), (false, 41), (false, 42), (false, 43), (false, 44), (false, 45), (false, 46), (false, 47), (true, 48), (false, 49), (false, 50)] (by kernel_rfl) (by kernel_rfl) (by kernel_rfl) (by kernel_rfl) (fun _ _ d _ _ h => by cases d <;> exact h) ?_
    refine wpR_call (o := { dst := some 68, op := Go.Op.call { callee := Go.Callee.value (Go.Operand.func 7), args := #[], argTypes := #[] }, type := 4, pos := "law.go:43", after := #[], guard := none }) rfl (by rfl) (fun K hK => ?_)
    go_simp
    go_at_call 7
    with_reducible refine (alive_c w11.drew ((HK.out _ B0.out).it.2.2.2.2.2.2.2.2)).mono ?_
    rintro e x1 ⟨rfl, y1⟩
    have B1 := Lib.hid (B0.out.trans (y1.mono B0.out.size))
    refine hK.out _ _ (y1.mono B0.out.size) ?_
    clear hK K y1
    refine wpR_read (o := { dst := some 69, op := Go.Op.move (Go.Operand.tmp 68), type := 4, pos := "law.go:43", after := #[{ on := 0, ground := Go.Ground.data }, { on := 0, ground := Go.Ground.chain }], guard := none }) (v := .bool true) rfl (by rfl) ?_ ?_
    · intro w' _; go_simp
    try simp only [Act.put, List.setIfInBounds_toArray, List.set_cons_zero, List.set_cons_succ]
    refine wpR_read (o := { dst := some 70, op := Go.Op.load 24 (Go.Operand.tmp 2), type := 24, pos := "law.go:43", after := #[{ on := 1, ground := Go.Ground.guard }], guard := some (1, true) }) (v := flv f k A n c) rfl (by rfl) ?_ ?_
    · intro w' hw'; have hb := B1.out.trans hw'; have e0 := (hb.cell (p := ⟨w.heap.size, 0, none⟩) lF).trans F0.out; have e1 := (hb.cell (p := ⟨w.heap.size, 1, none⟩) lF).trans F1.out; have e2 := (hb.cell (p := ⟨w.heap.size, 2, none⟩) lF).trans F2.out; go_simp
    try simp only [Act.put, List.setIfInBounds_toArray, List.set_cons_zero, List.set_cons_succ]
    refine wpR_read (o := { dst := some 72, op := Go.Op.load 24 (Go.Operand.tmp 2), type := 24, pos := "law.go:43", after := #[{ on := 1, ground := Go.Ground.guard }], guard := some (1, true) }) (v := flv f k A n c) rfl (by rfl) ?_ ?_
    · intro w' hw'; have hb := B1.out.trans hw'; have e0 := (hb.cell (p := ⟨w.heap.size, 0, none⟩) lF).trans F0.out; have e1 := (hb.cell (p := ⟨w.heap.size, 1, none⟩) lF).trans F1.out; have e2 := (hb.cell (p := ⟨w.heap.size, 2, none⟩) lF).trans F2.out; go_simp
    try simp only [Act.put, List.setIfInBounds_toArray, List.set_cons_zero, List.set_cons_succ]
    refine wpR_call (o := { dst := some 71, op := Go.Op.call { callee := Go.Callee.value (Go.Operand.func 15), args := #[Go.Operand.tmp 70], argTypes := #[24] }, type := 4, pos := "law.go:43", after := #[{ on := 2, ground := Go.Ground.data }, { on := 1, ground := Go.Ground.chain }, { on := 1, ground := Go.Ground.guard }], guard := some (1, true) }) rfl (by rfl) (fun K hK => ?_)
    go_simp
    go_at_call 15
    with_reducible refine (may_c f k A n c o Ho.out hmax x1).mono ?_
    rintro e x2 ⟨rfl, y2⟩
    have B2 := Lib.hid (B1.out.trans (y2.mono B1.out.size))
    refine hK.out _ _ (y2.mono B1.out.size) ?_
    clear hK K y2
    try simp only [Act.put, List.setIfInBounds_toArray, List.set_cons_zero, List.set_cons_succ]
    refine wpR_call (o := { dst := some 73, op := Go.Op.call { callee := Go.Callee.value (Go.Operand.func 10), args := #[Go.Operand.tmp 72], argTypes := #[24] }, type := 32, pos := "law.go:43", after := #[{ on := 4, ground := Go.Ground.data }, { on := 3, ground := Go.Ground.chain }, { on := 1, ground := Go.Ground.guard }], guard := some (1, true) }) rfl (by rfl) (fun K hK => ?_)
    go_simp
    go_at_call 10
    with_reducible refine (plain_c f k A n c x2).mono ?_
    rintro e x3 ⟨rfl, y3⟩
    have B3 := Lib.hid (B2.out.trans (y3.mono B2.out.size))
    refine hK.out _ _ (y3.mono B2.out.size) ?_
    clear hK K y3
    try simp only [Act.put, List.setIfInBounds_toArray, List.set_cons_zero, List.set_cons_succ]
    refine wpR_call (o := { dst := some 74, op := Go.Op.call { callee := Go.Callee.value (Go.Operand.func 16), args := #[Go.Operand.tmp 73], argTypes := #[32] }, type := 4, pos := "law.go:43", after := #[{ on := 5, ground := Go.Ground.data }, { on := 5, ground := Go.Ground.chain }, { on := 1, ground := Go.Ground.guard }], guard := some (1, true) }) rfl (by rfl) (fun K hK => ?_)
    go_simp
    go_at_call 16
    with_reducible refine (rmay_c f k A n c o Ho.out x3).mono ?_
    rintro e x4 ⟨rfl, y4⟩
    have B4 := Lib.hid (B3.out.trans (y4.mono B3.out.size))
    refine hK.out _ _ (y4.mono B3.out.size) ?_
    clear hK K y4
    try simp only [Act.put, List.setIfInBounds_toArray, List.set_cons_zero, List.set_cons_succ]
    refine wpR_read (o := { dst := some 75, op := Go.Op.binOp Go.BinOp.eql 4 (Go.Operand.tmp 71) (Go.Operand.tmp 74) 4, type := 4, pos := "law.go:43", after := #[{ on := 3, ground := Go.Ground.data }, { on := 6, ground := Go.Ground.data }, { on := 1, ground := Go.Ground.guard }], guard := some (1, true) }) (v := .bool true) rfl (by rfl) ?_ ?_
    · intro w' _; go_simp
    try simp only [Act.put, List.setIfInBounds_toArray, List.set_cons_zero, List.set_cons_succ]
    refine wpR_read (o := { dst := some 76, op := Go.Op.pick (Go.Operand.tmp 69) (Go.Operand.tmp 75) (Go.Operand.const (Go.Value.bool false)), type := 4, pos := "law.go:43", after := #[{ on := 1, ground := Go.Ground.data }, { on := 7, ground := Go.Ground.data }], guard := none }) (v := .bool true) rfl (by rfl) ?_ ?_
    · intro w' _; go_simp
    try simp only [Act.put, List.setIfInBounds_toArray, List.set_cons_zero, List.set_cons_succ]
    refine wpR_read (o := { dst := some 77, op := Go.Op.move (Go.Operand.tmp 76), type := 4, pos := "law.go:43", after := #[{ on := 8, ground := Go.Ground.data }, { on := 6, ground := Go.Ground.chain }], guard := none }) (v := .bool true) rfl (by rfl) ?_ ?_
    · intro w' _; go_simp
    try simp only [Act.put, List.setIfInBounds_toArray, List.set_cons_zero, List.set_cons_succ]
    refine wpR_read (o := { dst := some 78, op := Go.Op.move (Go.Operand.tmp 5), type := 27, pos := "law.go:43", after := #[{ on := 9, ground := Go.Ground.guard }], guard := some (9, true) }) (v := .slice A1 P.length a1) rfl (by rfl) ?_ ?_
    · intro w' _; go_simp
    try simp only [Act.put, List.setIfInBounds_toArray, List.set_cons_zero, List.set_cons_succ]
    refine wpR_read (o := { dst := some 79, op := Go.Op.move (Go.Operand.tmp 8), type := 27, pos := "law.go:43", after := #[{ on := 9, ground := Go.Ground.guard }], guard := some (9, true) }) (v := .slice A3 P.length a3) rfl (by rfl) ?_ ?_
    · intro w' _; go_simp
    try simp only [Act.put, List.setIfInBounds_toArray, List.set_cons_zero, List.set_cons_succ]
    refine wpR_call (o := { dst := some 80, op := Go.Op.call { callee := Go.Callee.value (Go.Operand.func 17), args := #[Go.Operand.tmp 78, Go.Operand.tmp 79], argTypes := #[27, 27] }, type := 4, pos := "law.go:43", after := #[{ on := 10, ground := Go.Ground.data }, { on := 11, ground := Go.Ground.data }, { on := 9, ground := Go.Ground.chain }, { on := 9, ground := Go.Ground.guard }], guard := some (9, true) }) rfl (by rfl) (fun K hK => ?_)
    go_simp
    go_at_call 17
    with_reducible refine (pcs2_c A1 A3 P.length a1 a3 P x4 (HK.out _ B4.out).it.2.2.2.2.2.2.2.1 (HK.out _ B4.out).it.2.2.2.2.2.2.1 Few.out Small.out).mono ?_
    rintro e x5 ⟨rfl, y5⟩
    have B5 := Lib.hid (B4.out.trans (y5.mono B4.out.size))
    refine hK.out _ _ (y5.mono B4.out.size) ?_
    clear hK K y5
    try simp only [Act.put, List.setIfInBounds_toArray, List.set_cons_zero, List.set_cons_succ]
    refine wpR_read (o := { dst := some 81, op := Go.Op.pick (Go.Operand.tmp 77) (Go.Operand.tmp 80) (Go.Operand.const (Go.Value.bool false)), type := 4, pos := "law.go:43", after := #[{ on := 9, ground := Go.Ground.data }, { on := 12, ground := Go.Ground.data }], guard := none }) (v := .bool true) rfl (by rfl) ?_ ?_
    · intro w' _; go_simp
    try simp only [Act.put, List.setIfInBounds_toArray, List.set_cons_zero, List.set_cons_succ]
    refine wpR_read (o := { dst := some 82, op := Go.Op.move (Go.Operand.tmp 81), type := 4, pos := "law.go:43", after := #[{ on := 13, ground := Go.Ground.data }, { on := 12, ground := Go.Ground.chain }], guard := none }) (v := .bool true) rfl (by rfl) ?_ ?_
    · intro w' _; go_simp
    try simp only [Act.put, List.setIfInBounds_toArray, List.set_cons_zero, List.set_cons_succ]
    refine wpR_read (o := { dst := some 83, op := Go.Op.move (Go.Operand.tmp 6), type := 3, pos := "law.go:43", after := #[{ on := 14, ground := Go.Ground.guard }], guard := some (14, true) }) (v := .int .i64 g) rfl (by rfl) ?_ ?_
    · intro w' _; go_simp
    try simp only [Act.put, List.setIfInBounds_toArray, List.set_cons_zero, List.set_cons_succ]
    refine wpR_read (o := { dst := some 84, op := Go.Op.move (Go.Operand.tmp 9), type := 3, pos := "law.go:43", after := #[{ on := 14, ground := Go.Ground.guard }], guard := some (14, true) }) (v := .int .i64 g) rfl (by rfl) ?_ ?_
    · intro w' _; go_simp
    try simp only [Act.put, List.setIfInBounds_toArray, List.set_cons_zero, List.set_cons_succ]
    refine wpR_read (o := { dst := some 85, op := Go.Op.binOp Go.BinOp.eql 3 (Go.Operand.tmp 83) (Go.Operand.tmp 84) 3, type := 4, pos := "law.go:43", after := #[{ on := 15, ground := Go.Ground.data }, { on := 16, ground := Go.Ground.data }, { on := 14, ground := Go.Ground.guard }], guard := some (14, true) }) (v := .bool true) rfl (by rfl) ?_ ?_
    · intro w' _; go_simp
    try simp only [Act.put, List.setIfInBounds_toArray, List.set_cons_zero, List.set_cons_succ]
    refine wpR_read (o := { dst := some 86, op := Go.Op.pick (Go.Operand.tmp 82) (Go.Operand.tmp 85) (Go.Operand.const (Go.Value.bool false)), type := 4, pos := "law.go:43", after := #[{ on := 14, ground := Go.Ground.data }, { on := 17, ground := Go.Ground.data }], guard := none }) (v := .bool true) rfl (by rfl) ?_ ?_
    · intro w' _; go_simp
    try simp only [Act.put, List.setIfInBounds_toArray, List.set_cons_zero, List.set_cons_succ]
    refine wpR_read (o := { dst := some 87, op := Go.Op.move (Go.Operand.tmp 86), type := 4, pos := "law.go:43", after := #[{ on := 18, ground := Go.Ground.data }, { on := 14, ground := Go.Ground.chain }], guard := none }) (v := .bool true) rfl (by rfl) ?_ ?_
    · intro w' _; go_simp
    try simp only [Act.put, List.setIfInBounds_toArray, List.set_cons_zero, List.set_cons_succ]
    refine wpR_read (o := { dst := some 88, op := Go.Op.move (Go.Operand.tmp 7), type := 28, pos := "law.go:43", after := #[{ on := 19, ground := Go.Ground.guard }], guard := some (19, true) }) (v := .int .i64 h) rfl (by rfl) ?_ ?_
    · intro w' _; go_simp
    try simp only [Act.put, List.setIfInBounds_toArray, List.set_cons_zero, List.set_cons_succ]
    refine wpR_read (o := { dst := some 89, op := Go.Op.move (Go.Operand.tmp 10), type := 28, pos := "law.go:43", after := #[{ on := 19, ground := Go.Ground.guard }], guard := some (19, true) }) (v := .int .i64 h) rfl (by rfl) ?_ ?_
    · intro w' _; go_simp
    try simp only [Act.put, List.setIfInBounds_toArray, List.set_cons_zero, List.set_cons_succ]
    refine wpR_read (o := { dst := some 90, op := Go.Op.binOp Go.BinOp.eql 28 (Go.Operand.tmp 88) (Go.Operand.tmp 89) 28, type := 4, pos := "law.go:43", after := #[{ on := 20, ground := Go.Ground.data }, { on := 21, ground := Go.Ground.data }, { on := 19, ground := Go.Ground.guard }], guard := some (19, true) }) (v := .bool true) rfl (by rfl) ?_ ?_
    · intro w' _; go_simp
    try simp only [Act.put, List.setIfInBounds_toArray, List.set_cons_zero, List.set_cons_succ]
    refine wpR_read (o := { dst := some 91, op := Go.Op.pick (Go.Operand.tmp 87) (Go.Operand.tmp 90) (Go.Operand.const (Go.Value.bool false)), type := 4, pos := "law.go:43", after := #[{ on := 19, ground := Go.Ground.data }, { on := 22, ground := Go.Ground.data }], guard := none }) (v := .bool true) rfl (by rfl) ?_ ?_
    · intro w' _; go_simp
    try simp only [Act.put, List.setIfInBounds_toArray, List.set_cons_zero, List.set_cons_succ]
    refine wpR_read (o := { dst := some 92, op := Go.Op.move (Go.Operand.tmp 91), type := 4, pos := "law.go:43", after := #[{ on := 23, ground := Go.Ground.data }, { on := 19, ground := Go.Ground.chain }], guard := none }) (v := .bool true) rfl (by rfl) ?_ ?_
    · intro w' _; go_simp
    try simp only [Act.put, List.setIfInBounds_toArray, List.set_cons_zero, List.set_cons_succ]
    refine wpR_read (o := { dst := some 93, op := Go.Op.load 36 (Go.Operand.tmp 11), type := 36, pos := "law.go:43", after := #[{ on := 24, ground := Go.Ground.guard }], guard := some (24, true) }) (v := .agg #[.slice A4 L.length a4, .slice D4 I.length d4, .int .i64 g2]) rfl (by rfl) ?_ ?_
    · intro w' hw'; have hb := B5.out.trans hw'; have e0 := (hb.cell (p := ⟨w4.heap.size, 0, none⟩) lP).trans P0.out; have e1 := (hb.cell (p := ⟨w4.heap.size, 1, none⟩) lP).trans P1.out; have e2 := (hb.cell (p := ⟨w4.heap.size, 2, none⟩) lP).trans P2.out; go_simp
    try simp only [Act.put, List.setIfInBounds_toArray, List.set_cons_zero, List.set_cons_succ]
    refine wpR_read (o := { dst := some 95, op := Go.Op.load 39 (Go.Operand.tmp 13), type := 39, pos := "law.go:43", after := #[{ on := 24, ground := Go.Ground.guard }], guard := some (24, true) }) (v := .agg #[.slice A7 L.length a7, .slice D7 I.length d7, .int .i64 g2]) rfl (by rfl) ?_ ?_
    · intro w' hw'; have hb := B5.out.trans hw'; have e0 := (hb.cell (p := ⟨w7.heap.size, 0, none⟩) lQ).trans Q0.out; have e1 := (hb.cell (p := ⟨w7.heap.size, 1, none⟩) lQ).trans Q1.out; have e2 := (hb.cell (p := ⟨w7.heap.size, 2, none⟩) lQ).trans Q2.out; go_simp
    try simp only [Act.put, List.setIfInBounds_toArray, List.set_cons_zero, List.set_cons_succ]
    refine wpR_call (o := { dst := some 94, op := Go.Op.call { callee := Go.Callee.value (Go.Operand.func 19), args := #[Go.Operand.tmp 93], argTypes := #[36] }, type := 39, pos := "law.go:43", after := #[{ on := 25, ground := Go.Ground.data }, { on := 24, ground := Go.Ground.chain }, { on := 24, ground := Go.Ground.guard }], guard := some (24, true) }) rfl (by rfl) (fun K hK => ?_)
    go_simp
    go_at_call 19
    with_reducible refine (of_c A4 D4 L.length a4 I.length d4 g2 x5).mono ?_
    rintro e x6 ⟨rfl, y6⟩
    have B6 := Lib.hid (B5.out.trans (y6.mono B5.out.size))
    refine hK.out _ _ (y6.mono B5.out.size) ?_
    clear hK K y6
    try simp only [Act.put, List.setIfInBounds_toArray, List.set_cons_zero, List.set_cons_succ]
    refine wpR_call (o := { dst := some 96, op := Go.Op.call { callee := Go.Callee.value (Go.Operand.func 18), args := #[Go.Operand.tmp 94, Go.Operand.tmp 95], argTypes := #[39, 39] }, type := 4, pos := "law.go:43", after := #[{ on := 26, ground := Go.Ground.data }, { on := 27, ground := Go.Ground.data }, { on := 26, ground := Go.Ground.chain }, { on := 24, ground := Go.Ground.guard }], guard := some (24, true) }) rfl (by rfl) (fun K hK => ?_)
    go_simp
    go_at_call 18
    with_reducible refine (rsame_c A4 D4 A7 D7 L.length a4 I.length d4 a7 d7 g2 L I x6 (HK.out _ B6.out).it.2.2.2.2.2.1 (HK.out _ B6.out).it.2.2.2.2.1 (HK.out _ B6.out).it.2.2.2.1 (HK.out _ B6.out).it.2.2.1 (by omega)).mono ?_
    rintro e x7 ⟨rfl, y7⟩
    have B7 := Lib.hid (B6.out.trans (y7.mono B6.out.size))
    refine hK.out _ _ (y7.mono B6.out.size) ?_
    clear hK K y7
    try simp only [Act.put, List.setIfInBounds_toArray, List.set_cons_zero, List.set_cons_succ]
    refine wpR_read (o := { dst := some 97, op := Go.Op.pick (Go.Operand.tmp 92) (Go.Operand.tmp 96) (Go.Operand.const (Go.Value.bool false)), type := 4, pos := "law.go:43", after := #[{ on := 24, ground := Go.Ground.data }, { on := 28, ground := Go.Ground.data }], guard := none }) (v := .bool true) rfl (by rfl) ?_ ?_
    · intro w' _; go_simp
    try simp only [Act.put, List.setIfInBounds_toArray, List.set_cons_zero, List.set_cons_succ]
    refine wpR_read (o := { dst := some 98, op := Go.Op.move (Go.Operand.tmp 97), type := 4, pos := "law.go:43", after := #[{ on := 29, ground := Go.Ground.data }, { on := 28, ground := Go.Ground.chain }], guard := none }) (v := .bool true) rfl (by rfl) ?_ ?_
    · intro w' _; go_simp
    try simp only [Act.put, List.setIfInBounds_toArray, List.set_cons_zero, List.set_cons_succ]
    refine wpR_read (o := { dst := some 99, op := Go.Op.move (Go.Operand.tmp 12), type := 28, pos := "law.go:43", after := #[{ on := 30, ground := Go.Ground.guard }], guard := some (30, true) }) (v := .int .i64 h2) rfl (by rfl) ?_ ?_
    · intro w' _; go_simp
    try simp only [Act.put, List.setIfInBounds_toArray, List.set_cons_zero, List.set_cons_succ]
    refine wpR_read (o := { dst := some 100, op := Go.Op.move (Go.Operand.tmp 14), type := 28, pos := "law.go:43", after := #[{ on := 30, ground := Go.Ground.guard }], guard := some (30, true) }) (v := .int .i64 h2) rfl (by rfl) ?_ ?_
    · intro w' _; go_simp
    try simp only [Act.put, List.setIfInBounds_toArray, List.set_cons_zero, List.set_cons_succ]
    refine wpR_read (o := { dst := some 101, op := Go.Op.binOp Go.BinOp.eql 28 (Go.Operand.tmp 99) (Go.Operand.tmp 100) 28, type := 4, pos := "law.go:43", after := #[{ on := 31, ground := Go.Ground.data }, { on := 32, ground := Go.Ground.data }, { on := 30, ground := Go.Ground.guard }], guard := some (30, true) }) (v := .bool true) rfl (by rfl) ?_ ?_
    · intro w' _; go_simp
    try simp only [Act.put, List.setIfInBounds_toArray, List.set_cons_zero, List.set_cons_succ]
    refine wpR_read (o := { dst := some 102, op := Go.Op.pick (Go.Operand.tmp 98) (Go.Operand.tmp 101) (Go.Operand.const (Go.Value.bool false)), type := 4, pos := "law.go:43", after := #[{ on := 30, ground := Go.Ground.data }, { on := 33, ground := Go.Ground.data }], guard := none }) (v := .bool true) rfl (by rfl) ?_ ?_
    · intro w' _; go_simp
    try simp only [Act.put, List.setIfInBounds_toArray, List.set_cons_zero, List.set_cons_succ]
    refine wpR_read (o := { dst := some 103, op := Go.Op.move (Go.Operand.tmp 102), type := 4, pos := "law.go:43", after := #[{ on := 34, ground := Go.Ground.data }, { on := 30, ground := Go.Ground.chain }], guard := none }) (v := .bool true) rfl (by rfl) ?_ ?_
    · intro w' _; go_simp
    try simp only [Act.put, List.setIfInBounds_toArray, List.set_cons_zero, List.set_cons_succ]
    refine wpR_read (o := { dst := some 104, op := Go.Op.move (Go.Operand.tmp 15), type := 25, pos := "law.go:43", after := #[{ on := 35, ground := Go.Ground.guard }], guard := some (35, true) }) (v := .slice A9 M.length a9) rfl (by rfl) ?_ ?_
    · intro w' _; go_simp
    try simp only [Act.put, List.setIfInBounds_toArray, List.set_cons_zero, List.set_cons_succ]
    refine wpR_read (o := { dst := some 105, op := Go.Op.move (Go.Operand.tmp 17), type := 25, pos := "law.go:43", after := #[{ on := 35, ground := Go.Ground.guard }], guard := some (35, true) }) (v := .slice Ab M.length ab) rfl (by rfl) ?_ ?_
    · intro w' _; go_simp
    try simp only [Act.put, List.setIfInBounds_toArray, List.set_cons_zero, List.set_cons_succ]
    refine wpR_call (o := { dst := some 106, op := Go.Op.call { callee := Go.Callee.value (Go.Operand.func 20), args := #[Go.Operand.tmp 104, Go.Operand.tmp 105], argTypes := #[25, 25] }, type := 4, pos := "law.go:43", after := #[{ on := 36, ground := Go.Ground.data }, { on := 37, ground := Go.Ground.data }, { on := 35, ground := Go.Ground.chain }, { on := 35, ground := Go.Ground.guard }], guard := some (35, true) }) rfl (by rfl) (fun K hK => ?_)
    go_simp
    go_at_call 20
    with_reducible refine (ints_c A9 Ab M.length a9 M.length ab M M x7 (HK.out _ B7.out).it.2.1 (HK.out _ B7.out).it.1 true (by simp)).mono ?_
    rintro e x8 ⟨rfl, y8⟩
    have B8 := Lib.hid (B7.out.trans (y8.mono B7.out.size))
    refine hK.out _ _ (y8.mono B7.out.size) ?_
    clear hK K y8
    try simp only [Act.put, List.setIfInBounds_toArray, List.set_cons_zero, List.set_cons_succ]
    refine wpR_read (o := { dst := some 107, op := Go.Op.pick (Go.Operand.tmp 103) (Go.Operand.tmp 106) (Go.Operand.const (Go.Value.bool false)), type := 4, pos := "law.go:43", after := #[{ on := 35, ground := Go.Ground.data }, { on := 38, ground := Go.Ground.data }], guard := none }) (v := .bool true) rfl (by rfl) ?_ ?_
    · intro w' _; go_simp
    try simp only [Act.put, List.setIfInBounds_toArray, List.set_cons_zero, List.set_cons_succ]
    refine wpR_read (o := { dst := some 108, op := Go.Op.move (Go.Operand.tmp 107), type := 4, pos := "law.go:43", after := #[{ on := 39, ground := Go.Ground.data }, { on := 38, ground := Go.Ground.chain }], guard := none }) (v := .bool true) rfl (by rfl) ?_ ?_
    · intro w' _; go_simp
    try simp only [Act.put, List.setIfInBounds_toArray, List.set_cons_zero, List.set_cons_succ]
    refine wpR_read (o := { dst := some 109, op := Go.Op.move (Go.Operand.tmp 16), type := 28, pos := "law.go:43", after := #[{ on := 40, ground := Go.Ground.guard }], guard := some (40, true) }) (v := .int .i64 h3) rfl (by rfl) ?_ ?_
    · intro w' _; go_simp
    try simp only [Act.put, List.setIfInBounds_toArray, List.set_cons_zero, List.set_cons_succ]
    refine wpR_read (o := { dst := some 110, op := Go.Op.move (Go.Operand.tmp 18), type := 28, pos := "law.go:43", after := #[{ on := 40, ground := Go.Ground.guard }], guard := some (40, true) }) (v := .int .i64 h3) rfl (by rfl) ?_ ?_
    · intro w' _; go_simp
    try simp only [Act.put, List.setIfInBounds_toArray, List.set_cons_zero, List.set_cons_succ]
    refine wpR_read (o := { dst := some 111, op := Go.Op.binOp Go.BinOp.eql 28 (Go.Operand.tmp 109) (Go.Operand.tmp 110) 28, type := 4, pos := "law.go:43", after := #[{ on := 41, ground := Go.Ground.data }, { on := 42, ground := Go.Ground.data }, { on := 40, ground := Go.Ground.guard }], guard := some (40, true) }) (v := .bool true) rfl (by rfl) ?_ ?_
    · intro w' _; go_simp
    try simp only [Act.put, List.setIfInBounds_toArray, List.set_cons_zero, List.set_cons_succ]
    refine wpR_read (o := { dst := some 112, op := Go.Op.pick (Go.Operand.tmp 108) (Go.Operand.tmp 111) (Go.Operand.const (Go.Value.bool false)), type := 4, pos := "law.go:43", after := #[{ on := 40, ground := Go.Ground.data }, { on := 43, ground := Go.Ground.data }], guard := none }) (v := .bool true) rfl (by rfl) ?_ ?_
    · intro w' _; go_simp
    try simp only [Act.put, List.setIfInBounds_toArray, List.set_cons_zero, List.set_cons_succ]
    refine wpR_read (o := { dst := some 113, op := Go.Op.move (Go.Operand.tmp 112), type := 4, pos := "law.go:43", after := #[{ on := 44, ground := Go.Ground.data }, { on := 40, ground := Go.Ground.chain }], guard := none }) (v := .bool true) rfl (by rfl) ?_ ?_
    · intro w' _; go_simp
    try simp only [Act.put, List.setIfInBounds_toArray, List.set_cons_zero, List.set_cons_succ]
    refine wpR_read (o := { dst := some 114, op := Go.Op.load 36 (Go.Operand.tmp 11), type := 36, pos := "law.go:43", after := #[{ on := 45, ground := Go.Ground.guard }], guard := some (45, true) }) (v := .agg #[.slice A4 L.length a4, .slice D4 I.length d4, .int .i64 g2]) rfl (by rfl) ?_ ?_
    · intro w' hw'; have hb := B8.out.trans hw'; have e0 := (hb.cell (p := ⟨w4.heap.size, 0, none⟩) lP).trans P0.out; have e1 := (hb.cell (p := ⟨w4.heap.size, 1, none⟩) lP).trans P1.out; have e2 := (hb.cell (p := ⟨w4.heap.size, 2, none⟩) lP).trans P2.out; go_simp
    try simp only [Act.put, List.setIfInBounds_toArray, List.set_cons_zero, List.set_cons_succ]
    refine wpR_read (o := { dst := some 115, op := Go.Op.load 36 (Go.Operand.tmp 11), type := 36, pos := "law.go:43", after := #[{ on := 45, ground := Go.Ground.guard }], guard := some (45, true) }) (v := .agg #[.slice A4 L.length a4, .slice D4 I.length d4, .int .i64 g2]) rfl (by rfl) ?_ ?_
    · intro w' hw'; have hb := B8.out.trans hw'; have e0 := (hb.cell (p := ⟨w4.heap.size, 0, none⟩) lP).trans P0.out; have e1 := (hb.cell (p := ⟨w4.heap.size, 1, none⟩) lP).trans P1.out; have e2 := (hb.cell (p := ⟨w4.heap.size, 2, none⟩) lP).trans P2.out; go_simp
    try simp only [Act.put, List.setIfInBounds_toArray, List.set_cons_zero, List.set_cons_succ]
    refine wpR_call (o := { dst := some 116, op := Go.Op.call { callee := Go.Callee.value (Go.Operand.func 21), args := #[Go.Operand.tmp 114, Go.Operand.tmp 115], argTypes := #[36, 36] }, type := 4, pos := "law.go:43", after := #[{ on := 46, ground := Go.Ground.data }, { on := 47, ground := Go.Ground.data }, { on := 45, ground := Go.Ground.chain }, { on := 45, ground := Go.Ground.guard }], guard := some (45, true) }) rfl (by rfl) (fun K hK => ?_)
    go_simp
    go_at_call 21
    with_reducible refine (same_c A4 D4 L.length a4 I.length d4 g2 L I x8 (HK.out _ B8.out).it.2.2.2.2.2.1 (HK.out _ B8.out).it.2.2.2.2.1 (by omega) (by omega)).mono ?_
    rintro e x9 ⟨rfl, y9⟩
    have B9 := Lib.hid (B8.out.trans (y9.mono B8.out.size))
    refine hK.out _ _ (y9.mono B8.out.size) ?_
    clear hK K y9
    try simp only [Act.put, List.setIfInBounds_toArray, List.set_cons_zero, List.set_cons_succ]
    refine wpR_read (o := { dst := some 117, op := Go.Op.pick (Go.Operand.tmp 113) (Go.Operand.tmp 116) (Go.Operand.const (Go.Value.bool false)), type := 4, pos := "law.go:43", after := #[{ on := 45, ground := Go.Ground.data }, { on := 48, ground := Go.Ground.data }], guard := none }) (v := .bool true) rfl (by rfl) ?_ ?_
    · intro w' _; go_simp
    try simp only [Act.put, List.setIfInBounds_toArray, List.set_cons_zero, List.set_cons_succ]
    refine wpR_read (o := { dst := some 4, op := Go.Op.assign (Go.Operand.tmp 117), type := 4, pos := "law.go:43", after := #[{ on := 49, ground := Go.Ground.data }, { on := 48, ground := Go.Ground.chain }, { on := 0, ground := Go.Ground.phase }, { on := 1, ground := Go.Ground.phase }, { on := 2, ground := Go.Ground.phase }, { on := 3, ground := Go.Ground.phase }, { on := 4, ground := Go.Ground.phase }, { on := 5, ground := Go.Ground.phase }, { on := 6, ground := Go.Ground.phase }, { on := 7, ground := Go.Ground.phase }, { on := 8, ground := Go.Ground.phase }, { on := 9, ground := Go.Ground.phase }, { on := 10, ground := Go.Ground.phase }, { on := 11, ground := Go.Ground.phase }, { on := 12, ground := Go.Ground.phase }, { on := 13, ground := Go.Ground.phase }, { on := 14, ground := Go.Ground.phase }, { on := 15, ground := Go.Ground.phase }, { on := 16, ground := Go.Ground.phase }, { on := 17, ground := Go.Ground.phase }, { on := 18, ground := Go.Ground.phase }, { on := 19, ground := Go.Ground.phase }, { on := 20, ground := Go.Ground.phase }, { on := 21, ground := Go.Ground.phase }, { on := 22, ground := Go.Ground.phase }, { on := 23, ground := Go.Ground.phase }, { on := 24, ground := Go.Ground.phase }, { on := 25, ground := Go.Ground.phase }, { on := 26, ground := Go.Ground.phase }, { on := 27, ground := Go.Ground.phase }, { on := 28, ground := Go.Ground.phase }, { on := 29, ground := Go.Ground.phase }, { on := 30, ground := Go.Ground.phase }, { on := 31, ground := Go.Ground.phase }, { on := 32, ground := Go.Ground.phase }, { on := 33, ground := Go.Ground.phase }, { on := 34, ground := Go.Ground.phase }, { on := 35, ground := Go.Ground.phase }, { on := 36, ground := Go.Ground.phase }, { on := 37, ground := Go.Ground.phase }, { on := 38, ground := Go.Ground.phase }, { on := 39, ground := Go.Ground.phase }, { on := 40, ground := Go.Ground.phase }, { on := 41, ground := Go.Ground.phase }, { on := 42, ground := Go.Ground.phase }, { on := 43, ground := Go.Ground.phase }, { on := 44, ground := Go.Ground.phase }, { on := 45, ground := Go.Ground.phase }, { on := 46, ground := Go.Ground.phase }, { on := 47, ground := Go.Ground.phase }, { on := 48, ground := Go.Ground.phase }, { on := 49, ground := Go.Ground.phase }], guard := none }) (v := .bool true) rfl (by rfl) ?_ ?_
    · intro w' _; go_simp
    try simp only [Act.put, List.setIfInBounds_toArray, List.set_cons_zero, List.set_cons_succ]
    refine wpR_done ?_
    have hbb := BB12.out.trans (B9.out.mono lw)
    go_wp2
    go_ret
    exact ⟨rfl, hbb⟩
end Go.Proofs.YtknmhdkomjjneaaGreatDoor
