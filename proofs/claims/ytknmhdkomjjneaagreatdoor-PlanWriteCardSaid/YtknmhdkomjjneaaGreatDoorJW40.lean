/-
  Joined: N9 Nb.
-/
import Derived.Test.YtknmhdkomjjneaaGreatDoorJW38
import Derived.Test.YtknmhdkomjjneaaGreatDoorJW39
import Derived.Test.YtknmhdkomjjneaaGreatDoorJW35
import Derived.Test.YtknmhdkomjjneaaGreatDoorJW20
import Derived.Deep.RegionHeld3
import Derived.Test.YtknmhdkomjjneaaGreatDoorJW4
import Derived.Test.YtknmhdkomjjneaaGreatDoorJW6
import Derived.Test.YtknmhdkomjjneaaGreatDoorJW16
import Derived.Lib.SlBytesConst
import Derived.Lib.Hide
import Derived.BigQuiet
/-
  plan.Make: the plan of a file with cuts.
-/
namespace Go.Proofs.YtknmhdkomjjneaaGreatDoor.Pl
open Go.RowKit

theorem F3.insides {W0 : World} {f k : Int} {s r i : Value} (h : F3 W0 f k s r i) (w : World) (A : Option Addr) (n c : Nat) (l : List UInt8) (E : Option Addr) (m d : Nat) (C : List Nat) (hr : Rb w w.heap.size A n c l) (hn : n ≤ 90000) (hc : Rc 1 w w.heap.size E m d (ivs (ic C))) (hC : Cu n C) :
    Calls Tryz.prog 39 #[.agg #[s, r, i], .slice A n c, .slice E m d] w (RetB w (insF f l C)) := by
  rcases h with ⟨_, rfl, h⟩ | ⟨rfl, h1, h2, g, hg, hlt, rfl, rfl, rfl⟩
  · rcases h with ⟨rfl, -, -, rfl⟩ | ⟨rfl, -, -, rfl⟩ | ⟨rfl, -, -, rfl⟩ | ⟨rfl, -, -, rfl⟩ | ⟨rfl, -, -, rfl⟩
    · exact insides_out A n c l E m d C s r _ (by omega) w hr hn hc hC
    · exact insides_csv A n c l E m d C s r _ rfl w hr hn hc hC
    · exact insides_out A n c l E m d C s r _ (by omega) w hr hn hc hC
    · exact insides_out A n c l E m d C s r _ (by omega) w hr hn hc hC
    · exact insides_out A n c l E m d C s r _ (by omega) w hr hn hc hC
  · exact insides_out A n c l E m d C _ _ _ (by omega) w hr hn hc hC

def Ex (g B : Nat) (w w' : World) : Prop := ∀ p : Addr, p.block ≠ g → p.block < B → w'.cell? p = w.cell? p
theorem Ex.refl {g B : Nat} (w : World) : Ex g B w w := fun _ _ _ => rfl
theorem Ex.trans {g B : Nat} (a b c : World) (h : Ex g B a b) (h2 : Ex g B b c) : Ex g B a c := fun p h1 h3 => (h2 p h1 h3).trans (h p h1 h3)
theorem Ex.of {g B B' : Nat} {w w' : World} (h : Below B' w w') (hB : B ≤ B') : Ex g B w w' := fun _ _ h2 => h.cell (Nat.lt_of_lt_of_le h2 hB)
theorem ex_put3 (w : World) (g B : Nat) (v0 v1 v2 : Value) : Ex g B w (put3 w g v0 v1 v2) := fun p h1 _ => by
  obtain ⟨b, j, pa⟩ := p
  have hne : ∀ k, (⟨g, k, none⟩ : Addr) ≠ ⟨b, j, pa⟩ := fun k q => h1 (by injection q with q; exact q.symm)
  unfold put3
  rw [World.cell?_setCell_other _ _ _ _ (hne 2), World.cell?_setCell_other _ _ _ _ (hne 1), World.cell?_setCell_other _ _ _ _ (hne 0)]
theorem asc_len {hi : Nat} : ∀ {l : List Nat} {lo : Nat}, Asc lo hi l → lo + l.length ≤ hi ∨ l = []
  | [], _, _ => .inr rfl
  | x :: l, lo, h => by
    left
    have h1 := h.1
    have h2 := h.2.1
    rcases asc_len h.2.2 with h3 | h3
    · simp only [List.length_cons]; omega
    · subst h3; simp only [List.length_cons, List.length_nil]; omega
theorem cu_len {n : Nat} {C : List Nat} (h : Cu n C) : C.length ≤ n + 1 := by
  rcases asc_len (cu_get h) with h1 | h1
  · omega
  · rw [h1]; simp
def RetPl (w : World) (C : List Nat) (I : List Bool) (g : Nat) (e : Ending) (w' : World) : Prop :=
  ∃ A c D d, e = .returned (.tuple #[.agg #[.slice A C.length c, .slice D I.length d, .int .i64 (g : Int)], .int .i64 0]) ∧ RcS 1 w' (Fr w.heap.size w') A C.length c (ivs (ic C)) ∧ RcS 1 w' (Fr w.heap.size w') D I.length d (lvb I) ∧ Below w.heap.size w w'

set_option maxRecDepth 100000 in
set_option maxHeartbeats 4000000 in
theorem make_ok (f k : Int) (A : Option Addr) (n c : Nat) (l : List UInt8) (E : Option Addr) (m d : Nat) (C : List Nat) (w : World) (hr : Rb w w.heap.size A n c l) (hn : n ≤ 90000) (hc : Rc 1 w w.heap.size E m d (ivs (ic C))) (hC : Cu n C) (hF : isF f k = true) (hx : Sq.Mx w) :
    Calls Tryz.prog 11 #[flv f k A n c, .slice E m d] w (RetPl w C (insF f l C) (scF f k l).2.1) := by
  have hCl : C.length = m := by have := hc.len1; rw [ivs_length, ic_len] at this; exact this
  have hm1 := (cu_pos hC).1
  have hm2 := cu_len hC
  obtain ⟨w0, hw0⟩ : ∃ w0, w0 = w.alloc (.cells #[.int .i64 f, .int .i64 k, .slice A n c] 24) := ⟨_, rfl⟩
  have z0 : w0.heap.size = w.heap.size + 1 := by rw [hw0]; simp
  have b0 : Below w.heap.size w w0 := by rw [hw0]; exact (Below.refl _ _).alloc (Nat.le_refl _) _
  have x0 : Bx w0 w.heap.size (.int .i64 f) (.int .i64 k) (.slice A n c) := by rw [hw0]; exact Bx.made _ _ _ _ _
  obtain ⟨w1, hw1⟩ : ∃ w1, w1 = w0.alloc (.cells #[.slice none 0 0, .slice none 0 0, .int .i64 0] 36) := ⟨_, rfl⟩
  have z1 : w1.heap.size = w.heap.size + 2 := by rw [hw1]; simp [z0]
  have b01 : Below w0.heap.size w0 w1 := by rw [hw1]; exact (Below.refl _ _).alloc (Nat.le_refl _) _
  have x1 := x0.below b01 (by omega)
  have y1 : Bx w1 w0.heap.size (.slice none 0 0) (.slice none 0 0) (.int .i64 0) := by rw [hw1]; exact Bx.made _ _ _ _ _
  rw [z0] at y1
  have b1 := b0.trans (b01.mono (by omega))
  have Hc := Lib.hid (functionsOf_c f k A n c true (by rw [hF]; simp; omega) (by omega) w1)
  have W0 := Lib.hid hw0; have W1 := Lib.hid hw1; have Hcu := Lib.hid hc; have X1 := Lib.hid x1; have Z0 := Lib.hid z0; have Hr := Lib.hid hr; have Hx := Lib.hid hx; have HC := Lib.hid hC; have HCl := Lib.hid hCl
  obtain ⟨c0, c1, c2, -, -, -, hlt⟩ := x1
  clear hw0 hw1 b0 x0 b01 hc z0 hr hx hF hCl hC
  go_enter Tryz.func11, Tryz.ntmps11
  go_wp2_with (rw [← W0.out, ← W1.out])
  refine Hc.out.mono ?_
  rintro e w2 ⟨s, r, i, rfl, hf3, hfv, b2⟩
  have hf3 := hf3 rfl
  have z2 := b2.size
  have bb := b1.trans (b2.mono (by omega))
  have x2 := X1.out.below b2 hlt
  have y2 := y1.below b2 (by omega)
  clear c0 c1 c2
  obtain ⟨w3, hw3⟩ : ∃ w3, w3 = w2.alloc (.cells #[s, r, i] 68) := ⟨_, rfl⟩
  have b23 : Below w2.heap.size w2 w3 := by rw [hw3]; exact (Below.refl _ _).alloc (Nat.le_refl _) _
  have z3 := b23.size
  have x3 := x2.below b23 x2.lt
  have y3 := y2.below b23 y2.lt
  have v3 : Bx w3 w2.heap.size s r i := by rw [hw3]; exact Bx.made _ _ _ _ _
  have b3 := bb.trans (b23.mono (by omega))
  have Hac := Lib.hid (areCuts_c E m d n (ic C) w3 ((Hcu.out.below b3).more (by omega)) true (by simp [cu_isC HC.out]))
  have hf3' := hf3.below b23 (Nat.le_refl _)
  obtain ⟨a, ca, rfl, hent, hsc⟩ := hf3'.scan
  have W3 := Lib.hid hw3; have Y3 := Lib.hid y3; have X3 := Lib.hid x3; have V3 := Lib.hid v3; have F3' := Lib.hid hf3'; have Hsc := Lib.hid hsc; have B3 := Lib.hid b3
  obtain ⟨c0, c1, c2, -, -, -, hlt2⟩ := x2
  have hlt4 : w.heap.size < w2.heap.size := by omega
  clear b23 hw3 y3 bb y1 b1 b2 y2 x3 v3 hf3 hf3' hsc b3
  rcases hfv with ⟨a', b, c', ca', cb, cc, h1, rfl, rfl⟩ | ⟨h1, _⟩
  · clear h1
    go_wp2_with fail
    rw [← W3.out]
    refine Hac.out.mono ?_
    rintro e w4 ⟨rfl, b4⟩
    have z4 := b4.size
    have y4 := Y3.out.below b4 Y3.out.lt
    have x4 := X3.out.below b4 X3.out.lt
    have v4 := V3.out.below b4 V3.out.lt
    have bb4 := B3.out.trans (b4.mono (by omega))
    have Hs2 := Lib.hid (Hsc.out w4 A n c l b4 ((Hr.out.below bb4).more (by omega)) hn (Hx.out.below bb4 Hx.out.2))
    have F4 := Lib.hid (F3'.out.below b4 (Nat.le_refl _))
    have X4 := Lib.hid x4; have Y4 := Lib.hid y4; have V4 := Lib.hid v4; have BB4 := Lib.hid bb4
    clear c0 c1 c2
    obtain ⟨c0, c1, c2, -, -, -, hlt6⟩ := x4
    obtain ⟨v0, v1, v2, -, -, -, hlt7⟩ := v4
    clear y4 bb4 b4
    go_wp2_with fail
    rw [hent, Oper.upon_enter]
    refine Hs2.out.mono ?_
    rintro e w5 ⟨A3, c3, rfl, -, b5⟩
    have z5 := b5.size
    have x5 := X4.out.below b5 X4.out.lt
    have y5 := Y4.out.below b5 Y4.out.lt
    have v5 := V4.out.below b5 V4.out.lt
    have bb5 := BB4.out.trans (b5.mono (by omega))
    have F5 := Lib.hid (F4.out.below b5 (Nat.le_refl _))
    have Y5 := Lib.hid y5; have BB5 := Lib.hid bb5
    clear c0 c1 c2 v0 v1 v2
    obtain ⟨c0, c1, c2, -, -, -, hlt8⟩ := x5
    obtain ⟨v0, v1, v2, -, -, -, hlt9⟩ := v5
    obtain ⟨gd, hgd⟩ : ∃ gd, gd = (scF f k l).2.1 := ⟨_, rfl⟩
    rw [← hgd]
    have Hgd := Lib.hid hgd
    have HB := Lib.hid (Nat.le_refl w5.heap.size)
    have Hcl := fun W (h : Below w5.heap.size w5 W) => clone_c E m d C W (((Hcu.out.below BB5.out).below (B := w.heap.size) (h.mono (by omega))).more (by have := h.size; omega)) (by have := HCl.out; omega) (by have := HCl.out; omega)
    have Hin := fun W (h : Below w5.heap.size w5 W) => F5.out.insides W A n c l E m d C (((Hr.out.below BB5.out).below (B := w.heap.size) (h.mono (by omega))).more (by have := h.size; omega)) hn (((Hcu.out.below BB5.out).below (B := w.heap.size) (h.mono (by omega))).more (by have := h.size; omega)) HC.out
    have Hcl := Lib.hid Hcl; have Hin := Lib.hid Hin
    clear hgd y5 bb5 b5
    go_wp2_with fail
    refine wp_region_schedR (Ex (w.heap.size + 1) w5.heap.size) Ex.refl Ex.trans [(false, 0), (false, 2), (false, 3), (false, 4), (false, 5), (false, 7), (true, 1), (true, 6), (false, 8), (true, 9), (false, 10)] (by kernel_rfl) (by kernel_rfl) (by kernel_rfl) (by kernel_rfl) (fun _ _ d _ _ h => by cases d <;> exact h) ?_
    refine wpR_read (o := { dst := some 36, op := Go.Op.move (Go.Operand.tmp 1), type := 25, pos := "plan.go:54", after := #[], guard := none }) (v := .slice E m d) rfl (by rfl) ?_ ?_
    · intro w' _; go_simp
    try simp only [Act.put, List.setIfInBounds_toArray, List.set_cons_zero, List.set_cons_succ]
    refine wpR_read (o := { dst := some 38, op := Go.Op.load 68 (Go.Operand.tmp 6), type := 68, pos := "plan.go:54", after := #[], guard := none }) (v := .agg #[fv a ca, fv b cb, fv c' cc]) rfl (by rfl) ?_ ?_
    · intro w' hw'; have q0 := (hw' ⟨w2.heap.size, 0, none⟩ (by show w2.heap.size ≠ _; omega) (by show w2.heap.size < _; omega)).trans v0; have q1 := (hw' ⟨w2.heap.size, 1, none⟩ (by show w2.heap.size ≠ _; omega) (by show w2.heap.size < _; omega)).trans v1; have q2 := (hw' ⟨w2.heap.size, 2, none⟩ (by show w2.heap.size ≠ _; omega) (by show w2.heap.size < _; omega)).trans v2; go_simp
    try simp only [Act.put, List.setIfInBounds_toArray, List.set_cons_zero, List.set_cons_succ]
    refine wpR_read (o := { dst := some 39, op := Go.Op.fieldAddr 24 (Go.Operand.tmp 2) 2, type := 0, pos := "plan.go:54", after := #[], guard := none }) (v := .pointer (some ⟨w.heap.size, 2, none⟩)) rfl (by rfl) ?_ ?_
    · intro w' _; go_simp
    try simp only [Act.put, List.setIfInBounds_toArray, List.set_cons_zero, List.set_cons_succ]
    refine wpR_read (o := { dst := some 40, op := Go.Op.load 22 (Go.Operand.tmp 39), type := 22, pos := "plan.go:54", after := #[{ on := 3, ground := Go.Ground.data }], guard := none }) (v := .slice A n c) rfl (by rfl) ?_ ?_
    · intro w' hw'; have q2 := (hw' ⟨w.heap.size, 2, none⟩ (by show w.heap.size ≠ _; omega) (by show w.heap.size < _; omega)).trans c2; go_simp
    try simp only [Act.put, List.setIfInBounds_toArray, List.set_cons_zero, List.set_cons_succ]
    refine wpR_read (o := { dst := some 41, op := Go.Op.move (Go.Operand.tmp 1), type := 25, pos := "plan.go:54", after := #[], guard := none }) (v := .slice E m d) rfl (by rfl) ?_ ?_
    · intro w' _; go_simp
    try simp only [Act.put, List.setIfInBounds_toArray, List.set_cons_zero, List.set_cons_succ]
    refine wpR_read (o := { dst := some 43, op := Go.Op.move (Go.Operand.tmp 9), type := 3, pos := "plan.go:54", after := #[], guard := none }) (v := .int .i64 (gd : Int)) rfl (by rfl) ?_ ?_
    · intro w' _; go_simp
    try simp only [Act.put, List.setIfInBounds_toArray, List.set_cons_zero, List.set_cons_succ]
    refine wpR_call (o := { dst := some 37, op := Go.Op.call { callee := Go.Callee.value (Go.Operand.func 38), args := #[Go.Operand.tmp 36], argTypes := #[25] }, type := 25, pos := "plan.go:54", after := #[{ on := 0, ground := Go.Ground.data }], guard := none }) rfl (by rfl) (fun K hK => ?_)
    go_simp
    go_at_call 38
    with_reducible refine (Hcl.out w5.drew (show Below w5.heap.size w5 w5.drew from below_drewN (Below.refl _ _) 1)).mono ?_
    rintro e w6 ⟨A6, c6, rfl, h6, b6⟩
    have b6' : Below w5.heap.size w5 w6 := ⟨b6.os, b6.tape, b6.output, b6.size, b6.block⟩
    have z6 := b6'.size
    have H6 := Lib.hid h6; have B6 := Lib.hid b6'
    refine hK.out _ _ (Ex.of b6 (by show _ ≤ w5.heap.size; omega)) ?_
    clear hK K h6 b6 b6'
    try simp only [Act.put, List.setIfInBounds_toArray, List.set_cons_zero, List.set_cons_succ]
    refine wpR_call (o := { dst := some 42, op := Go.Op.call { callee := Go.Callee.value (Go.Operand.func 39), args := #[Go.Operand.tmp 38, Go.Operand.tmp 40, Go.Operand.tmp 41], argTypes := #[68, 22, 25] }, type := 34, pos := "plan.go:54", after := #[{ on := 2, ground := Go.Ground.data }, { on := 4, ground := Go.Ground.data }, { on := 5, ground := Go.Ground.data }, { on := 1, ground := Go.Ground.chain }], guard := none }) rfl (by rfl) (fun K hK => ?_)
    go_simp
    go_at_call 39
    with_reducible refine (Hin.out _ B6.out).mono ?_
    rintro e w7 ⟨A7, c7, rfl, h7, b7⟩
    have z7 := b7.size
    have H7 := Lib.hid h7; have B7 := Lib.hid b7
    refine hK.out _ _ (Ex.of b7 (by omega)) ?_
    clear hK K h7 b7
    try simp only [Act.put, List.setIfInBounds_toArray, List.set_cons_zero, List.set_cons_succ]
    refine wpR_read (o := { dst := some 44, op := Go.Op.build 36 #[(0, Go.Operand.tmp 37), (1, Go.Operand.tmp 42), (2, Go.Operand.tmp 43)], type := 36, pos := "plan.go:54", after := #[{ on := 1, ground := Go.Ground.data }, { on := 6, ground := Go.Ground.data }, { on := 7, ground := Go.Ground.data }], guard := none }) (v := .agg #[.slice A6 m c6, .slice A7 (insF f l C).length c7, .int .i64 (gd : Int)]) rfl (by rfl) ?_ ?_
    · intro w' _; go_simp
    try simp only [Act.put, List.setIfInBounds_toArray, List.set_cons_zero, List.set_cons_succ]
    refine wpR_call (o := { dst := none, op := Go.Op.store 36 (Go.Operand.tmp 4) (Go.Operand.tmp 44), type := 0, pos := "plan.go:54", after := #[{ on := 8, ground := Go.Ground.data }, { on := 6, ground := Go.Ground.chain }, { on := 0, ground := Go.Ground.phase }, { on := 1, ground := Go.Ground.phase }, { on := 2, ground := Go.Ground.phase }, { on := 3, ground := Go.Ground.phase }, { on := 4, ground := Go.Ground.phase }, { on := 5, ground := Go.Ground.phase }, { on := 6, ground := Go.Ground.phase }, { on := 7, ground := Go.Ground.phase }, { on := 8, ground := Go.Ground.phase }], guard := none }) rfl (by rfl) (fun K hK => ?_)
    have y7 := (Y5.out.below B6.out (by omega)).below B7.out (by omega)
    obtain ⟨w8, hw8⟩ : ∃ w8, w8 = put3 w7 (w.heap.size + 1) (.slice A6 m c6) (.slice A7 (insF f l C).length c7) (.int .i64 (gd : Int)) := ⟨_, rfl⟩
    have x8 := put3_box y7 (.slice A6 m c6) (.slice A7 (insF f l C).length c7) (.int .i64 (gd : Int))
    have q8 := put3_below w7 (w.heap.size + 1) (.slice A6 m c6) (.slice A7 (insF f l C).length c7) (.int .i64 (gd : Int))
    rw [← hw8] at x8 q8
    have X8 := Lib.hid x8; have Q8 := Lib.hid q8; have W8 := Lib.hid hw8
    obtain ⟨o0, o1, o2, o3, o4, o5, o6⟩ := y7
    clear x8 q8 hw8
    go_simp
    change K _ (put3 w7 (w.heap.size + 1) _ _ _)
    rw [← W8.out]
    refine hK.out _ _ (by rw [W8.out]; exact ex_put3 _ _ _ _ _ _) ?_
    clear hK K o0 o1 o2 o3 o4 o5 o6
    try simp only [Act.put, List.setIfInBounds_toArray, List.set_cons_zero, List.set_cons_succ]
    refine wpR_read (o := { dst := some 5, op := Go.Op.assign (Go.Operand.const (Go.Value.int Go.IntKind.i64 0)), type := 28, pos := "plan.go:54", after := #[{ on := 9, ground := Go.Ground.chain }, { on := 0, ground := Go.Ground.phase }, { on := 1, ground := Go.Ground.phase }, { on := 2, ground := Go.Ground.phase }, { on := 3, ground := Go.Ground.phase }, { on := 4, ground := Go.Ground.phase }, { on := 5, ground := Go.Ground.phase }, { on := 6, ground := Go.Ground.phase }, { on := 7, ground := Go.Ground.phase }, { on := 8, ground := Go.Ground.phase }, { on := 9, ground := Go.Ground.phase }], guard := none }) (v := .int .i64 0) rfl (by rfl) ?_ ?_
    · intro w' _; go_simp
    try simp only [Act.put, List.setIfInBounds_toArray, List.set_cons_zero, List.set_cons_succ]
    refine wpR_done ?_
    have h6 := H6.out.keep B7.out
    have z78 := Q8.out.size
    have z7' : w6.heap.size ≤ w7.heap.size := z7
    have h68 := h6.rcS.keep (show Stays w7 w8 (Fr w5.drew.heap.size w7) (Fr w.heap.size w8) from ⟨fun b hb => ⟨by have h : w5.heap.size ≤ b := hb.1; omega, by have := hb.2; omega⟩, fun p hp => by
      have h : w5.heap.size ≤ p.block := hp.1
      rw [W8.out]
      exact ex_put3 _ _ (p.block + 1) _ _ _ p (by omega) (by omega)⟩)
    have h78 := H7.out.keep (show Stays w7 w8 (Fr w6.heap.size w7) (Fr w.heap.size w8) from ⟨fun b hb => ⟨by have h : w6.heap.size ≤ b := hb.1; omega, by have := hb.2; omega⟩, fun p hp => by
      have h : w6.heap.size ≤ p.block := hp.1
      rw [W8.out]
      exact ex_put3 _ _ (p.block + 1) _ _ _ p (by omega) (by omega)⟩)
    have bb8 := ((BB5.out.trans (B6.out.mono (by omega))).trans (B7.out.mono (by omega))).trans (Q8.out.mono (by omega))
    have x8 := X8.out
    obtain ⟨y0, y1, y2, -, -, -, -⟩ := x8
    have hCm := HCl.out
    go_wp2
    refine bodyPost_ret (v := .tuple #[.agg #[.slice A6 m c6, .slice A7 (insF f l C).length c7, .int .i64 (gd : Int)], .int .i64 0]) ?_ rfl ⟨A6, c6, A7, c7, by rw [Hgd.out, hCm], by rw [hCm]; exact h68, h78, bb8⟩
    simp [results, Tryz.results11, go_sem, y0, y1, y2]
  · cases h1
end Go.Proofs.YtknmhdkomjjneaaGreatDoor.Pl

/-
  plan: the live question; the document's May; a file as the document's.
-/
namespace Go.Proofs.YtknmhdkomjjneaaGreatDoor.Pl
open Go.RowKit
set_option maxRecDepth 100000 in
theorem is_c (f k : Int) (o : Bool) (ho : o = isF f k) (w : World) : Calls Tryz.prog 44 #[.int .i64 f, .int .i64 k] w fun e w' => e = .returned (.bool o) ∧ w = w' := by
  unfold isF isU at ho
  by_cases h4 : f = 4
  · subst h4
    rw [if_pos rfl] at ho
    obtain ⟨p, hp⟩ : ∃ p, p = decide (1 ≤ k) := ⟨_, rfl⟩
    obtain ⟨q, hq⟩ : ∃ q, q = decide (k ≤ 1000) := ⟨_, rfl⟩
    rw [← hp, ← hq] at ho
    have d1 := hp.symm
    have d2 := hq.symm
    have Ho := Lib.hid ho
    clear ho hp hq
    go_enter Tryz.func44, Tryz.ntmps44
    cases p <;> cases q
    all_goals
      go_wp2
      go_ret
      exact ⟨by rw [Ho.out]; rfl, rfl⟩
  · rw [if_neg h4] at ho
    have d4 : (f == 4) = false := beq_eq_false_iff_ne.2 h4
    rw [show decide (f ≠ 4) = true by simpa using h4, Bool.and_true] at ho
    obtain ⟨p, hp⟩ : ∃ p, p = decide (0 ≤ f) := ⟨_, rfl⟩
    obtain ⟨q, hq⟩ : ∃ q, q = decide (f ≤ 5) := ⟨_, rfl⟩
    obtain ⟨r, hr⟩ : ∃ r, r = (k == 0) := ⟨_, rfl⟩
    rw [← hp, ← hq, ← hr] at ho
    have d1 := hp.symm
    have d2 := hq.symm
    have d3 := hr.symm
    have Ho := Lib.hid ho
    clear ho hp hq hr h4
    go_enter Tryz.func44, Tryz.ntmps44
    cases p <;> cases q <;> cases r
    all_goals
      go_wp2
      go_ret
      exact ⟨by rw [Ho.out]; rfl, rfl⟩
theorem sz_alive : sz 10 4 = [0, 4, 8, 10] := by decide
theorem cu_alive : Cu 5 [0, 4, 5] := ⟨[4, 5], rfl, ⟨by omega, by omega, by omega, by omega, trivial⟩, fun h => (by cases h), fun x h => (by simp at h; exact h.symm)⟩
theorem ins_alive : insF 1 [97, 44, 34, 98, 10] [0, 4, 5] = [false, true, true] := by decide
theorem good_alive : (scF 1 0 [97, 44, 34, 98, 10]).2.1 = 0 := by decide
set_option maxRecDepth 100000 in
set_option maxHeartbeats 2000000 in
theorem alive_c (w : World) (hx : Sq.Mx w) : Calls Tryz.prog 7 #[] w fun e w' => e = .returned (.bool true) ∧ Below w.heap.size w w' := by
  have hs := sizes_c 10 4 (by omega) (by omega) (by omega) w
  rw [sz_alive] at hs
  have hmk : ∀ W A n c E m d, Rb W W.heap.size A n c [97, 44, 34, 98, 10] → n ≤ 1000 → Rc 1 W W.heap.size E m d (ivs (ic [0, 4, 5])) → Sq.Mx W → Calls Tryz.prog 11 #[flv 1 0 A n c, .slice E m d] W fun e w' => ∃ A c D d, e = .returned (.tuple #[.agg #[.slice A 3 c, .slice D 3 d, .int .i64 0], .int .i64 0]) ∧ RcS 1 w' (Fr W.heap.size w') D 3 d (lvb [false, true, true]) ∧ Below W.heap.size W w' := fun W A n c E m d hr hn hc hx => by
    obtain rfl := hr.len
    have := make_ok 1 0 A 5 c _ E m d [0, 4, 5] W hr (by omega) hc cu_alive (by decide) hx
    refine this.mono fun e w' ⟨A1, c1, D1, d1, h1, h2, h3, h4⟩ => ?_
    rw [ins_alive, good_alive] at h1
    rw [ins_alive] at h3
    exact ⟨A1, c1, D1, d1, h1, h3, h4⟩
  have Hs := Lib.hid hs; have Hmk := Lib.hid hmk; have Hx := Lib.hid hx
  clear hs hmk hx
  go_enter Tryz.func7, Tryz.ntmps7
  go_wp2_with fail
  refine Hs.out.mono ?_
  rintro e w1 ⟨A1, c1, rfl, h1, b1⟩
  have z1 := b1.size
  obtain ⟨b, off, x, rfl, hb, hcx, hx2⟩ := h1.rc.int (k := 2) (by simp)
  obtain rfl : x = 8 := by simpa [ic] using hx2.symm
  clear hx2 h1
  obtain ⟨w2, hw2⟩ : ∃ w2, w2 = w1.alloc (.cells #[.int .u8 97, .int .u8 44, .int .u8 34, .int .u8 98, .int .u8 10] 5 (5, 6)) := ⟨_, rfl⟩
  have z2 : w2.heap.size = w1.heap.size + 1 := by rw [hw2]; simp
  have b12 : Below w1.heap.size w1 w2 := by rw [hw2]; exact (Below.refl _ _).alloc (Nat.le_refl _) _
  have hrb : Rb w2 w2.heap.size (some ⟨w1.heap.size, 0, none⟩) 5 5 [97, 44, 34, 98, 10] := by rw [z2, hw2]; exact Rb.lit w1 _ _ _ [97, 44, 34, 98, 10] 5 rfl rfl (by omega)
  obtain ⟨w3, hw3⟩ : ∃ w3, w3 = w2.alloc (.cells #[.int .i64 0, .int .i64 4, .int .i64 5] 3) := ⟨_, rfl⟩
  have z3 : w3.heap.size = w1.heap.size + 2 := by rw [hw3]; simp [z2]
  have b23 : Below w2.heap.size w2 w3 := by rw [hw3]; exact (Below.refl _ _).alloc (Nat.le_refl _) _
  have hrc : Rc 1 w3 w3.heap.size (some ⟨w1.heap.size + 1, 0, none⟩) 3 3 (ivs (ic [0, 4, 5])) := by
    have h := Rc.lit (z := 1) w2 3 #[.int .i64 0, .int .i64 4, .int .i64 5] 3 rfl (by simp [maxLen])
    rw [← hw3, z2] at h
    have := h.more (show w1.heap.size + 1 + 1 ≤ w3.heap.size by omega)
    simpa [ivs, ic] using this
  have b13 : Below w1.heap.size w1 w3 := b12.trans (b23.mono (by omega))
  have b3 := b1.trans (b13.mono z1)
  have Hm := Lib.hid (Hmk.out w3 _ 5 5 _ 3 3 ((hrb.below b23).more (by omega)) (by omega) hrc (Hx.out.below b3 Hx.out.2))
  have hcv2 := Lib.run_convert_bytes_const (P := Tryz.prog) w1 22 5 #[.int .u8 97, .int .u8 44, .int .u8 34, .int .u8 98, .int .u8 10] 5 5 Tryz.underlying22 Tryz.underlying5
  have W2 := Lib.hid hw2; have W3 := Lib.hid hw3
  clear hw2 hw3 hrb hrc b12 b23
  go_wp2_with fail
  rw [← W2.out, ← W3.out]
  refine Hm.out.mono ?_
  rintro e w4 ⟨A4, c4, D4, d4, rfl, h4, b4⟩
  obtain ⟨b5, off5, v, rfl, hb5, hc5, hv5⟩ := (h4.keep (stays_weak fr_lt)).rc.at_ (k := 1) (by omega)
  have z4 := b4.size
  have hlt : b < w3.heap.size := by omega
  obtain rfl : v = .bool true := by simpa [lvb] using hv5.symm
  have hcx4 := (b4.cell (p := ⟨b, off + 2, none⟩) hlt).trans (((show Below w1.heap.size w1 w3 from b13)).cell (p := ⟨b, off + 2, none⟩) hb |>.trans hcx)
  have bb := b3.trans (b4.mono (by omega))
  clear hv5 h4 hcx
  have hlt4 : b < w4.heap.size := by omega
  have hlt5 : b5 < w4.heap.size := hb5
  go_wp2
  go_ret
  exact ⟨rfl, bb.alloc (by omega) _⟩
end Go.Proofs.YtknmhdkomjjneaaGreatDoor.Pl
