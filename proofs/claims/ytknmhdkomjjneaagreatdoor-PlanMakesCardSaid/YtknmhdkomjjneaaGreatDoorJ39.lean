/-
  Joined: N9 Na Nb Ne Nf Ng Nh Ni Oa.
-/
import Derived.Test.YtknmhdkomjjneaaGreatDoorJ16
import Derived.Test.YtknmhdkomjjneaaGreatDoorJ18
import Derived.Test.YtknmhdkomjjneaaGreatDoorJ38
import Derived.Test.YtknmhdkomjjneaaGreatDoorJ12
import Derived.Deep.RegionHeld3
import Derived.Test.YtknmhdkomjjneaaGreatDoorJ9
import Derived.Lib.SlBytesConst
import Derived.Test.YtknmhdkomjjneaaGreatDoorJ13
import Derived.Test.YtknmhdkomjjneaaGreatDoorJ23
import Derived.Test.YtknmhdkomjjneaaGreatDoorJ40
import Derived.Test.YtknmhdkomjjneaaGreatDoorJ31
import Derived.Test.YtknmhdkomjjneaaGreatDoorJ37
import Derived.Test.YtknmhdkomjjneaaGreatDoorJ33
import Derived.RegionTactic
import Derived.BigQuiet
import Derived.Deep.QuietTactic
/-
  plan.Make: the plan of a file with cuts.
-/
namespace Go.Proofs.YtknmhdkomjjneaaGreatDoor.Pl
open Go.RowKit

/-- What insides does, whatever the format. -/
theorem F3.insides {W0 : World} {f k : Int} {s r i : Value} (h : F3 W0 f k s r i) (w : World) (A : Option Addr) (n c : Nat) (l : List UInt8) (E : Option Addr) (m d : Nat) (C : List Nat) (hr : Rb w w.heap.size A n c l) (hn : n ≤ 90000) (hc : Rc 1 w w.heap.size E m d (ivs (ic C))) (hC : Cu n C) :
    Calls Tryz.prog 39 #[.agg #[s, r, i], .slice A n c, .slice E m d] w (RetB w (insF f l C)) := by
  rcases h with ⟨_, rfl, h⟩ | ⟨rfl, h1, h2, g, hg, hlt, rfl, rfl, rfl⟩
  · rcases h with ⟨rfl, -, -, rfl⟩ | ⟨rfl, -, -, rfl⟩ | ⟨rfl, -, -, rfl⟩ | ⟨rfl, -, -, rfl⟩ | ⟨rfl, -, -, rfl⟩
    · exact insides_out A n c l E m d C s r _ (by omega) w hr hn hc hC
    · exact insides_csv A n c l E m d C s r _ rfl w hr hn hc hC
    · exact insides_out A n c l E m d C s r _ (by omega) w hr hn hc hC
    · exact insides_out A n c l E m d C s r _ (by omega) w hr hn hc hC
    · exact insides_out A n c l E m d C s r _ (by omega) w hr hn hc hC
  · exact insides_out A n c l E m d C _ _ _ (by omega) w hr hn hc hC

def pv0 : Value := .agg #[.slice none 0 0, .slice none 0 0, .int .i64 0]
set_option maxRecDepth 100000 in
set_option maxHeartbeats 2000000 in
theorem make_err (f k : Int) (A : Option Addr) (n c : Nat) (E : Option Addr) (m d : Nat) (L : List Int) (w : World) (hn : n ≤ 9223372036854775807) (hc : Rc 1 w w.heap.size E m d (ivs L)) (h : (isF f k && decide (n ≤ 100000)) = false ∨ ¬ IsC n L) :
    Calls Tryz.prog 11 #[flv f k A n c, .slice E m d] w fun e w' => e = .returned (.tuple #[pv0, .int .i64 1]) ∧ Below w.heap.size w w' := by
  obtain ⟨w0, hw0⟩ : ∃ w0, w0 = w.alloc (.cells #[.int .i64 f, .int .i64 k, .slice A n c] 24) := ⟨_, rfl⟩
  have z0 : w0.heap.size = w.heap.size + 1 := by rw [hw0]; simp
  have b0 : Below w.heap.size w w0 := by rw [hw0]; exact (Below.refl _ _).alloc (Nat.le_refl _) _
  have x0 : Bx w0 w.heap.size (.int .i64 f) (.int .i64 k) (.slice A n c) := by rw [hw0]; exact Bx.made _ _ _ _ _
  obtain ⟨w1, hw1⟩ : ∃ w1, w1 = w0.alloc (.cells #[.slice none 0 0, .slice none 0 0, .int .i64 0] 36) := ⟨_, rfl⟩
  have z1 : w1.heap.size = w.heap.size + 2 := by rw [hw1]; simp [z0]
  have b01 : Below w0.heap.size w0 w1 := by rw [hw1]; exact (Below.refl _ _).alloc (Nat.le_refl _) _
  have x1 := x0.below b01 (by omega)
  have y1 : Bx w1 w0.heap.size (.slice none 0 0) (.slice none 0 0) (.int .i64 0) := by rw [hw1]; exact Bx.made _ _ _ _ _
  rw [z0] at y1
  have b1 := b0.trans (b01.mono (by omega))
  obtain ⟨o, ho⟩ : ∃ o, o = (isF f k && decide (n ≤ 100000)) := ⟨_, rfl⟩
  have Hc := Lib.hid (functionsOf_c f k A n c o ho hn w1)
  rw [← ho] at h
  have W0 := Lib.hid hw0; have W1 := Lib.hid hw1; have Hcu := Lib.hid hc; have H := Lib.hid h; have X1 := Lib.hid x1; have Z0 := Lib.hid z0
  obtain ⟨c0, c1, c2, -, -, -, hlt⟩ := x1
  clear hw0 hw1 ho b0 x0 b01 h hc z0
  go_enter Tryz.func11, Tryz.ntmps11
  go_wp2_with (rw [← W0.out, ← W1.out])
  refine Hc.out.mono ?_
  rintro e w2 ⟨s, r, i, rfl, -, hfv, b2⟩
  have z2 := b2.size
  have bb := b1.trans (b2.mono (by omega))
  have x2 := X1.out.below b2 hlt
  have y2 := y1.below b2 (by omega)
  clear c0 c1 c2
  have fin : ∀ (K : Act) (W : World), Bx W (w.heap.size + 1) (.slice none 0 0) (.slice none 0 0) (.int .i64 0) → Below w.heap.size w W → K.tmps[4]? = some (.pointer (some ⟨w.heap.size + 1, 0, none⟩)) → K.tmps[5]? = some (.int .i64 1) → K.defers = [] →
      bodyPost Tryz.prog Tryz.f11 (fun e w' => e = .returned (.tuple #[pv0, .int .i64 1]) ∧ Below w.heap.size w w') Exit.ret K W := by
    intro K W hx hb h4 h5 hd
    obtain ⟨y0, y1, y2, -, -, -, -⟩ := hx
    refine bodyPost_ret (v := .tuple #[pv0, .int .i64 1]) ?_ hd ⟨rfl, hb⟩
    simp [results, Tryz.results11, go_sem, y0, y1, y2, h4, h5, pv0]
  have Fin := Lib.hid fin
  clear fin
  cases o with
  | false =>
    obtain ⟨w3, hw3⟩ : ∃ w3, w3 = put3 w2 (w.heap.size + 1) (.slice none 0 0) (.slice none 0 0) (.int .i64 0) := ⟨_, rfl⟩
    obtain ⟨w4, hw4⟩ : ∃ w4, w4 = w3.alloc (.cells #[s, r, i] 68) := ⟨_, rfl⟩
    have x3 := put3_box y2 (.slice none 0 0) (.slice none 0 0) (.int .i64 0)
    rw [← hw3] at x3
    have b23 := put3_below w2 (w.heap.size + 1) (.slice none 0 0) (.slice none 0 0) (.int .i64 0)
    rw [← hw3] at b23
    have b34 : Below w3.heap.size w3 w4 := by rw [hw4]; exact (Below.refl _ _).alloc (Nat.le_refl _) _
    have x4 := x3.below b34 x3.lt
    have b4 := (bb.trans (b23.mono (by omega))).trans (b34.mono (by have := b23.size; omega))
    have X4 := Lib.hid x4; have B4 := Lib.hid b4; have W3 := Lib.hid hw3; have W4 := Lib.hid hw4
    obtain ⟨c0, c1, c2, f0, f1, f2, hlt2⟩ := y2
    have hlt3 : w.heap.size + 1 < w2.heap.size := by omega
    clear b23 b34 x3 hw3 hw4 x4 b4 x2 bb y1 b1 b2
    rcases hfv with ⟨a, b, c', ca, cb, cc, rfl, rfl, rfl⟩ | ⟨rfl, rfl, rfl⟩
    all_goals
      go_wp2
      have h1 := X4.out
      have h2 := B4.out
      rw [W4.out, W3.out] at h1 h2
      exact Fin.out _ _ h1 h2 rfl rfl rfl
  | true =>
    have hno := H.out.resolve_left (by simp)
    obtain ⟨w3, hw3⟩ : ∃ w3, w3 = w2.alloc (.cells #[s, r, i] 68) := ⟨_, rfl⟩
    have b23 : Below w2.heap.size w2 w3 := by rw [hw3]; exact (Below.refl _ _).alloc (Nat.le_refl _) _
    have z3 := b23.size
    have x3 := x2.below b23 x2.lt
    have y3 := y2.below b23 y2.lt
    have b3 := bb.trans (b23.mono (by omega))
    have Hac := Lib.hid (areCuts_c E m d n L w3 ((Hcu.out.below b3).more (by omega)) false (by simp [hno]))
    have W3 := Lib.hid hw3; have Y3 := Lib.hid y3
    obtain ⟨c0, c1, c2, -, -, -, hlt2⟩ := x2
    have hlt4 : w.heap.size < w2.heap.size := by omega
    clear b23 hw3 y3 bb y1 b1 b2 y2 x3 hno
    rcases hfv with ⟨a, b, c', ca, cb, cc, rfl, rfl, rfl⟩ | ⟨rfl, rfl, rfl⟩
    all_goals
      go_wp2_with fail
      rw [← W3.out]
      refine Hac.out.mono ?_
      rintro e w4 ⟨rfl, b4⟩
      have y4 := Y3.out.below b4 Y3.out.lt
      have bb4 := b3.trans (b4.mono (by omega))
      have x5 := put3_box y4 (.slice none 0 0) (.slice none 0 0) (.int .i64 0)
      have b5 := bb4.trans ((put3_below w4 (w.heap.size + 1) (.slice none 0 0) (.slice none 0 0) (.int .i64 0)).mono (by omega))
      have X5 := Lib.hid x5; have B5 := Lib.hid b5
      obtain ⟨e0, e1, e2, f0, f1, f2, hlt5⟩ := y4
      clear x5 b5 c0 c1 c2
      go_wp2
      exact Fin.out _ _ X5.out B5.out rfl rfl rfl

/-- But for one block what lay below B stays. -/
def Ex (g B : Nat) (w w' : World) : Prop := ∀ p : Addr, p.block ≠ g → p.block < B → w'.cell? p = w.cell? p
theorem Ex.refl {g B : Nat} (w : World) : Ex g B w w := fun _ _ _ => rfl
theorem Ex.trans {g B : Nat} (a b c : World) (h : Ex g B a b) (h2 : Ex g B b c) : Ex g B a c := fun p h1 h3 => (h2 p h1 h3).trans (h p h1 h3)
theorem Ex.of {g B B' : Nat} {w w' : World} (h : Below B' w w') (hB : B ≤ B') : Ex g B w w' := fun _ _ h2 => h.cell (Nat.lt_of_lt_of_le h2 hB)
theorem ex_put3 (w : World) (g B : Nat) (v0 v1 v2 : Value) : Ex g B w (put3 w g v0 v1 v2) := fun p h1 _ => by
  obtain ⟨b, j, pa⟩ := p
  have hne : ∀ k, (⟨g, k, none⟩ : Addr) ≠ ⟨b, j, pa⟩ := fun k q => h1 (by injection q with q; exact q.symm)
  unfold put3
  rw [World.cell?_setCell_other _ _ _ _ (hne 2), World.cell?_setCell_other _ _ _ _ (hne 1), World.cell?_setCell_other _ _ _ _ (hne 0)]
theorem asc_len {hi : Nat} : ∀ {l : List Nat} {lo : Nat}, Asc lo hi l → lo + l.length ≤ hi ∨ l = []
  | [], _, _ => .inr rfl
  | x :: l, lo, h => by
    left
    have h1 := h.1
    have h2 := h.2.1
    rcases asc_len h.2.2 with h3 | h3
    · simp only [List.length_cons]; omega
    · subst h3; simp only [List.length_cons, List.length_nil]; omega
theorem cu_len {n : Nat} {C : List Nat} (h : Cu n C) : C.length ≤ n + 1 := by
  rcases asc_len (cu_get h) with h1 | h1
  · omega
  · rw [h1]; simp
/-- A plan. -/
def RetPl (w : World) (C : List Nat) (I : List Bool) (g : Nat) (e : Ending) (w' : World) : Prop :=
  ∃ A c D d, e = .returned (.tuple #[.agg #[.slice A C.length c, .slice D I.length d, .int .i64 (g : Int)], .int .i64 0]) ∧ RcS 1 w' (Fr w.heap.size w') A C.length c (ivs (ic C)) ∧ RcS 1 w' (Fr w.heap.size w') D I.length d (lvb I) ∧ Below w.heap.size w w'

set_option maxRecDepth 100000 in
set_option maxHeartbeats 4000000 in
theorem make_ok (f k : Int) (A : Option Addr) (n c : Nat) (l : List UInt8) (E : Option Addr) (m d : Nat) (C : List Nat) (w : World) (hr : Rb w w.heap.size A n c l) (hn : n ≤ 90000) (hc : Rc 1 w w.heap.size E m d (ivs (ic C))) (hC : Cu n C) (hF : isF f k = true) (hx : Sq.Mx w) :
    Calls Tryz.prog 11 #[flv f k A n c, .slice E m d] w (RetPl w C (insF f l C) (scF f k l).2.1) := by
  have hCl : C.length = m := by have := hc.len1; rw [ivs_length, ic_len] at this; exact this
  have hm1 := (cu_pos hC).1
  have hm2 := cu_len hC
  obtain ⟨w0, hw0⟩ : ∃ w0, w0 = w.alloc (.cells #[.int .i64 f, .int .i64 k, .slice A n c] 24) := ⟨_, rfl⟩
  have z0 : w0.heap.size = w.heap.size + 1 := by rw [hw0]; simp
  have b0 : Below w.heap.size w w0 := by rw [hw0]; exact (Below.refl _ _).alloc (Nat.le_refl _) _
  have x0 : Bx w0 w.heap.size (.int .i64 f) (.int .i64 k) (.slice A n c) := by rw [hw0]; exact Bx.made _ _ _ _ _
  obtain ⟨w1, hw1⟩ : ∃ w1, w1 = w0.alloc (.cells #[.slice none 0 0, .slice none 0 0, .int .i64 0] 36) := ⟨_, rfl⟩
  have z1 : w1.heap.size = w.heap.size + 2 := by rw [hw1]; simp [z0]
  have b01 : Below w0.heap.size w0 w1 := by rw [hw1]; exact (Below.refl _ _).alloc (Nat.le_refl _) _
  have x1 := x0.below b01 (by omega)
  have y1 : Bx w1 w0.heap.size (.slice none 0 0) (.slice none 0 0) (.int .i64 0) := by rw [hw1]; exact Bx.made _ _ _ _ _
  rw [z0] at y1
  have b1 := b0.trans (b01.mono (by omega))
  have Hc := Lib.hid (functionsOf_c f k A n c true (by rw [hF]; simp; omega) (by omega) w1)
  have W0 := Lib.hid hw0; have W1 := Lib.hid hw1; have Hcu := Lib.hid hc; have X1 := Lib.hid x1; have Z0 := Lib.hid z0; have Hr := Lib.hid hr; have Hx := Lib.hid hx; have HC := Lib.hid hC; have HCl := Lib.hid hCl
  obtain ⟨c0, c1, c2, -, -, -, hlt⟩ := x1
  clear hw0 hw1 b0 x0 b01 hc z0 hr hx hF hCl hC
  go_enter Tryz.func11, Tryz.ntmps11
  go_wp2_with (rw [← W0.out, ← W1.out])
  refine Hc.out.mono ?_
  rintro e w2 ⟨s, r, i, rfl, hf3, hfv, b2⟩
  have hf3 := hf3 rfl
  have z2 := b2.size
  have bb := b1.trans (b2.mono (by omega))
  have x2 := X1.out.below b2 hlt
  have y2 := y1.below b2 (by omega)
  clear c0 c1 c2
  obtain ⟨w3, hw3⟩ : ∃ w3, w3 = w2.alloc (.cells #[s, r, i] 68) := ⟨_, rfl⟩
  have b23 : Below w2.heap.size w2 w3 := by rw [hw3]; exact (Below.refl _ _).alloc (Nat.le_refl _) _
  have z3 := b23.size
  have x3 := x2.below b23 x2.lt
  have y3 := y2.below b23 y2.lt
  have v3 : Bx w3 w2.heap.size s r i := by rw [hw3]; exact Bx.made _ _ _ _ _
  have b3 := bb.trans (b23.mono (by omega))
  have Hac := Lib.hid (areCuts_c E m d n (ic C) w3 ((Hcu.out.below b3).more (by omega)) true (by simp [cu_isC HC.out]))
  have hf3' := hf3.below b23 (Nat.le_refl _)
  obtain ⟨a, ca, rfl, hent, hsc⟩ := hf3'.scan
  have W3 := Lib.hid hw3; have Y3 := Lib.hid y3; have X3 := Lib.hid x3; have V3 := Lib.hid v3; have F3' := Lib.hid hf3'; have Hsc := Lib.hid hsc; have B3 := Lib.hid b3
  obtain ⟨c0, c1, c2, -, -, -, hlt2⟩ := x2
  have hlt4 : w.heap.size < w2.heap.size := by omega
  clear b23 hw3 y3 bb y1 b1 b2 y2 x3 v3 hf3 hf3' hsc b3
  rcases hfv with ⟨a', b, c', ca', cb, cc, h1, rfl, rfl⟩ | ⟨h1, _⟩
  · clear h1
    go_wp2_with fail
    rw [← W3.out]
    refine Hac.out.mono ?_
    rintro e w4 ⟨rfl, b4⟩
    have z4 := b4.size
    have y4 := Y3.out.below b4 Y3.out.lt
    have x4 := X3.out.below b4 X3.out.lt
    have v4 := V3.out.below b4 V3.out.lt
    have bb4 := B3.out.trans (b4.mono (by omega))
    have Hs2 := Lib.hid (Hsc.out w4 A n c l b4 ((Hr.out.below bb4).more (by omega)) hn (Hx.out.below bb4 Hx.out.2))
    have F4 := Lib.hid (F3'.out.below b4 (Nat.le_refl _))
    have X4 := Lib.hid x4; have Y4 := Lib.hid y4; have V4 := Lib.hid v4; have BB4 := Lib.hid bb4
    clear c0 c1 c2
    obtain ⟨c0, c1, c2, -, -, -, hlt6⟩ := x4
    obtain ⟨v0, v1, v2, -, -, -, hlt7⟩ := v4
    clear y4 bb4 b4
    go_wp2_with fail
    rw [hent, Oper.upon_enter]
    refine Hs2.out.mono ?_
    rintro e w5 ⟨A3, c3, rfl, -, b5⟩
    have z5 := b5.size
    have x5 := X4.out.below b5 X4.out.lt
    have y5 := Y4.out.below b5 Y4.out.lt
    have v5 := V4.out.below b5 V4.out.lt
    have bb5 := BB4.out.trans (b5.mono (by omega))
    have F5 := Lib.hid (F4.out.below b5 (Nat.le_refl _))
    have Y5 := Lib.hid y5; have BB5 := Lib.hid bb5
    clear c0 c1 c2 v0 v1 v2
    obtain ⟨c0, c1, c2, -, -, -, hlt8⟩ := x5
    obtain ⟨v0, v1, v2, -, -, -, hlt9⟩ := v5
    obtain ⟨gd, hgd⟩ : ∃ gd, gd = (scF f k l).2.1 := ⟨_, rfl⟩
    rw [← hgd]
    have Hgd := Lib.hid hgd
    have HB := Lib.hid (Nat.le_refl w5.heap.size)
    have Hcl := fun W (h : Below w5.heap.size w5 W) => clone_c E m d C W (((Hcu.out.below BB5.out).below (B := w.heap.size) (h.mono (by omega))).more (by have := h.size; omega)) (by have := HCl.out; omega) (by have := HCl.out; omega)
    have Hin := fun W (h : Below w5.heap.size w5 W) => F5.out.insides W A n c l E m d C (((Hr.out.below BB5.out).below (B := w.heap.size) (h.mono (by omega))).more (by have := h.size; omega)) hn (((Hcu.out.below BB5.out).below (B := w.heap.size) (h.mono (by omega))).more (by have := h.size; omega)) HC.out
    have Hcl := Lib.hid Hcl; have Hin := Lib.hid Hin
    clear hgd y5 bb5 b5
    go_wp2_with fail
    refine wp_region_schedR (Ex (w.heap.size + 1) w5.heap.size) Ex.refl Ex.trans [(false, 0), (false, 2), (false, 3), (false, 4), (false, 5), (false, 7), (true, 1), (true, 6), (false, 8), (true, 9), (false, 10)] (by kernel_rfl) (by kernel_rfl) (by kernel_rfl) (by kernel_rfl) (fun _ _ d _ _ h => by cases d <;> exact h) ?_
    refine wpR_read (o := { dst := some 36, op := Go.Op.move (Go.Operand.tmp 1), type := 25, pos := "plan.go:54", after := #[], guard := none }) (v := .slice E m d) rfl (by rfl) ?_ ?_
    · intro w' _; go_simp
    try simp only [Act.put, List.setIfInBounds_toArray, List.set_cons_zero, List.set_cons_succ]
    refine wpR_read (o := { dst := some 38, op := Go.Op.load 68 (Go.Operand.tmp 6), type := 68, pos := "plan.go:54", after := #[], guard := none }) (v := .agg #[fv a ca, fv b cb, fv c' cc]) rfl (by rfl) ?_ ?_
    · intro w' hw'; have q0 := (hw' ⟨w2.heap.size, 0, none⟩ (by show w2.heap.size ≠ _; omega) (by show w2.heap.size < _; omega)).trans v0; have q1 := (hw' ⟨w2.heap.size, 1, none⟩ (by show w2.heap.size ≠ _; omega) (by show w2.heap.size < _; omega)).trans v1; have q2 := (hw' ⟨w2.heap.size, 2, none⟩ (by show w2.heap.size ≠ _; omega) (by show w2.heap.size < _; omega)).trans v2; go_simp
    try simp only [Act.put, List.setIfInBounds_toArray, List.set_cons_zero, List.set_cons_succ]
    refine wpR_read (o := { dst := some 39, op := Go.Op.fieldAddr 24 (Go.Operand.tmp 2) 2, type := 0, pos := "plan.go:54", after := #[], guard := none }) (v := .pointer (some ⟨w.heap.size, 2, none⟩)) rfl (by rfl) ?_ ?_
    · intro w' _; go_simp
    try simp only [Act.put, List.setIfInBounds_toArray, List.set_cons_zero, List.set_cons_succ]
    refine wpR_read (o := { dst := some 40, op := Go.Op.load 22 (Go.Operand.tmp 39), type := 22, pos := "plan.go:54", after := #[{ on := 3, ground := Go.Ground.data }], guard := none }) (v := .slice A n c) rfl (by rfl) ?_ ?_
    · intro w' hw'; have q2 := (hw' ⟨w.heap.size, 2, none⟩ (by show w.heap.size ≠ _; omega) (by show w.heap.size < _; omega)).trans c2; go_simp
    try simp only [Act.put, List.setIfInBounds_toArray, List.set_cons_zero, List.set_cons_succ]
    refine wpR_read (o := { dst := some 41, op := Go.Op.move (Go.Operand.tmp 1), type := 25, pos := "plan.go:54", after := #[], guard := none }) (v := .slice E m d) rfl (by rfl) ?_ ?_
    · intro w' _; go_simp
    try simp only [Act.put, List.setIfInBounds_toArray, List.set_cons_zero, List.set_cons_succ]
    refine wpR_read (o := { dst := some 43, op := Go.Op.move (Go.Operand.tmp 9), type := 3, pos := "plan.go:54", after := #[], guard := none }) (v := .int .i64 (gd : Int)) rfl (by rfl) ?_ ?_
    · intro w' _; go_simp
    try simp only [Act.put, List.setIfInBounds_toArray, List.set_cons_zero, List.set_cons_succ]
    refine wpR_call (o := { dst := some 37, op := Go.Op.call { callee := Go.Callee.value (Go.Operand.func 38), args := #[Go.Operand.tmp 36], argTypes := #[25] }, type := 25, pos := "plan.go:54", after := #[{ on := 0, ground := Go.Ground.data }], guard := none }) rfl (by rfl) (fun K hK => ?_)
    go_simp
    go_at_call 38
    with_reducible refine (Hcl.out w5.drew (show Below w5.heap.size w5 w5.drew from below_drewN (Below.refl _ _) 1)).mono ?_
    rintro e w6 ⟨A6, c6, rfl, h6, b6⟩
    have b6' : Below w5.heap.size w5 w6 := ⟨b6.os, b6.tape, b6.output, b6.size, b6.block⟩
    have z6 := b6'.size
    have H6 := Lib.hid h6; have B6 := Lib.hid b6'
    refine hK.out _ _ (Ex.of b6 (by show _ ≤ w5.heap.size; omega)) ?_
    clear hK K h6 b6 b6'
    try simp only [Act.put, List.setIfInBounds_toArray, List.set_cons_zero, List.set_cons_succ]
    refine wpR_call (o := { dst := some 42, op := Go.Op.call { callee := Go.Callee.value (Go.Operand.func 39), args := #[Go.Operand.tmp 38, Go.Operand.tmp 40, Go.Operand.tmp 41], argTypes := #[68, 22, 25] }, type := 34, pos := "plan.go:54", after := #[{ on := 2, ground := Go.Ground.data }, { on := 4, ground := Go.Ground.data }, { on := 5, ground := Go.Ground.data }, { on := 1, ground := Go.Ground.chain }], guard := none }) rfl (by rfl) (fun K hK => ?_)
    go_simp
    go_at_call 39
    with_reducible refine (Hin.out _ B6.out).mono ?_
    rintro e w7 ⟨A7, c7, rfl, h7, b7⟩
    have z7 := b7.size
    have H7 := Lib.hid h7; have B7 := Lib.hid b7
    refine hK.out _ _ (Ex.of b7 (by omega)) ?_
    clear hK K h7 b7
    try simp only [Act.put, List.setIfInBounds_toArray, List.set_cons_zero, List.set_cons_succ]
    refine wpR_read (o := { dst := some 44, op := Go.Op.build 36 #[(0, Go.Operand.tmp 37), (1, Go.Operand.tmp 42), (2, Go.Operand.tmp 43)], type := 36, pos := "plan.go:54", after := #[{ on := 1, ground := Go.Ground.data }, { on := 6, ground := Go.Ground.data }, { on := 7, ground := Go.Ground.data }], guard := none }) (v := .agg #[.slice A6 m c6, .slice A7 (insF f l C).length c7, .int .i64 (gd : Int)]) rfl (by rfl) ?_ ?_
    · intro w' _; go_simp
    try simp only [Act.put, List.setIfInBounds_toArray, List.set_cons_zero, List.set_cons_succ]
    refine wpR_call (o := { dst := none, op := Go.Op.store 36 (Go.Operand.tmp 4) (Go.Operand.tmp 44), type := 0, pos := "plan.go:54", after := #[{ on := 8, ground := Go.Ground.data }, { on := 6, ground := Go.Ground.chain }, { on := 0, ground := Go.Ground.phase }, { on := 1, ground := Go.Ground.phase }, { on := 2, ground := Go.Ground.phase }, { on := 3, ground := Go.Ground.phase }, { on := 4, ground := Go.Ground.phase }, { on := 5, ground := Go.Ground.phase }, { on := 6, ground := Go.Ground.phase }, { on := 7, ground := Go.Ground.phase }, { on := 8, ground := Go.Ground.phase }], guard := none }) rfl (by rfl) (fun K hK => ?_)
    have y7 := (Y5.out.below B6.out (by omega)).below B7.out (by omega)
    obtain ⟨w8, hw8⟩ : ∃ w8, w8 = put3 w7 (w.heap.size + 1) (.slice A6 m c6) (.slice A7 (insF f l C).length c7) (.int .i64 (gd : Int)) := ⟨_, rfl⟩
    have x8 := put3_box y7 (.slice A6 m c6) (.slice A7 (insF f l C).length c7) (.int .i64 (gd : Int))
    have q8 := put3_below w7 (w.heap.size + 1) (.slice A6 m c6) (.slice A7 (insF f l C).length c7) (.int .i64 (gd : Int))
    rw [← hw8] at x8 q8
    have X8 := Lib.hid x8; have Q8 := Lib.hid q8; have W8 := Lib.hid hw8
    obtain ⟨o0, o1, o2, o3, o4, o5, o6⟩ := y7
    clear x8 q8 hw8
    go_simp
    change K _ (put3 w7 (w.heap.size + 1) _ _ _)
    rw [← W8.out]
    refine hK.out _ _ (by rw [W8.out]; exact ex_put3 _ _ _ _ _ _) ?_
    clear hK K o0 o1 o2 o3 o4 o5 o6
    try simp only [Act.put, List.setIfInBounds_toArray, List.set_cons_zero, List.set_cons_succ]
    refine wpR_read (o := { dst := some 5, op := Go.Op.assign (Go.Operand.const (Go.Value.int Go.IntKind.i64 0)), type := 28, pos := "plan.go:54", after := #[{ on := 9, ground := Go.Ground.chain }, { on := 0, ground := Go.Ground.phase }, { on := 1, ground := Go.Ground.phase }, { on := 2, ground := Go.Ground.phase }, { on := 3, ground := Go.Ground.phase }, { on := 4, ground := Go.Ground.phase }, { on := 5, ground := Go.Ground.phase }, { on := 6, ground := Go.Ground.phase }, { on := 7, ground := Go.Ground.phase }, { on := 8, ground := Go.Ground.phase }, { on := 9, ground := Go.Ground.phase }], guard := none }) (v := .int .i64 0) rfl (by rfl) ?_ ?_
    · intro w' _; go_simp
    try simp only [Act.put, List.setIfInBounds_toArray, List.set_cons_zero, List.set_cons_succ]
    refine wpR_done ?_
    have h6 := H6.out.keep B7.out
    have z78 := Q8.out.size
    have z7' : w6.heap.size ≤ w7.heap.size := z7
    have h68 := h6.rcS.keep (show Stays w7 w8 (Fr w5.drew.heap.size w7) (Fr w.heap.size w8) from ⟨fun b hb => ⟨by have h : w5.heap.size ≤ b := hb.1; omega, by have := hb.2; omega⟩, fun p hp => by
      have h : w5.heap.size ≤ p.block := hp.1
      rw [W8.out]
      exact ex_put3 _ _ (p.block + 1) _ _ _ p (by omega) (by omega)⟩)
    have h78 := H7.out.keep (show Stays w7 w8 (Fr w6.heap.size w7) (Fr w.heap.size w8) from ⟨fun b hb => ⟨by have h : w6.heap.size ≤ b := hb.1; omega, by have := hb.2; omega⟩, fun p hp => by
      have h : w6.heap.size ≤ p.block := hp.1
      rw [W8.out]
      exact ex_put3 _ _ (p.block + 1) _ _ _ p (by omega) (by omega)⟩)
    have bb8 := ((BB5.out.trans (B6.out.mono (by omega))).trans (B7.out.mono (by omega))).trans (Q8.out.mono (by omega))
    have x8 := X8.out
    obtain ⟨y0, y1, y2, -, -, -, -⟩ := x8
    have hCm := HCl.out
    go_wp2
    refine bodyPost_ret (v := .tuple #[.agg #[.slice A6 m c6, .slice A7 (insF f l C).length c7, .int .i64 (gd : Int)], .int .i64 0]) ?_ rfl ⟨A6, c6, A7, c7, by rw [Hgd.out, hCm], by rw [hCm]; exact h68, h78, bb8⟩
    simp [results, Tryz.results11, go_sem, y0, y1, y2]
  · cases h1
end Go.Proofs.YtknmhdkomjjneaaGreatDoor.Pl

/-
  plan.Align: aligned cuts.
-/

namespace Go.Proofs.YtknmhdkomjjneaaGreatDoor.Pl
open Go.RowKit

set_option maxRecDepth 100000 in
set_option maxHeartbeats 2000000 in
theorem align_err (f k : Int) (A : Option Addr) (n c : Nat) (E : Option Addr) (m d : Nat) (L : List Int) (w : World) (hn : n ≤ 9223372036854775807) (hc : Rc 1 w w.heap.size E m d (ivs L)) (h : (isF f k && decide (n ≤ 100000)) = false ∨ ¬ IsC n L) :
    Calls Tryz.prog 13 #[flv f k A n c, .slice E m d] w fun e w' => e = .returned (.tuple #[.slice none 0 0, .int .i64 1]) ∧ Below w.heap.size w w' := by
  obtain ⟨w1, hw1⟩ : ∃ w1, w1 = w.alloc (.cells #[.int .i64 f, .int .i64 k, .slice A n c] 24) := ⟨_, rfl⟩
  have z1 : w1.heap.size = w.heap.size + 1 := by rw [hw1]; simp
  have b1 : Below w.heap.size w w1 := by rw [hw1]; exact (Below.refl _ _).alloc (Nat.le_refl _) _
  have x1 : Bx w1 w.heap.size (.int .i64 f) (.int .i64 k) (.slice A n c) := by rw [hw1]; exact Bx.made _ _ _ _ _
  obtain ⟨o, ho⟩ : ∃ o, o = (isF f k && decide (n ≤ 100000)) := ⟨_, rfl⟩
  have Hc := Lib.hid (functionsOf_c f k A n c o ho hn w1)
  rw [← ho] at h
  have W1 := Lib.hid hw1; have Hcu := Lib.hid hc; have H := Lib.hid h; have X1 := Lib.hid x1
  obtain ⟨c0, c1, c2, -, -, -, hlt⟩ := x1
  clear hw1 ho h hc
  go_enter Tryz.func13, Tryz.ntmps13
  go_wp2_with (rw [← W1.out])
  refine Hc.out.mono ?_
  rintro e w2 ⟨s, r, i, rfl, -, hfv, b2⟩
  have z2 := b2.size
  have bb := b1.trans (b2.mono (by omega))
  have x2 := X1.out.below b2 hlt
  clear c0 c1 c2
  cases o with
  | false =>
    rcases hfv with ⟨a, b, c', ca, cb, cc, rfl, rfl, rfl⟩ | ⟨rfl, rfl, rfl⟩
    all_goals
      go_wp2
      go_ret2
      exact ⟨rfl, bb.alloc (by omega) _⟩
  | true =>
    have hno := H.out.resolve_left (by simp)
    obtain ⟨w3, hw3⟩ : ∃ w3, w3 = w2.alloc (.cells #[s, r, i] 68) := ⟨_, rfl⟩
    have b23 : Below w2.heap.size w2 w3 := by rw [hw3]; exact (Below.refl _ _).alloc (Nat.le_refl _) _
    have z3 := b23.size
    have b3 := bb.trans (b23.mono (by omega))
    have Hac := Lib.hid (areCuts_c E m d n L w3 ((Hcu.out.below b3).more (by omega)) false (by simp [hno]))
    have W3 := Lib.hid hw3
    obtain ⟨c0, c1, c2, -, -, -, hlt2⟩ := x2
    have hlt4 : w.heap.size < w2.heap.size := by omega
    clear b23 hw3 bb b1 b2 hno
    rcases hfv with ⟨a, b, c', ca, cb, cc, rfl, rfl, rfl⟩ | ⟨rfl, rfl, rfl⟩
    all_goals
      go_wp2_with fail
      rw [← W3.out]
      refine Hac.out.mono ?_
      rintro e w4 ⟨rfl, b4⟩
      have bb4 := b3.trans (b4.mono (by omega))
      clear c0 c1 c2
      go_wp2
      go_ret2
      exact ⟨rfl, bb4⟩

theorem ity_el : Tryz.prog.elem 25 = 3 := by simp only [Program.elem, ity.sl]
theorem ity_sz (W : World) : (sizeOf (Tryz.prog.elem 25)).run Tryz.prog W = .ok 1 W := by
  obtain ⟨i, hi, hz0, hz1, hz2⟩ := info_parts ity.inf
  rw [ity_el]
  simp [sizeOf, typeInfo, hi, hz1]
theorem ity_sl : Tryz.prog.underlying 25 = some (.slice (Tryz.prog.elem 25)) := by rw [ity_el]; exact ity.sl
/-- 's[k:]' of numbers. -/
theorem ints_from {w : World} {B n c : Nat} {A : Option Addr} {L : List Int} (h : Rc 1 w B A n c (ivs L)) {k : Nat} (hk : k ≤ n) (K : Int) (hK : K = (k : Int)) :
    ∃ D, (∀ W kd, (Instr.slice 25 (.slice A n c) (some (.int kd K)) none none).run Tryz.prog W = .ok (.slice D (n - k) (c - k)) W) ∧ Rc 1 w B D (n - k) (c - k) (ivs (L.drop k)) := by
  subst hK
  refine ⟨if c = k then A else A.map (·.add k), fun W kd => ?_, ?_⟩
  · rw [run_slice_l W 25 _ _ _ ity_sl kd (k : Int) (by omega) (by omega), ity_sz]
    simp [Result.andThen, sliced]
  · have hl := h.len1
    obtain ⟨h1, h2, h3, h4⟩ := h
    rw [ivs_length] at hl
    refine ⟨by rw [ivs_length, List.length_drop]; omega, by omega, by omega, fun hn => ?_⟩
    obtain ⟨b, off, rfl, hb, hc⟩ := h4 (by omega)
    rw [if_neg (by omega)]
    refine ⟨b, off + k, ?_, hb, fun j x hx => ?_⟩
    · by_cases h0 : k = 0
      · simp [Addr.add, h0]
      · simp [Addr.add, h0]
    · unfold ivs at hx
      rw [List.map_drop, List.getElem?_drop] at hx
      rw [Nat.add_assoc]
      exact hc _ _ hx
def AlRel (g m n : Nat) (w : World) (S : List Nat) (D : List Nat) (o i : Value) (wr : World) : Prop :=
  ∃ A c, ∃ j : Nat, o = .slice A (j + 1) c ∧ i = .int .i64 (j : Int) ∧ j ≤ m ∧ Oc 1 wr 3 g A (j + 1) c (ivs (ic (0 :: (D.take j).map (nx S n)))) ∧ Below w.heap.size w wr

set_option maxRecDepth 100000 in
set_option maxHeartbeats 4000000 in
theorem align_ok (f k : Int) (A : Option Addr) (n c : Nat) (l : List UInt8) (E : Option Addr) (m d : Nat) (C : List Nat) (w : World) (hr : Rb w w.heap.size A n c l) (hn : n ≤ 90000) (hc : Rc 1 w w.heap.size E m d (ivs (ic C))) (hC : Cu n C) (hF : isF f k = true) (hx : Sq.Mx w) :
    Calls Tryz.prog 13 #[flv f k A n c, .slice E m d] w (RetIE w (al ((scF f k l).1.map (·.1)) n C)) := by
  have hCl : C.length = m := by have := hc.len1; rw [ivs_length, ic_len] at this; exact this
  have hm1 := (cu_pos hC).1
  have hm2 := cu_len hC
  have hasc := asc_F hF l
  rw [hr.len] at hasc
  obtain ⟨P, hP⟩ : ∃ P, P = (scF f k l).1 := ⟨_, rfl⟩
  rw [← hP] at hasc ⊢
  obtain ⟨S, hS⟩ : ∃ S, S = P.map (·.1) := ⟨_, rfl⟩
  obtain ⟨D, hD⟩ : ∃ D, D = C.tail := ⟨_, rfl⟩
  have hal : al S n C = cpt (0 :: D.map (nx S n)) := by rw [hD]; rfl
  have hPl : P.length ≤ n := by
    rcases asc_len hasc with h | h
    · rw [List.length_map] at h; omega
    · have := congrArg List.length h; rw [List.length_map] at this; rw [this]; simp
  rw [← hS, hal]
  obtain ⟨w1, hw1⟩ : ∃ w1, w1 = w.alloc (.cells #[.int .i64 f, .int .i64 k, .slice A n c] 24) := ⟨_, rfl⟩
  have z1 : w1.heap.size = w.heap.size + 1 := by rw [hw1]; simp
  have b1 : Below w.heap.size w w1 := by rw [hw1]; exact (Below.refl _ _).alloc (Nat.le_refl _) _
  have x1 : Bx w1 w.heap.size (.int .i64 f) (.int .i64 k) (.slice A n c) := by rw [hw1]; exact Bx.made _ _ _ _ _
  have Hc := Lib.hid (functionsOf_c f k A n c true (by rw [hF]; simp; omega) (by omega) w1)
  have W1 := Lib.hid hw1; have Hcu := Lib.hid hc; have X1 := Lib.hid x1; have Hr := Lib.hid hr; have Hx := Lib.hid hx; have HC := Lib.hid hC; have HCl := Lib.hid hCl; have HP := Lib.hid hP; have HS := Lib.hid hS; have HD := Lib.hid hD; have Hasc := Lib.hid hasc
  obtain ⟨c0, c1, c2, -, -, -, hlt⟩ := x1
  clear hw1 hc hr hx hF hCl hC hP hS hD hasc hal
  go_enter Tryz.func13, Tryz.ntmps13
  go_wp2_with (rw [← W1.out])
  refine Hc.out.mono ?_
  rintro e w2 ⟨s, r, i, rfl, hf3, hfv, b2⟩
  have hf3 := hf3 rfl
  have z2 := b2.size
  have bb := b1.trans (b2.mono (by omega))
  have x2 := X1.out.below b2 hlt
  clear c0 c1 c2
  obtain ⟨w3, hw3⟩ : ∃ w3, w3 = w2.alloc (.cells #[s, r, i] 68) := ⟨_, rfl⟩
  have b23 : Below w2.heap.size w2 w3 := by rw [hw3]; exact (Below.refl _ _).alloc (Nat.le_refl _) _
  have z3 := b23.size
  have x3 := x2.below b23 x2.lt
  have v3 : Bx w3 w2.heap.size s r i := by rw [hw3]; exact Bx.made _ _ _ _ _
  have b3 := bb.trans (b23.mono (by omega))
  have Hac := Lib.hid (areCuts_c E m d n (ic C) w3 ((Hcu.out.below b3).more (by omega)) true (by simp [cu_isC HC.out]))
  have hf3' := hf3.below b23 (Nat.le_refl _)
  obtain ⟨a, ca, rfl, hent, hsc⟩ := hf3'.scan
  have W3 := Lib.hid hw3; have X3 := Lib.hid x3; have V3 := Lib.hid v3; have Hsc := Lib.hid hsc; have B3 := Lib.hid b3
  obtain ⟨c0, c1, c2, -, -, -, hlt2⟩ := x2
  have hlt4 : w.heap.size < w2.heap.size := by omega
  clear b23 hw3 bb b1 b2 x3 v3 hf3 hf3' hsc b3
  rcases hfv with ⟨a', b, c', ca', cb, cc, h1, rfl, rfl⟩ | ⟨h1, _⟩
  · clear h1
    go_wp2_with fail
    rw [← W3.out]
    refine Hac.out.mono ?_
    rintro e w4 ⟨rfl, b4⟩
    have z4 := b4.size
    have x4 := X3.out.below b4 X3.out.lt
    have v4 := V3.out.below b4 V3.out.lt
    have bb4 := B3.out.trans (b4.mono (by omega))
    have Hs2 := Lib.hid (Hsc.out w4 A n c l b4 ((Hr.out.below bb4).more (by omega)) hn (Hx.out.below bb4 Hx.out.2))
    have X4 := Lib.hid x4; have V4 := Lib.hid v4; have BB4 := Lib.hid bb4
    clear c0 c1 c2
    obtain ⟨c0, c1, c2, -, -, -, hlt6⟩ := x4
    obtain ⟨v0, v1, v2, -, -, -, hlt7⟩ := v4
    clear bb4 b4
    go_wp2_with fail
    rw [hent, Oper.upon_enter]
    refine Hs2.out.mono ?_
    rintro e w5 ⟨A3, c3, he, hp5, b5⟩
    rw [← HP.out] at he hp5
    subst he
    have z5 := b5.size
    have x5 := X4.out.below b5 X4.out.lt
    have bb5 := BB4.out.trans (b5.mono (by omega))
    have BB5 := Lib.hid bb5; have X5 := Lib.hid x5
    have Hp5 := Lib.hid (show PLS w5 (· < w5.heap.size) A3 P.length c3 P from hp5.keep (stays_weak fr_lt))
    clear c0 c1 c2 v0 v1 v2 hp5 bb5 x5 b5
    obtain ⟨X, hX, hrX⟩ := ints_from (Hcu.out.below BB5.out) (k := 1) (by have := HCl.out; omega) 1 rfl
    have hicD : (ic C).drop 1 = ic D := by rw [HD.out, ic, ic, ← List.map_drop, List.drop_one]
    rw [hicD] at hrX
    obtain ⟨M, hM⟩ : ∃ M, M = m - 1 := ⟨_, rfl⟩
    rw [← hM] at hX hrX
    have hDl : D.length = M := by rw [HD.out, List.length_tail, HCl.out, hM]
    have HX := Lib.hid hrX; have HDl := Lib.hid hDl
    have hMn : M ≤ n := by have := HCl.out; omega
    have e1 : ivs (ic (0 :: (D.take 0).map (nx S n))) = [.int .i64 0] := by simp [ivs, ic]
    have hlit := Oc.lit (z := 1) w5 3 #[.int .i64 0] 1 rfl (by simp [maxLen])
    have b6 : Below w5.heap.size w5 (w5.alloc (.cells #[.int .i64 0] 3)) := (Below.refl _ _).alloc (Nat.le_refl _) _
    have Hlit := Lib.hid (show Oc 1 (w5.alloc (.cells #[.int .i64 0] 3)) 3 w5.heap.size (some ⟨w5.heap.size, 0, none⟩) (0 + 1) 1 (ivs (ic (0 :: (D.take 0).map (nx S n)))) by rw [e1]; exact hlit); have B6 := Lib.hid b6
    have X5' := Lib.hid X5.out
    clear hrX hDl hicD e1 hlit b6
    have hX' : ∀ W, (Instr.slice 25 (.slice E m d) (some (.int .i64 1)) none none).run Tryz.prog W = .ok (.slice X M (d - 1)) W := fun W => hX W .i64
    clear hX hM
    go_wp2
    go_loopw [11, 13, 42] (fun o _ i wr => AlRel w5.heap.size M n w5 S D o i wr) (fun _ _ i _ => M - (intOf i).toNat)
    case atStart => exact ⟨_, _, 0, rfl, rfl, Nat.zero_le _, Hlit.out, B6.out⟩
    case round =>
      obtain ⟨A6, c6, j, rfl, rfl, hj, hown, hbel⟩ := hrel
      rename World => wr
      have z6 := hbel.size
      have Hown := Lib.hid hown
      clear hown
      by_cases hlt : j < M
      · have hRX := (HX.out.more (show w.heap.size ≤ w5.heap.size by omega)).below hbel
        obtain ⟨xb, xo, x, rfl, hxb, hcx, hx⟩ := hRX.int (k := j) hlt
        obtain ⟨v, hv, rfl⟩ := ic_inv hx
        have x6 := X5'.out.below hbel X5'.out.lt
        have hp6 := PLS.keep Hp5.out (stays_below hbel z6)
        obtain ⟨y, hy⟩ : ∃ y, y = nx S n v := ⟨_, rfl⟩
        have Hns := nextStart_c A3 P.length c3 n v P wr hp6 (by omega) Hasc.out
        rw [← HS.out, ← hy] at Hns
        have hnext : ivs (ic (0 :: (D.take (j + 1)).map (nx S n))) = ivs (ic (0 :: (D.take j).map (nx S n))) ++ [.int .i64 (y : Int)] := by
          rw [← ivs_snoc, List.take_add_one, hv, List.map_append, hy]; rfl
        obtain ⟨J, hJ⟩ : ∃ J, J = j + 1 := ⟨_, rfl⟩
        obtain ⟨L1, hL1⟩ : ∃ L1, L1 = ivs (ic (0 :: (D.take j).map (nx S n))) := ⟨_, rfl⟩
        rw [← hJ, ← hL1] at Hown
        rw [← hJ, ← hL1] at hnext
        rw [← hJ]
        have Hns := Lib.hid Hns; have Hnext := Lib.hid hnext; have HJ := Lib.hid hJ
        obtain ⟨c0, c1, c2, -, -, -, hlt9⟩ := x6
        have hJn : J ≤ n + 1 := by omega
        clear hRX hx hv hp6 hy hnext hJ hL1
        go_wp2_with fail
        refine Hns.out.mono ?_
        rintro e w7 ⟨rfl, b7⟩
        have z7 := b7.size
        have hown7 := Hown.out.keep b7
        obtain ⟨w8, h8⟩ : ∃ w8, w8 = w7.alloc (.cells #[.int .i64 (y : Int)] 3) := ⟨_, rfl⟩
        have b8 : Below w7.heap.size w7 w8 := by rw [h8]; exact (Below.refl _ _).alloc (Nat.le_refl _) _
        have hlit : Rc 1 w8 (w7.heap.size + 1) (some ⟨w7.heap.size, 0, none⟩) 1 1 [.int .i64 (y : Int)] := by rw [h8]; exact Rc.lit (z := 1) w7 _ #[.int .i64 (y : Int)] 1 rfl (by simp [maxLen])
        have hown8 := hown7.keep b8
        have bw8 := (hbel.trans (b7.mono z6)).trans (b8.mono (by omega))
        have z8 := b8.size
        have H8 := Lib.hid h8; have Hlit8 := Lib.hid hlit; have Hown8 := Lib.hid hown8
        clear h8 hlit hown8 hown7 b8 b7 c0 c1 c2
        go_wp2_with (at_builtin; rw [← H8.out]; go_must (refine Sl.wpAppAt ity rfl (.tmp 46) (.tmp 53) rfl (n := J) (m := 1) (N := J + 1) (ws := L1 ++ [.int .i64 (y : Int)]) rfl rfl Hown8.out Hlit8.out ?hs1 rfl rfl ?hs4 ?hs5 ?hs6 ?_))
        case hs1 => simp [Value.oneCell']
        case hs4 => omega
        case hs5 => omega
        case hs6 => omega
        intro A9 c9 w9 hown9 hg9
        have bw9 := bw8.trans (hg9.belowC Hown8.out (by omega))
        rw [← Hnext.out] at hown9
        have Hown9 := Lib.hid hown9
        clear hown9 hg9
        go_wp2
        go_roundw
        case rel => exact ⟨A9, c9, J, rfl, by rw [HJ.out]; go_num, by have := HJ.out; omega, Hown9.out, bw9⟩
        case measure => simp [intOf]; omega
      · have e : j = M := by omega
        subst e
        have hown := Hown.out
        rw [List.take_of_length_le (by rw [HDl.out]; exact Nat.le_refl _)] at hown
        have hcc := compactIn_c A6 (j + 1) c6 w5.heap.size (0 :: D.map (nx S n)) wr hown
        obtain ⟨R, hR⟩ : ∃ R, R = cpt (0 :: D.map (nx S n)) := ⟨_, rfl⟩
        rw [← hR] at hcc
        have Hcc := Lib.hid hcc; have HR := Lib.hid hR
        clear hown hcc hR
        go_wp2_with fail
        refine Hcc.out.mono ?_
        rintro e w7 ⟨A7, c7, rfl, h7, b7⟩
        have H7 := Lib.hid (h7.mono (show w.heap.size ≤ w5.heap.size by omega))
        have bb7 := (BB5.out.trans (hbel.mono (by omega))).trans (b7.mono (by omega))
        clear h7 b7
        go_wp2
        go_ret2
        exact ⟨A7, c7, by rw [← HR.out]; rfl, by rw [← HR.out]; exact H7.out, bb7⟩
  · cases h1
end Go.Proofs.YtknmhdkomjjneaaGreatDoor.Pl

/-
  plan: the live question; the document's May; a file as the document's.
-/
namespace Go.Proofs.YtknmhdkomjjneaaGreatDoor.Pl
open Go.RowKit

set_option maxRecDepth 100000 in
theorem plain_c (f k : Int) (A : Option Addr) (n c : Nat) (w : World) : Calls Tryz.prog 10 #[flv f k A n c] w fun e w' => e = .returned (flv f k A n c) ∧ Below w.heap.size w w' := by
  go_enter Tryz.func10, Tryz.ntmps10
  go_wp2
  refine bodyPost_ret (v := flv f k A n c) ?_ rfl ⟨rfl, ((Below.refl _ _).alloc (Nat.le_refl _) _).alloc (by simp) _⟩
  simp [results, Tryz.results10, go_sem]
set_option maxRecDepth 100000 in
theorem is_c (f k : Int) (o : Bool) (ho : o = isF f k) (w : World) : Calls Tryz.prog 44 #[.int .i64 f, .int .i64 k] w fun e w' => e = .returned (.bool o) ∧ w = w' := by
  unfold isF isU at ho
  by_cases h4 : f = 4
  · subst h4
    rw [if_pos rfl] at ho
    obtain ⟨p, hp⟩ : ∃ p, p = decide (1 ≤ k) := ⟨_, rfl⟩
    obtain ⟨q, hq⟩ : ∃ q, q = decide (k ≤ 1000) := ⟨_, rfl⟩
    rw [← hp, ← hq] at ho
    have d1 := hp.symm
    have d2 := hq.symm
    have Ho := Lib.hid ho
    clear ho hp hq
    go_enter Tryz.func44, Tryz.ntmps44
    cases p <;> cases q
    all_goals
      go_wp2
      go_ret
      exact ⟨by rw [Ho.out]; rfl, rfl⟩
  · rw [if_neg h4] at ho
    have d4 : (f == 4) = false := beq_eq_false_iff_ne.2 h4
    rw [show decide (f ≠ 4) = true by simpa using h4, Bool.and_true] at ho
    obtain ⟨p, hp⟩ : ∃ p, p = decide (0 ≤ f) := ⟨_, rfl⟩
    obtain ⟨q, hq⟩ : ∃ q, q = decide (f ≤ 5) := ⟨_, rfl⟩
    obtain ⟨r, hr⟩ : ∃ r, r = (k == 0) := ⟨_, rfl⟩
    rw [← hp, ← hq, ← hr] at ho
    have d1 := hp.symm
    have d2 := hq.symm
    have d3 := hr.symm
    have Ho := Lib.hid ho
    clear ho hp hq hr h4
    go_enter Tryz.func44, Tryz.ntmps44
    cases p <;> cases q <;> cases r
    all_goals
      go_wp2
      go_ret
      exact ⟨by rw [Ho.out]; rfl, rfl⟩
set_option maxRecDepth 100000 in
theorem rmay_c (f k : Int) (A : Option Addr) (n c : Nat) (o : Bool) (ho : o = (isF f k && decide (n ≤ 100000))) (w : World) : Calls Tryz.prog 16 #[flv f k A n c] w fun e w' => e = .returned (.bool o) ∧ Below w.heap.size w w' := by
  obtain ⟨w0, hw0⟩ : ∃ w0, w0 = w.alloc (.cells #[.int .i64 f, .int .i64 k, .slice A n c] 32) := ⟨_, rfl⟩
  have b0 : Below w.heap.size w w0 := by rw [hw0]; exact (Below.refl _ _).alloc (Nat.le_refl _) _
  have x0 : Bx w0 w.heap.size (.int .i64 f) (.int .i64 k) (.slice A n c) := by rw [hw0]; exact Bx.made _ _ _ _ _
  obtain ⟨p, hp⟩ : ∃ p, p = isF f k := ⟨_, rfl⟩
  obtain ⟨q, hq⟩ : ∃ q, q = decide (n ≤ 100000) := ⟨_, rfl⟩
  have Hc := Lib.hid (is_c f k p hp w0)
  rw [← hp, ← hq] at ho
  have d1 : decide ((n : Int) ≤ 100000) = q := by rw [hq]; simp; omega
  have W0 := Lib.hid hw0; have Ho := Lib.hid ho
  obtain ⟨c0, c1, c2, -, -, -, -⟩ := x0
  clear hw0 ho hp hq
  go_enter Tryz.func16, Tryz.ntmps16
  go_wp2_with (rw [← W0.out])
  refine Hc.out.mono ?_
  rintro e w1 ⟨rfl, rfl⟩
  cases p <;> cases q
  all_goals
    go_wp2
    go_ret
    exact ⟨by rw [Ho.out]; rfl, b0⟩

theorem sz_alive : sz 10 4 = [0, 4, 8, 10] := by decide
theorem cu_alive : Cu 5 [0, 4, 5] := ⟨[4, 5], rfl, ⟨by omega, by omega, by omega, by omega, trivial⟩, fun h => (by cases h), fun x h => (by simp at h; exact h.symm)⟩
theorem ins_alive : insF 1 [97, 44, 34, 98, 10] [0, 4, 5] = [false, true, true] := by decide
theorem good_alive : (scF 1 0 [97, 44, 34, 98, 10]).2.1 = 0 := by decide
set_option maxRecDepth 100000 in
set_option maxHeartbeats 2000000 in
theorem alive_c (w : World) (hx : Sq.Mx w) : Calls Tryz.prog 7 #[] w fun e w' => e = .returned (.bool true) ∧ Below w.heap.size w w' := by
  have hs := sizes_c 10 4 (by omega) (by omega) (by omega) w
  rw [sz_alive] at hs
  have hmk : ∀ W A n c E m d, Rb W W.heap.size A n c [97, 44, 34, 98, 10] → n ≤ 1000 → Rc 1 W W.heap.size E m d (ivs (ic [0, 4, 5])) → Sq.Mx W → Calls Tryz.prog 11 #[flv 1 0 A n c, .slice E m d] W fun e w' => ∃ A c D d, e = .returned (.tuple #[.agg #[.slice A 3 c, .slice D 3 d, .int .i64 0], .int .i64 0]) ∧ RcS 1 w' (Fr W.heap.size w') D 3 d (lvb [false, true, true]) ∧ Below W.heap.size W w' := fun W A n c E m d hr hn hc hx => by
    obtain rfl := hr.len
    have := make_ok 1 0 A 5 c _ E m d [0, 4, 5] W hr (by omega) hc cu_alive (by decide) hx
    refine this.mono fun e w' ⟨A1, c1, D1, d1, h1, h2, h3, h4⟩ => ?_
    rw [ins_alive, good_alive] at h1
    rw [ins_alive] at h3
    exact ⟨A1, c1, D1, d1, h1, h3, h4⟩
  have Hs := Lib.hid hs; have Hmk := Lib.hid hmk; have Hx := Lib.hid hx
  clear hs hmk hx
  go_enter Tryz.func7, Tryz.ntmps7
  go_wp2_with fail
  refine Hs.out.mono ?_
  rintro e w1 ⟨A1, c1, rfl, h1, b1⟩
  have z1 := b1.size
  obtain ⟨b, off, x, rfl, hb, hcx, hx2⟩ := h1.rc.int (k := 2) (by simp)
  obtain rfl : x = 8 := by simpa [ic] using hx2.symm
  clear hx2 h1
  obtain ⟨w2, hw2⟩ : ∃ w2, w2 = w1.alloc (.cells #[.int .u8 97, .int .u8 44, .int .u8 34, .int .u8 98, .int .u8 10] 5 (5, 6)) := ⟨_, rfl⟩
  have z2 : w2.heap.size = w1.heap.size + 1 := by rw [hw2]; simp
  have b12 : Below w1.heap.size w1 w2 := by rw [hw2]; exact (Below.refl _ _).alloc (Nat.le_refl _) _
  have hrb : Rb w2 w2.heap.size (some ⟨w1.heap.size, 0, none⟩) 5 5 [97, 44, 34, 98, 10] := by rw [z2, hw2]; exact Rb.lit w1 _ _ _ [97, 44, 34, 98, 10] 5 rfl rfl (by omega)
  obtain ⟨w3, hw3⟩ : ∃ w3, w3 = w2.alloc (.cells #[.int .i64 0, .int .i64 4, .int .i64 5] 3) := ⟨_, rfl⟩
  have z3 : w3.heap.size = w1.heap.size + 2 := by rw [hw3]; simp [z2]
  have b23 : Below w2.heap.size w2 w3 := by rw [hw3]; exact (Below.refl _ _).alloc (Nat.le_refl _) _
  have hrc : Rc 1 w3 w3.heap.size (some ⟨w1.heap.size + 1, 0, none⟩) 3 3 (ivs (ic [0, 4, 5])) := by
    have h := Rc.lit (z := 1) w2 3 #[.int .i64 0, .int .i64 4, .int .i64 5] 3 rfl (by simp [maxLen])
    rw [← hw3, z2] at h
    have := h.more (show w1.heap.size + 1 + 1 ≤ w3.heap.size by omega)
    simpa [ivs, ic] using this
  have b13 : Below w1.heap.size w1 w3 := b12.trans (b23.mono (by omega))
  have b3 := b1.trans (b13.mono z1)
  have Hm := Lib.hid (Hmk.out w3 _ 5 5 _ 3 3 ((hrb.below b23).more (by omega)) (by omega) hrc (Hx.out.below b3 Hx.out.2))
  have hcv2 := Lib.run_convert_bytes_const (P := Tryz.prog) w1 22 5 #[.int .u8 97, .int .u8 44, .int .u8 34, .int .u8 98, .int .u8 10] 5 5 Tryz.underlying22 Tryz.underlying5
  have W2 := Lib.hid hw2; have W3 := Lib.hid hw3
  clear hw2 hw3 hrb hrc b12 b23
  go_wp2_with fail
  rw [← W2.out, ← W3.out]
  refine Hm.out.mono ?_
  rintro e w4 ⟨A4, c4, D4, d4, rfl, h4, b4⟩
  obtain ⟨b5, off5, v, rfl, hb5, hc5, hv5⟩ := (h4.keep (stays_weak fr_lt)).rc.at_ (k := 1) (by omega)
  have z4 := b4.size
  have hlt : b < w3.heap.size := by omega
  obtain rfl : v = .bool true := by simpa [lvb] using hv5.symm
  have hcx4 := (b4.cell (p := ⟨b, off + 2, none⟩) hlt).trans (((show Below w1.heap.size w1 w3 from b13)).cell (p := ⟨b, off + 2, none⟩) hb |>.trans hcx)
  have bb := b3.trans (b4.mono (by omega))
  clear hv5 h4 hcx
  have hlt4 : b < w4.heap.size := by omega
  have hlt5 : b5 < w4.heap.size := hb5
  go_wp2
  go_ret
  exact ⟨rfl, bb.alloc (by omega) _⟩
end Go.Proofs.YtknmhdkomjjneaaGreatDoor.Pl

/-
  The document's Scan of a file of any format (threshingref11.Scan).
-/

namespace Go.Proofs.YtknmhdkomjjneaaGreatDoor.Pl
open Go.RowKit

theorem rscans (k : Int) (A : Option Addr) (n c : Nat) (l : List UInt8) (w : World) (hr : Rb w w.heap.size A n c l) (hn : n ≤ 90000) :
    Calls Tryz.prog 31 #[.slice A n c] w (RetS w (scF 0 k l)) ∧ Calls Tryz.prog 32 #[.slice A n c] w (RetS w (scF 1 k l)) ∧ Calls Tryz.prog 33 #[.slice A n c] w (RetS w (scF 2 k l)) ∧
    Calls Tryz.prog 34 #[.slice A n c] w (RetS w (scF 3 k l)) ∧ Calls Tryz.prog 36 #[.slice A n c] w (RetS w (scF 5 k l)) := by
  refine ⟨(Txt.rscan_c A n c l w hr (by omega)).mono fun e w' ⟨A1, c1, h0, h1, h2⟩ => ?_, (Csv.scanD_c A n c l w hr (by omega)).mono fun e w' ⟨A1, c1, h0, h1, h2⟩ => ?_, (Sq.rscan_c A n c l w hr (by omega)).mono fun e w' ⟨A1, c1, h0, h1, h2⟩ => ?_, (Cht.rscan_c A n c l w hr (by omega)).mono fun e w' ⟨A1, c1, h0, h1, h2⟩ => ?_, (Bun.rscan_c A n c l w hr (by omega)).mono fun e w' ⟨A1, c1, h0, h1, h2⟩ => ?_⟩
  · rw [scF_txt]
    exact ⟨A1, c1, by rw [List.length_map]; exact h0, by rw [List.length_map]; exact h1, h2⟩
  · rw [scF_csv]
    exact ⟨A1, c1, by rw [List.length_map]; exact h0, by rw [List.length_map]; exact h1, h2⟩
  · rw [scF_seq]
    exact ⟨A1, c1, h0, h1, h2⟩
  · rw [scF_cht]
    exact ⟨A1, c1, h0, h1, h2⟩
  · rw [scF_bun]
    exact ⟨A1, c1, h0, h1, h2⟩
theorem rfixed (k : Int) (A : Option Addr) (n c : Nat) (l : List UInt8) (w : World) (hr : Rb w w.heap.size A n c l) (hn : n ≤ 90000) (hk : 1 ≤ k) (hk2 : k ≤ 1000) :
    Calls Tryz.prog 35 #[.slice A n c, .int .i64 k] w (RetS w (scF 4 k l)) := by
  have e : ((k.toNat : Nat) : Int) = k := by omega
  have h := Fix.rscan_c A n c k.toNat l w hr (by omega) (by omega) (by omega)
  rw [e] at h
  refine h.mono fun e w' ⟨A1, c1, h0, h1, h2⟩ => ?_
  rw [scF_fix]
  exact ⟨A1, c1, by rw [List.length_map]; exact h0, by rw [List.length_map]; exact h1, h2⟩

set_option maxRecDepth 100000 in
set_option maxHeartbeats 1000000 in
theorem rscan_err (f k : Int) (A : Option Addr) (n c : Nat) (w : World) (h : (isF f k && decide (n ≤ 100000)) = false) :
    Calls Tryz.prog 9 #[flv f k A n c] w fun e w' => e = .returned (.tuple #[.slice none 0 0, .int .i64 0, .int .i64 1]) ∧ Below w.heap.size w w' := by
  obtain ⟨w0, hw0⟩ : ∃ w0, w0 = w.alloc (.cells #[.int .i64 f, .int .i64 k, .slice A n c] 32) := ⟨_, rfl⟩
  have b0 : Below w.heap.size w w0 := by rw [hw0]; exact (Below.refl _ _).alloc (Nat.le_refl _) _
  have x0 : Bx w0 w.heap.size (.int .i64 f) (.int .i64 k) (.slice A n c) := by rw [hw0]; exact Bx.made _ _ _ _ _
  have Hc := Lib.hid (rmay_c f k A n c false h.symm w0)
  have W0 := Lib.hid hw0
  obtain ⟨c0, c1, c2, -, -, -, -⟩ := x0
  unfold flv at Hc
  clear hw0 h
  go_enter Tryz.func9, Tryz.ntmps9
  go_wp2_with (rw [← W0.out])
  refine Hc.out.mono ?_
  rintro e w1 ⟨rfl, b1⟩
  go_wp2
  go_ret3
  exact ⟨rfl, b0.trans (b1.mono b0.size)⟩

set_option maxRecDepth 100000 in
set_option maxHeartbeats 4000000 in
theorem rscan_ok (f k : Int) (A : Option Addr) (n c : Nat) (l : List UInt8) (w : World) (hr : Rb w w.heap.size A n c l) (hn : n ≤ 90000) (hF : isF f k = true) :
    Calls Tryz.prog 9 #[flv f k A n c] w (RetS w (scF f k l)) := by
  obtain ⟨w0, hw0⟩ : ∃ w0, w0 = w.alloc (.cells #[.int .i64 f, .int .i64 k, .slice A n c] 32) := ⟨_, rfl⟩
  have b0 : Below w.heap.size w w0 := by rw [hw0]; exact (Below.refl _ _).alloc (Nat.le_refl _) _
  have z0 : w0.heap.size = w.heap.size + 1 := by rw [hw0]; simp
  have x0 : Bx w0 w.heap.size (.int .i64 f) (.int .i64 k) (.slice A n c) := by rw [hw0]; exact Bx.made _ _ _ _ _
  have Hc := Lib.hid (rmay_c f k A n c true (by rw [hF]; simp; omega) w0)
  have Hr := Lib.hid hr
  have W0 := Lib.hid hw0; have X0 := Lib.hid x0
  have hlt := x0.lt
  obtain ⟨c0, c1, c2, -, -, -, -⟩ := x0
  unfold flv at Hc
  clear hw0 hr
  go_enter Tryz.func9, Tryz.ntmps9
  go_wp2_with (rw [← W0.out])
  refine Hc.out.mono ?_
  rintro e w1 ⟨rfl, b1⟩
  have z1 := b1.size
  have bb := b0.trans (b1.mono (by omega))
  have hr1 := (Hr.out.below bb).more (B' := w1.heap.size) (by omega)
  obtain ⟨y0, y1, y2, -, -, -, -⟩ := X0.out.below b1 hlt
  have hfin : ∀ (w2 : World) (e : Ending), RetS w1 (scF f k l) e w2 → RetS w (scF f k l) e w2 := fun w2 e ⟨A1, c1, h0, h1, h2⟩ => ⟨A1, c1, h0, h1.keep (stays_weak fun b hb => ⟨by have := hb.1; omega, hb.2⟩), bb.trans (h2.mono (by omega))⟩
  obtain ⟨r0, r1, r2, r3, r5⟩ := rscans k A n c l w1 hr1 hn
  have r4 := rfixed k A n c l w1 hr1 hn
  have Hfin := Lib.hid hfin
  clear hfin c0 c1 c2 hr1
  unfold isF at hF
  by_cases h4 : f = 4
  · subst h4
    rw [if_pos rfl] at hF
    simp only [Bool.and_eq_true, decide_eq_true_eq] at hF
    have r4 := r4 hF.1 hF.2
    have R := Lib.hid r4
    clear r0 r1 r2 r3 r4 r5
    go_wp2_with fail
    refine R.out.mono ?_
    rintro e w2 h
    have h := Hfin.out w2 e h
    obtain ⟨A1, c1, rfl, h1, h2⟩ := h
    have H1 := Lib.hid h1
    clear h1
    go_wp2
    go_ret3
    exact ⟨A1, c1, rfl, H1.out, h2⟩
  · rw [if_neg h4] at hF
    unfold isU at hF
    simp only [Bool.and_eq_true, decide_eq_true_eq, beq_iff_eq] at hF
    obtain ⟨⟨⟨g1, g2⟩, g3⟩, rfl⟩ := hF
    have hc : f = 0 ∨ f = 1 ∨ f = 2 ∨ f = 3 ∨ f = 5 := by omega
    clear r4 g1 g2 g3 h4
    rcases hc with rfl | rfl | rfl | rfl | rfl
    · have R := Lib.hid r0
      clear r0 r1 r2 r3 r5
      go_wp2_with fail
      refine R.out.mono ?_
      rintro e w2 h
      have h := Hfin.out w2 e h
      obtain ⟨A1, c1, rfl, h1, h2⟩ := h
      have H1 := Lib.hid h1
      clear h1
      go_wp2
      go_ret3
      exact ⟨A1, c1, rfl, H1.out, h2⟩
    · have R := Lib.hid r1
      clear r0 r1 r2 r3 r5
      go_wp2_with fail
      refine R.out.mono ?_
      rintro e w2 h
      have h := Hfin.out w2 e h
      obtain ⟨A1, c1, rfl, h1, h2⟩ := h
      have H1 := Lib.hid h1
      clear h1
      go_wp2
      go_ret3
      exact ⟨A1, c1, rfl, H1.out, h2⟩
    · have R := Lib.hid r2
      clear r0 r1 r2 r3 r5
      go_wp2_with fail
      refine R.out.mono ?_
      rintro e w2 h
      have h := Hfin.out w2 e h
      obtain ⟨A1, c1, rfl, h1, h2⟩ := h
      have H1 := Lib.hid h1
      clear h1
      go_wp2
      go_ret3
      exact ⟨A1, c1, rfl, H1.out, h2⟩
    · have R := Lib.hid r3
      clear r0 r1 r2 r3 r5
      go_wp2_with fail
      refine R.out.mono ?_
      rintro e w2 h
      have h := Hfin.out w2 e h
      obtain ⟨A1, c1, rfl, h1, h2⟩ := h
      have H1 := Lib.hid h1
      clear h1
      go_wp2
      go_ret3
      exact ⟨A1, c1, rfl, H1.out, h2⟩
    · have R := Lib.hid r5
      clear r0 r1 r2 r3 r5
      go_wp2_with fail
      refine R.out.mono ?_
      rintro e w2 h
      have h := Hfin.out w2 e h
      obtain ⟨A1, c1, rfl, h1, h2⟩ := h
      have H1 := Lib.hid h1
      clear h1
      go_wp2
      go_ret3
      exact ⟨A1, c1, rfl, H1.out, h2⟩
end Go.Proofs.YtknmhdkomjjneaaGreatDoor.Pl

/-
  The document's aligned cuts (threshingref11.Align).
-/
namespace Go.Proofs.YtknmhdkomjjneaaGreatDoor.Pl
open Go.RowKit

set_option maxRecDepth 100000 in
set_option maxHeartbeats 2000000 in
theorem ralign_err (f k : Int) (A : Option Addr) (n c : Nat) (E : Option Addr) (m d : Nat) (L : List Int) (w : World) (hc : Rc 1 w w.heap.size E m d (ivs L)) (h : (isF f k && decide (n ≤ 100000)) = false ∨ ¬ IsC n L) :
    Calls Tryz.prog 14 #[flv f k A n c, .slice E m d] w fun e w' => e = .returned (.tuple #[.slice none 0 0, .int .i64 1]) ∧ Below w.heap.size w w' := by
  obtain ⟨w1, hw1⟩ : ∃ w1, w1 = w.alloc (.cells #[.int .i64 f, .int .i64 k, .slice A n c] 32) := ⟨_, rfl⟩
  have z1 : w1.heap.size = w.heap.size + 1 := by rw [hw1]; simp
  have b1 : Below w.heap.size w w1 := by rw [hw1]; exact (Below.refl _ _).alloc (Nat.le_refl _) _
  have x1 : Bx w1 w.heap.size (.int .i64 f) (.int .i64 k) (.slice A n c) := by rw [hw1]; exact Bx.made _ _ _ _ _
  obtain ⟨o, ho⟩ : ∃ o, o = (isF f k && decide (n ≤ 100000)) := ⟨_, rfl⟩
  have hm := rmay_c f k A n c o ho w1
  unfold flv at hm
  rw [← ho] at h
  have Hc := Lib.hid hm
  have W1 := Lib.hid hw1; have Hcu := Lib.hid hc; have H := Lib.hid h; have X1 := Lib.hid x1
  obtain ⟨c0, c1, c2, -, -, -, hlt⟩ := x1
  clear hw1 ho h hc hm
  go_enter Tryz.func14, Tryz.ntmps14
  go_wp2_with (rw [← W1.out])
  refine Hc.out.mono ?_
  rintro e w2 ⟨rfl, b2⟩
  have z2 := b2.size
  have bb := b1.trans (b2.mono (by omega))
  have x2 := X1.out.below b2 hlt
  clear c0 c1 c2
  cases o with
  | false =>
    go_wp2
    go_ret2
    exact ⟨rfl, bb⟩
  | true =>
    have hno := H.out.resolve_left (by simp)
    have Hac := Lib.hid (rcuts_c E m d n L w2 ((Hcu.out.below bb).more (by omega)) false (by simp [hno]))
    obtain ⟨c0, c1, c2, -, -, -, hlt2⟩ := x2
    clear hno
    go_wp2_with fail
    refine Hac.out.mono ?_
    rintro e w4 ⟨rfl, b4⟩
    have bb4 := bb.trans (b4.mono (by omega))
    clear c0 c1 c2
    go_wp2
    go_ret2
    exact ⟨rfl, bb4⟩

/-- Where the outer loop stands. -/
def AdRel (g n M : Nat) (w : World) (T : List Nat) (o i : Value) (wr : World) : Prop :=
  ∃ A c, ∃ r J : Nat, o = .slice A (r + 1) c ∧ i = .int .i64 (J : Int) ∧ 1 ≤ J ∧ J ≤ M + 1 ∧ ((T.take (J - 1)).foldl (pus n) [0]).length = r + 1 ∧ r + 1 ≤ J ∧ Oc 1 wr 3 g A (r + 1) c (ivs (ic ((T.take (J - 1)).foldl (pus n) [0]))) ∧ Below w.heap.size w wr
/-- Where the inner loop stands. -/
def AeRel (n N v : Nat) (w : World) (S : List Nat) (t i : Value) (wr : World) : Prop :=
  ∃ K : Nat, ∃ kz : Int, t = .int .i64 (nx (S.drop K) n v : Int) ∧ i = .int .i64 kz ∧ kz = (K : Int) - 1 ∧ K ≤ N ∧ Below w.heap.size w wr

set_option maxRecDepth 100000 in
set_option maxHeartbeats 4000000 in
theorem ralign_ok (f k : Int) (A : Option Addr) (n c : Nat) (l : List UInt8) (E : Option Addr) (m d : Nat) (C : List Nat) (w : World) (hr : Rb w w.heap.size A n c l) (hn : n ≤ 90000) (hc : Rc 1 w w.heap.size E m d (ivs (ic C))) (hC : Cu n C) (hF : isF f k = true) :
    Calls Tryz.prog 14 #[flv f k A n c, .slice E m d] w (RetIE w (alD ((scF f k l).1.map (·.1)) n C)) := by
  have hCl : C.length = m := by have := hc.len1; rw [ivs_length, ic_len] at this; exact this
  have hm1 := (cu_pos hC).1
  have hm2 := cu_len hC
  have hasc := asc_F hF l
  rw [hr.len] at hasc
  obtain ⟨P, hP⟩ : ∃ P, P = (scF f k l).1 := ⟨_, rfl⟩
  rw [← hP] at hasc ⊢
  obtain ⟨S, hS⟩ : ∃ S, S = P.map (·.1) := ⟨_, rfl⟩
  have hPl : P.length ≤ n := by
    rcases asc_len hasc with h | h
    · rw [List.length_map] at h; omega
    · have := congrArg List.length h; rw [List.length_map] at this; rw [this]; simp
  rw [← hS]
  obtain ⟨T, hT⟩ : ∃ T, T = (C.tail.dropLast).map (nx S n) := ⟨_, rfl⟩
  have hal : alD S n C = T.foldl (pus n) [0] ++ (if 0 < n then [n] else []) := by rw [hT]; rfl
  obtain ⟨M, hM⟩ : ∃ M, M = T.length := ⟨_, rfl⟩
  have hMm : M = m - 2 := by rw [hM, hT, List.length_map, List.length_dropLast, List.length_tail, hCl]; omega
  have hTj : ∀ (j v : Nat), j + 2 < m + 0 → C[j + 1]? = some v → T[j]? = some (nx S n v) := fun j v hj hv => by
    rw [hT, List.getElem?_map, List.getElem?_dropLast, List.length_tail, hCl, if_pos (by omega), List.getElem?_tail, hv]; rfl
  rw [hCl] at hm1 hm2
  have hM9 : M ≤ 90000 := by omega
  have hm9 : m ≤ 90001 := by omega
  rw [hal]
  obtain ⟨U, hU⟩ : ∃ U, U = (if 0 < n then [n] else []) := ⟨_, rfl⟩
  rw [← hU]
  have HU := Lib.hid hU
  clear hU
  obtain ⟨w1, hw1⟩ : ∃ w1, w1 = w.alloc (.cells #[.int .i64 f, .int .i64 k, .slice A n c] 32) := ⟨_, rfl⟩
  have z1 : w1.heap.size = w.heap.size + 1 := by rw [hw1]; simp
  have b1 : Below w.heap.size w w1 := by rw [hw1]; exact (Below.refl _ _).alloc (Nat.le_refl _) _
  have x1 : Bx w1 w.heap.size (.int .i64 f) (.int .i64 k) (.slice A n c) := by rw [hw1]; exact Bx.made _ _ _ _ _
  have hmay := rmay_c f k A n c true (by rw [hF]; simp; omega) w1
  unfold flv at hmay
  have Hc := Lib.hid hmay
  have W1 := Lib.hid hw1; have Hcu := Lib.hid hc; have X1 := Lib.hid x1; have Hr := Lib.hid hr; have HC := Lib.hid hC; have HCl := Lib.hid hCl; have HP := Lib.hid hP; have HS := Lib.hid hS; have HT := Lib.hid hT; have HM := Lib.hid hM; have HTj := Lib.hid hTj; have HF := Lib.hid hF
  obtain ⟨c0, c1, c2, -, -, -, hlt⟩ := x1
  clear hw1 hc hr hF hCl hC hP hS hT hasc hal hM hTj hmay
  go_enter Tryz.func14, Tryz.ntmps14
  go_wp2_with (rw [← W1.out])
  refine Hc.out.mono ?_
  rintro e w2 ⟨rfl, b2⟩
  have z2 := b2.size
  have bb2 := b1.trans (b2.mono (by omega))
  have x2 := X1.out.below b2 hlt
  have X2 := Lib.hid x2
  have Hac := Lib.hid (rcuts_c E m d n (ic C) w2 ((Hcu.out.below bb2).more (by omega)) true (by simp [cu_isC HC.out]))
  clear c0 c1 c2
  obtain ⟨c0, c1, c2, -, -, -, hlt2⟩ := x2
  go_wp2_with fail
  refine Hac.out.mono ?_
  rintro e w3 ⟨rfl, b3⟩
  have z3 := b3.size
  have bb3 := bb2.trans (b3.mono (by omega))
  have x3 := X2.out.below b3 hlt2
  have X3 := Lib.hid x3
  have hsc := rscan_ok f k A n c l w3 ((Hr.out.below bb3).more (by omega)) hn HF.out
  unfold flv at hsc
  unfold RetS at hsc
  rw [← HP.out] at hsc
  obtain ⟨N, hN⟩ : ∃ N, N = P.length := ⟨_, rfl⟩
  rw [← hN] at hsc hPl
  have Hsc := Lib.hid hsc; have HN := Lib.hid hN
  clear c0 c1 c2 hsc hN
  obtain ⟨c0, c1, c2, -, -, -, hlt3⟩ := x3
  go_wp2_with fail
  refine Hsc.out.mono ?_
  rintro e w4 ⟨A4, c4, rfl, hp4, b4⟩
  have z4 := b4.size
  have bb4 := bb3.trans (b4.mono (by omega))
  have X4 := Lib.hid (X3.out.below b4 hlt3)
  have hlt4 : w.heap.size < w4.heap.size := by omega
  have hp4 := PLS.keep hp4 (S' := (· < w4.heap.size)) (stays_weak fr_lt)
  have hlit := Oc.lit (z := 1) w4 3 #[.int .i64 0] 1 rfl (by simp [maxLen])
  have b5 : Below w4.heap.size w4 (w4.alloc (.cells #[.int .i64 0] 3)) := (Below.refl _ _).alloc (Nat.le_refl _) _
  have Hp4 := Lib.hid hp4; have Hlit := Lib.hid hlit; have B5 := Lib.hid b5; have BB4 := Lib.hid bb4
  clear hp4 hlit b5 b4 c0 c1 c2
  go_wp2
  go_loopw [9, 10, 11, 12] (fun o i _ _ wr => AdRel w4.heap.size n M w4 T o i wr) (fun _ i _ _ _ => M + 1 - (intOf i).toNat)
  case atStart => exact ⟨_, _, 0, 1, rfl, rfl, Nat.le_refl _, by omega, rfl, Nat.le_refl _, Hlit.out, B5.out⟩
  case round =>
    obtain ⟨A6, c6, r, J, rfl, rfl, hJ1, hJM, hfl, hrJ, hown, hbel⟩ := hrel
    rename World => wr
    have z6 := hbel.size
    have e4 : IntKind.i64.wrap ((J : Int) + 1) = (J : Int) + 1 := IntWalk.i64_in _ (by omega)
    obtain ⟨F, hFd⟩ : ∃ F, F = (T.take (J - 1)).foldl (pus n) [0] := ⟨_, rfl⟩
    rw [← hFd] at hfl hown
    obtain ⟨c0, c1, c2, -, -, -, -⟩ := X4.out.below hbel hlt4
    have Hown := Lib.hid hown; have Hfl := Lib.hid hfl; have HFd := Lib.hid hFd
    clear hown hfl hFd
    by_cases hlt5 : J + 1 < m
    · have d1 : decide ((J : Int) + 1 < (m : Int)) = true := by simp; omega
      obtain ⟨eb, eo, x, rfl, heb, hcx, hx⟩ := ((Hcu.out.below (BB4.out.trans (hbel.mono (by omega))))).int (k := J) (by omega)
      obtain ⟨v, hv, rfl⟩ := ic_inv hx
      have hTv := HTj.out (J - 1) v (by omega) (by rw [show J - 1 + 1 = J by omega]; exact hv)
      obtain ⟨y, hy⟩ : ∃ y, y = nx S n v := ⟨_, rfl⟩
      rw [← hy] at hTv
      have hnxt : (T.take (J + 1 - 1)).foldl (pus n) [0] = pus n F y := by
        rw [show J + 1 - 1 = (J - 1) + 1 by omega, List.take_add_one, hTv, List.foldl_append, ← HFd.out]; rfl
      have q1 : IntKind.i64.wrap ((N : Int) - 1) = (N : Int) - 1 := IntWalk.i64_in _ (by omega)
      have hebl : eb < wr.heap.size := by omega
      have Hy := Lib.hid hy; have Hnxt := Lib.hid hnxt; have Hcx := Lib.hid hcx
      have Hc2 := Lib.hid c2
      clear hx hv hTv hnxt hy hcx c0 c1
      go_wp2
      go_loopw [11, 12] (fun t i wq => AeRel n N v wr S t i wq) (fun _ i _ => (intOf i + 1).toNat)
      case atStart => exact ⟨N, _, by rw [List.drop_of_length_le (by rw [HS.out, List.length_map, HN.out]; exact Nat.le_refl _), nx_nil], rfl, by first | rfl | exact q1, Nat.le_refl _, Below.refl _ _⟩
      case round =>
        obtain ⟨K, kz, rfl, rfl, hkz, hKN, hbel2⟩ := hrel
        rename World => wq
        have hcx := (hbel2.cell (p := ⟨eb, eo + J, none⟩) hebl).trans Hcx.out
        have zq := hbel2.size
        by_cases hK : K = 0
        · subst hK
          have d2 : decide ((0 : Int) ≤ kz) = false := by simp; omega
          clear hkz
          rw [List.drop_zero, ← Hy.out]
          have c2q := (hbel2.cell (p := ⟨w.heap.size, 2, none⟩) (by show w.heap.size < _; omega)).trans Hc2.out
          have bq := hbel.trans (hbel2.mono z6)
          have hownq := Hown.out.keep hbel2
          obtain ⟨ob_, oo, zz, rfl, hob, hco, hzz⟩ := (hownq.rcS.keep (stays_weak fr_lt)).rc.at_ (k := r) (by omega)
          have hlast : ∃ z : Nat, zz = .int .i64 (z : Int) ∧ F.getLast?.getD 0 = z := by
            have h1 : r < F.length := by rw [Hfl.out]; omega
            refine ⟨F[r], ?_, ?_⟩
            · have := ic_get (List.getElem?_eq_getElem h1)
              unfold ivs at hzz
              rw [List.getElem?_map, this] at hzz
              injection hzz with hzz
              exact hzz.symm
            · rw [List.getLast?_eq_getElem?, Hfl.out, show r + 1 - 1 = r by omega, List.getElem?_eq_getElem h1]; rfl
          obtain ⟨z, rfl, hz⟩ := hlast
          have e6 : IntKind.i64.wrap (((r + 1 : Nat) : Int) - 1) = (r : Int) := by rw [IntWalk.i64_in _ (by omega)]; omega
          have e6' : ((r + 1 : Nat) : Int) - 1 = (r : Int) := by omega
          have e7 : IntKind.i64.wrap (r : Int) = (r : Int) := IntWalk.i64_in _ (by omega)
          have Hz := Lib.hid hz; have Hownq := Lib.hid hownq
          clear hz hownq hzz hcx
          by_cases hyn : y < n
          · have d5 : decide ((y : Int) < (n : Int)) = true := by simp; omega
            by_cases hzy : z < y
            · have d6 : decide ((z : Int) < (y : Int)) = true := by simp; omega
              obtain ⟨w8, h8⟩ : ∃ w8, w8 = wq.alloc (.cells #[.int .i64 (y : Int)] 3) := ⟨_, rfl⟩
              have b8 : Below wq.heap.size wq w8 := by rw [h8]; exact (Below.refl _ _).alloc (Nat.le_refl _) _
              have hlit : Rc 1 w8 (wq.heap.size + 1) (some ⟨wq.heap.size, 0, none⟩) 1 1 [.int .i64 (y : Int)] := by rw [h8]; exact Rc.lit (z := 1) wq _ #[.int .i64 (y : Int)] 1 rfl (by simp [maxLen])
              have hown8 := Hownq.out.keep b8
              have bw8 := bq.trans (b8.mono (by omega))
              have z8 := b8.size
              have hpus : ivs (ic (pus n F y)) = ivs (ic F) ++ [.int .i64 (y : Int)] := by rw [← ivs_snoc]; unfold pus; rw [if_pos ⟨hyn, by rw [Hz.out]; exact hzy⟩]
              have hpl : (pus n F y).length = (r + 1) + 1 := by unfold pus; rw [if_pos ⟨hyn, by rw [Hz.out]; exact hzy⟩, List.length_append, Hfl.out]; rfl
              have H8 := Lib.hid h8; have Hlit8 := Lib.hid hlit; have Hown8 := Lib.hid hown8; have Hpus := Lib.hid hpus; have Hpl := Lib.hid hpl
              clear h8 hlit hown8 b8 hpus hpl
              go_wp2_with (at_builtin; rw [← H8.out]; go_must (refine Sl.wpAppAt ity rfl (.tmp 78) (.tmp 80) rfl (n := r + 1) (m := 1) (N := r + 1 + 1) (ws := ivs (ic F) ++ [.int .i64 (y : Int)]) rfl rfl Hown8.out Hlit8.out ?hs1 rfl rfl ?hs4 ?hs5 ?hs6 ?_))
              case hs1 => simp [Value.oneCell']
              case hs4 => omega
              case hs5 => omega
              case hs6 => omega
              intro A9 c9 w9 hown9 hg9
              have bw9 := bw8.trans (hg9.belowC Hown8.out (by omega))
              rw [← Hpus.out] at hown9
              have Hown9 := Lib.hid hown9
              clear hown9 hg9 hco c2q c2
              go_wp2
              go_roundw
              case rel => exact ⟨A9, c9, r + 1, J + 1, rfl, by go_num, by omega, by omega, by rw [Hnxt.out]; exact Hpl.out, by omega, by rw [Hnxt.out]; exact Hown9.out, bw9⟩
              case measure => simp [intOf]; omega
            · have d6 : decide ((z : Int) < (y : Int)) = false := by simp; omega
              have hpus : pus n F y = F := by unfold pus; rw [if_neg fun q => hzy (by rw [← Hz.out]; exact q.2)]
              have Hpus := Lib.hid hpus
              clear hpus
              go_wp2
              go_roundw
              case rel => exact ⟨_, c6, r, J + 1, rfl, by go_num, by omega, by omega, by rw [Hnxt.out, Hpus.out]; exact Hfl.out, by omega, by rw [Hnxt.out, Hpus.out]; exact Hownq.out, bq⟩
              case measure => simp [intOf]; omega
          · have d5 : decide ((y : Int) < (n : Int)) = false := by simp; omega
            have hpus : pus n F y = F := by unfold pus; rw [if_neg fun q => hyn q.1]
            have Hpus := Lib.hid hpus
            clear hpus
            go_wp2
            go_roundw
            case rel => exact ⟨_, c6, r, J + 1, rfl, by go_num, by omega, by omega, by rw [Hnxt.out, Hpus.out]; exact Hfl.out, by omega, by rw [Hnxt.out, Hpus.out]; exact Hownq.out, bq⟩
            case measure => simp [intOf]; omega
        · obtain ⟨K', rfl⟩ : ∃ K', K = K' + 1 := ⟨K - 1, by omega⟩
          have ek : kz = (K' : Int) := by omega
          subst ek
          have d2 : decide ((0 : Int) ≤ (K' : Int)) = true := by simp
          have hpq := PLS.keep Hp4.out (stays_below (hbel.trans (hbel2.mono z6)) (Nat.le_refl _))
          obtain ⟨pb, po, p, D, pm, pd, rfl, hpb, hc1, -, hp, -⟩ := hpq.at_ (k := K') (by omega)
          have hSt : S.drop K' = p.1 :: S.drop (K' + 1) := by
            have h1 : S[K']? = some p.1 := by rw [HS.out, List.getElem?_map, hp]; rfl
            obtain ⟨h2, h3⟩ := List.getElem?_eq_some_iff.1 h1
            rw [List.drop_eq_getElem_cons h2, h3]
          obtain ⟨pv, hpv⟩ : ∃ a, a = p.1 := ⟨_, rfl⟩
          rw [← hpv] at hc1 hSt
          obtain ⟨Y, hY⟩ : ∃ Y, Y = nx (S.drop (K' + 1)) n v := ⟨_, rfl⟩
          rw [← hY]
          have e8 : IntKind.i64.wrap ((K' : Int) - 1) = (K' : Int) - 1 := IntWalk.i64_in _ (by omega)
          have HSt := Lib.hid hSt; have HY := Lib.hid hY
          clear hpq hp hSt hpv hY c2 hkz
          by_cases hpx : v ≤ pv
          · have d7 : decide ((v : Int) ≤ (pv : Int)) = true := by simp; omega
            have hnx : nx (S.drop K') n v = pv := by rw [HSt.out]; exact nx_yes _ _ hpx
            have Hnx := Lib.hid hnx
            clear hnx
            go_wp2_with fail
            go_quiet (fail)
            go_wp2
            go_roundw
            case rel => exact ⟨K', _, by rw [Hnx.out], rfl, by first | rfl | exact e8 | omega, by omega, below_drewN hbel2 _⟩
            case measure => simp [intOf]
          · have d7 : decide ((v : Int) ≤ (pv : Int)) = false := by simp; omega
            have hnx : nx (S.drop K') n v = Y := by rw [HSt.out, HY.out]; exact nx_no _ _ hpx
            have Hnx := Lib.hid hnx
            clear hnx
            go_wp2_with fail
            go_quiet (fail)
            go_wp2
            go_roundw
            case rel => exact ⟨K', _, by rw [Hnx.out], rfl, by first | rfl | exact e8 | omega, by omega, below_drewN hbel2 _⟩
            case measure => simp [intOf]
    · have d1 : decide ((J : Int) + 1 < (m : Int)) = false := by simp; omega
      have hFT : F = T.foldl (pus n) [0] := by rw [HFd.out, List.take_of_length_le (by rw [← HM.out]; omega)]
      have bw := BB4.out.trans (hbel.mono (by omega))
      by_cases hn0 : 0 < n
      · have d5 : decide ((0 : Int) < (n : Int)) = true := by simp; omega
        obtain ⟨w8, h8⟩ : ∃ w8, w8 = wr.alloc (.cells #[.int .i64 (n : Int)] 3) := ⟨_, rfl⟩
        have b8 : Below wr.heap.size wr w8 := by rw [h8]; exact (Below.refl _ _).alloc (Nat.le_refl _) _
        have hlit : Rc 1 w8 (wr.heap.size + 1) (some ⟨wr.heap.size, 0, none⟩) 1 1 [.int .i64 (n : Int)] := by rw [h8]; exact Rc.lit (z := 1) wr _ #[.int .i64 (n : Int)] 1 rfl (by simp [maxLen])
        have hown8 := Hown.out.keep b8
        have bw8 := bw.trans (b8.mono (by omega))
        have z8 := b8.size
        have hpus : ivs (ic (T.foldl (pus n) [0] ++ [n])) = ivs (ic F) ++ [.int .i64 (n : Int)] := by rw [ivs_snoc, hFT]
        have hpl : (T.foldl (pus n) [0] ++ [n]).length = (r + 1) + 1 := by rw [List.length_append, ← hFT, Hfl.out]; rfl
        have H8 := Lib.hid h8; have Hlit8 := Lib.hid hlit; have Hown8 := Lib.hid hown8; have Hpus := Lib.hid hpus; have Hpl := Lib.hid hpl
        have hU := HU.out
        rw [if_pos hn0] at hU
        subst hU
        clear h8 hlit hown8 b8 hpus hpl hFT
        go_wp2_with (at_builtin; rw [← H8.out]; go_must (refine Sl.wpAppAt ity rfl (.tmp 86) (.tmp 90) rfl (n := r + 1) (m := 1) (N := r + 1 + 1) (ws := ivs (ic F) ++ [.int .i64 (n : Int)]) rfl rfl Hown8.out Hlit8.out ?ht1 rfl rfl ?ht4 ?ht5 ?ht6 ?_))
        case ht1 => simp [Value.oneCell']
        case ht4 => omega
        case ht5 => omega
        case ht6 => omega
        intro A9 c9 w9 hown9 hg9
        have hb9 := hg9.belowC Hown8.out (by omega)
        have bw9 := bw8.trans (hb9.mono (by omega))
        rw [← Hpus.out] at hown9
        have Hown9 := Lib.hid (hown9.mono (show w.heap.size ≤ w4.heap.size by omega))
        clear hown9 hg9 hb9 c0 c1 c2
        go_wp2
        go_ret2
        exact ⟨A9, c9, by rw [Hpl.out]; rfl, by rw [Hpl.out]; exact Hown9.out, bw9⟩
      · have d5 : decide ((0 : Int) < (n : Int)) = false := by simp; omega
        have Hown2 := Lib.hid (Hown.out.mono (show w.heap.size ≤ w4.heap.size by omega))
        have hU := HU.out
        rw [if_neg hn0] at hU
        subst hU
        have hFU : T.foldl (pus n) [0] ++ [] = F := by rw [List.append_nil, ← hFT]
        have HFU := Lib.hid hFU
        clear hFT hFU
        go_wp2
        go_ret2
        exact ⟨A6, c6, by rw [HFU.out, Hfl.out]; rfl, by rw [HFU.out, Hfl.out]; exact Hown2.out, bw⟩
end Go.Proofs.YtknmhdkomjjneaaGreatDoor.Pl

/-
  plan: may a file be so, the same plan; a plan as the document's.
-/

namespace Go.Proofs.YtknmhdkomjjneaaGreatDoor.Pl
open Go.RowKit

set_option maxRecDepth 100000 in
set_option maxHeartbeats 1000000 in
theorem may_c (f k : Int) (A : Option Addr) (n c : Nat) (o : Bool) (ho : o = (isF f k && decide (n ≤ 100000))) (hn : n ≤ 9223372036854775807) (w : World) :
    Calls Tryz.prog 15 #[flv f k A n c] w fun e w' => e = .returned (.bool o) ∧ Below w.heap.size w w' := by
  obtain ⟨w1, hw1⟩ : ∃ w1, w1 = w.alloc (.cells #[.int .i64 f, .int .i64 k, .slice A n c] 24) := ⟨_, rfl⟩
  have z1 : w1.heap.size = w.heap.size + 1 := by rw [hw1]; simp
  have b1 : Below w.heap.size w w1 := by rw [hw1]; exact (Below.refl _ _).alloc (Nat.le_refl _) _
  have x1 : Bx w1 w.heap.size (.int .i64 f) (.int .i64 k) (.slice A n c) := by rw [hw1]; exact Bx.made _ _ _ _ _
  have Hc := Lib.hid (functionsOf_c f k A n c o ho hn w1)
  have W1 := Lib.hid hw1
  obtain ⟨c0, c1, c2, -, -, -, -⟩ := x1
  clear hw1 ho
  go_enter Tryz.func15, Tryz.ntmps15
  go_wp2_with (rw [← W1.out])
  refine Hc.out.mono ?_
  rintro e w2 ⟨s, r, i, rfl, -, hfv, b2⟩
  have z2 := b2.size
  have bb := b1.trans (b2.mono (by omega))
  clear c0 c1 c2
  rcases hfv with ⟨a, b, c', ca, cb, cc, rfl, rfl, rfl⟩ | ⟨rfl, rfl, rfl⟩
  all_goals
    go_wp2
    go_ret
    exact ⟨rfl, bb.alloc (by have := bb.size; omega) _⟩

def EqRel (m : Nat) (w : World) (t : Value) (wr : World) : Prop := ∃ j : Nat, t = .int .i64 (j : Int) ∧ j ≤ m ∧ Below w.heap.size w wr

set_option maxRecDepth 100000 in
set_option maxHeartbeats 1000000 in
theorem eqi_c (A : Option Addr) (m c : Nat) (L : List Int) (w : World) (hr : Rc 1 w w.heap.size A m c (ivs L)) (hm : m ≤ 9000000) :
    Calls Tryz.prog 45 #[.slice A m c, .slice A m c] w fun e w' => e = .returned (.bool true) ∧ Below w.heap.size w w' := by
  have Hr := Lib.hid hr
  clear hr
  go_enter Tryz.func45, Tryz.ntmps45
  go_wp2
  go_loopw [5, 13] (fun _ t wr => EqRel m w t wr) (fun _ t _ => m - (intOf t).toNat)
  case atStart => exact ⟨0, rfl, Nat.zero_le _, Below.refl _ _⟩
  case round =>
    obtain ⟨j, rfl, hj, hbel⟩ := hrel
    rename World => wr
    by_cases hlt : j < m
    · obtain ⟨b, o, x, rfl, hb, hcx, hx⟩ := (Hr.out.below hbel).int (k := j) hlt
      clear hx
      go_wp2_with fail
      go_quiet (fail)
      go_wp2
      go_roundw
      case rel => exact ⟨j + 1, by go_num, by omega, below_drewN hbel _⟩
      case measure => simp [intOf]; omega
    · go_wp2
      go_ret
      exact ⟨rfl, hbel⟩

set_option maxRecDepth 100000 in
set_option maxHeartbeats 1000000 in
theorem eqb_c (A : Option Addr) (m c : Nat) (L : List Bool) (w : World) (hr : Rc 1 w w.heap.size A m c (lvb L)) (hm : m ≤ 9000000) :
    Calls Tryz.prog 46 #[.slice A m c, .slice A m c] w fun e w' => e = .returned (.bool true) ∧ Below w.heap.size w w' := by
  have Hr := Lib.hid hr
  clear hr
  go_enter Tryz.func46, Tryz.ntmps46
  go_wp2
  go_loopw [5, 13] (fun _ t wr => EqRel m w t wr) (fun _ t _ => m - (intOf t).toNat)
  case atStart => exact ⟨0, rfl, Nat.zero_le _, Below.refl _ _⟩
  case round =>
    obtain ⟨j, rfl, hj, hbel⟩ := hrel
    rename World => wr
    by_cases hlt : j < m
    · obtain ⟨b, o, x, rfl, hb, hcx, hx⟩ := (Hr.out.below hbel).at_ (k := j) hlt
      obtain ⟨q, rfl⟩ : ∃ q, x = .bool q := by
        unfold lvb at hx
        rw [List.getElem?_map] at hx
        obtain ⟨a, -, ha⟩ := Option.map_eq_some_iff.1 hx
        exact ⟨a, ha.symm⟩
      clear hx
      cases q
      all_goals
        go_wp2_with fail
        go_quiet (fail)
        go_wp2
        go_roundw
        case rel => exact ⟨j + 1, by go_num, by omega, below_drewN hbel _⟩
        case measure => simp [intOf]; omega
    · go_wp2
      go_ret
      exact ⟨rfl, hbel⟩

set_option maxRecDepth 100000 in
set_option maxHeartbeats 1000000 in
/-- A plan is the same as itself. -/
theorem same_c (A D : Option Addr) (m c k d : Nat) (g : Int) (L : List Int) (I : List Bool) (w : World) (hr : Rc 1 w w.heap.size A m c (ivs L)) (hi : Rc 1 w w.heap.size D k d (lvb I)) (hm : m ≤ 9000000) (hk : k ≤ 9000000) :
    Calls Tryz.prog 21 #[.agg #[.slice A m c, .slice D k d, .int .i64 g], .agg #[.slice A m c, .slice D k d, .int .i64 g]] w fun e w' => e = .returned (.bool true) ∧ Below w.heap.size w w' := by
  obtain ⟨w1, hw1⟩ : ∃ w1, w1 = w.alloc (.cells #[.slice A m c, .slice D k d, .int .i64 g] 36) := ⟨_, rfl⟩
  have z1 : w1.heap.size = w.heap.size + 1 := by rw [hw1]; simp
  have b1 : Below w.heap.size w w1 := by rw [hw1]; exact (Below.refl _ _).alloc (Nat.le_refl _) _
  have x1 : Bx w1 w.heap.size (.slice A m c) (.slice D k d) (.int .i64 g) := by rw [hw1]; exact Bx.made _ _ _ _ _
  obtain ⟨w2, hw2⟩ : ∃ w2, w2 = w1.alloc (.cells #[.slice A m c, .slice D k d, .int .i64 g] 36) := ⟨_, rfl⟩
  have z2 : w2.heap.size = w.heap.size + 2 := by rw [hw2]; simp [z1]
  have b12 : Below w1.heap.size w1 w2 := by rw [hw2]; exact (Below.refl _ _).alloc (Nat.le_refl _) _
  have x2 : Bx w2 w1.heap.size (.slice A m c) (.slice D k d) (.int .i64 g) := by rw [hw2]; exact Bx.made _ _ _ _ _
  rw [z1] at x2
  have y1 := x1.below b12 x1.lt
  have bb := b1.trans (b12.mono (by omega))
  have he := eqi_c A m c L w2 ((hr.below bb).more (by omega)) hm
  have Hr := Lib.hid hr; have Hi := Lib.hid hi; have W1 := Lib.hid hw1; have W2 := Lib.hid hw2; have He := Lib.hid he; have Y1 := Lib.hid y1; have X2 := Lib.hid x2; have Z1 := Lib.hid z1
  have hl2 := x2.lt
  have hl1 := y1.lt
  obtain ⟨c0, c1, c2, -, -, -, -⟩ := y1
  obtain ⟨d0, d1, d2, -, -, -, -⟩ := x2
  clear hw1 hw2 b1 b12 x1 he hr hi z1
  go_enter Tryz.func21, Tryz.ntmps21
  go_wp2_with (first | rw [← W1.out, ← W2.out, Z1.out] | rw [← W1.out, ← W2.out])
  refine He.out.mono ?_
  rintro e w3 ⟨rfl, b3⟩
  have z3 := b3.size
  have b3' := bb.trans (b3.mono (by omega))
  have he := eqb_c D k d I w3 ((Hi.out.below b3').more (by omega)) hk
  have He2 := Lib.hid he
  clear he c0 c1 c2 d0 d1 d2
  obtain ⟨c0, c1, c2, -, -, -, -⟩ := Y1.out.below b3 hl1
  obtain ⟨d0, d1, d2, -, -, -, -⟩ := X2.out.below b3 hl2
  go_wp2_with fail
  refine He2.out.mono ?_
  rintro e w4 ⟨rfl, b4⟩
  clear c0 c1 c2 d0 d1 d2
  go_wp2
  go_ret
  exact ⟨rfl, b3'.trans (b4.mono (by omega))⟩
end Go.Proofs.YtknmhdkomjjneaaGreatDoor.Pl

/-
  plan: a plan as the document's, the document's Same, its Make of cuts that may not be.
-/

namespace Go.Proofs.YtknmhdkomjjneaaGreatDoor.Pl
open Go.RowKit

set_option maxRecDepth 100000 in
theorem of_c (A D : Option Addr) (m c k d : Nat) (g : Int) (w : World) : Calls Tryz.prog 19 #[.agg #[.slice A m c, .slice D k d, .int .i64 g]] w fun e w' => e = .returned (.agg #[.slice A m c, .slice D k d, .int .i64 g]) ∧ Below w.heap.size w w' := by
  go_enter Tryz.func19, Tryz.ntmps19
  go_wp2
  refine bodyPost_ret (v := .agg #[.slice A m c, .slice D k d, .int .i64 g]) ?_ rfl ⟨rfl, ((Below.refl _ _).alloc (Nat.le_refl _) _).alloc (by simp) _⟩
  simp [results, Tryz.results19, go_sem]

set_option maxRecDepth 100000 in
set_option maxHeartbeats 1000000 in
/-- Two plans that say the same are the same. -/
theorem rsame_c (A D A' D' : Option Addr) (m c k d c' d' : Nat) (g : Int) (L : List Int) (I : List Bool) (w : World) (hr : Rc 1 w w.heap.size A m c (ivs L)) (hi : Rc 1 w w.heap.size D k d (lvb I)) (hr' : Rc 1 w w.heap.size A' m c' (ivs L)) (hi' : Rc 1 w w.heap.size D' k d' (lvb I)) (hk : k ≤ 9000000) :
    Calls Tryz.prog 18 #[.agg #[.slice A m c, .slice D k d, .int .i64 g], .agg #[.slice A' m c', .slice D' k d', .int .i64 g]] w fun e w' => e = .returned (.bool true) ∧ Below w.heap.size w w' := by
  obtain ⟨w1, hw1⟩ : ∃ w1, w1 = w.alloc (.cells #[.slice A m c, .slice D k d, .int .i64 g] 39) := ⟨_, rfl⟩
  have z1 : w1.heap.size = w.heap.size + 1 := by rw [hw1]; simp
  have b1 : Below w.heap.size w w1 := by rw [hw1]; exact (Below.refl _ _).alloc (Nat.le_refl _) _
  have x1 : Bx w1 w.heap.size (.slice A m c) (.slice D k d) (.int .i64 g) := by rw [hw1]; exact Bx.made _ _ _ _ _
  obtain ⟨w2, hw2⟩ : ∃ w2, w2 = w1.alloc (.cells #[.slice A' m c', .slice D' k d', .int .i64 g] 39) := ⟨_, rfl⟩
  have z2 : w2.heap.size = w.heap.size + 2 := by rw [hw2]; simp [z1]
  have b12 : Below w1.heap.size w1 w2 := by rw [hw2]; exact (Below.refl _ _).alloc (Nat.le_refl _) _
  have x2 : Bx w2 w1.heap.size (.slice A' m c') (.slice D' k d') (.int .i64 g) := by rw [hw2]; exact Bx.made _ _ _ _ _
  rw [z1] at x2
  have y1 := x1.below b12 x1.lt
  have bb := b1.trans (b12.mono (by omega))
  have he := ints_c A A' m c m c' L L w2 ((hr.below bb).more (by omega)) ((hr'.below bb).more (by omega)) true (by simp)
  have Hi := Lib.hid hi; have Hi' := Lib.hid hi'; have W1 := Lib.hid hw1; have W2 := Lib.hid hw2; have He := Lib.hid he; have Y1 := Lib.hid y1; have X2 := Lib.hid x2; have Z1 := Lib.hid z1
  have hl2 := x2.lt
  have hl1 := y1.lt
  obtain ⟨c0, c1, c2, -, -, -, -⟩ := y1
  obtain ⟨d0, d1, d2, -, -, -, -⟩ := x2
  clear hw1 hw2 b1 b12 x1 he hr hi z1 hr' hi'
  go_enter Tryz.func18, Tryz.ntmps18
  go_wp2_with (first | rw [← W1.out, ← W2.out, Z1.out] | rw [← W1.out, ← W2.out])
  refine He.out.mono ?_
  rintro e w3 ⟨rfl, b3⟩
  have z3 := b3.size
  have b3' := bb.trans (b3.mono (by omega))
  have Y3 := Lib.hid (Y1.out.below b3 hl1); have X3 := Lib.hid (X2.out.below b3 hl2)
  have hi3 := (Hi.out.below b3').more (B' := w3.heap.size) (by omega); have hi3' := (Hi'.out.below b3').more (B' := w3.heap.size) (by omega)
  have I3 := Lib.hid hi3; have I3' := Lib.hid hi3'
  have hl3 : w.heap.size < w3.heap.size := by omega
  have hl4 : w.heap.size + 1 < w3.heap.size := by omega
  clear c0 c1 c2 d0 d1 d2 hi3 hi3'
  obtain ⟨c0, c1, c2, -, -, -, -⟩ := Y3.out
  obtain ⟨d0, d1, d2, -, -, -, -⟩ := X3.out
  go_wp2
  go_loopw [5] (fun t wr => EqRel k w3 t wr) (fun t _ => k - (intOf t).toNat)
  case atStart => exact ⟨0, rfl, Nat.zero_le _, Below.refl _ _⟩
  case round =>
    obtain ⟨j, rfl, hj, hbel⟩ := hrel
    rename World => wr
    clear c0 c1 c2 d0 d1 d2
    obtain ⟨c0, c1, c2, -, -, -, -⟩ := Y3.out.below hbel hl3
    obtain ⟨d0, d1, d2, -, -, -, -⟩ := X3.out.below hbel hl4
    by_cases hlt : j < k
    · obtain ⟨b, o, x, rfl, hb, hcx, hx⟩ := (I3.out.below hbel).at_ (k := j) hlt
      obtain ⟨b', o', x', rfl, hb', hcx', hx'⟩ := (I3'.out.below hbel).at_ (k := j) hlt
      obtain rfl : x = x' := Option.some.inj (hx.symm.trans hx')
      obtain ⟨q, rfl⟩ : ∃ q, x = .bool q := by
        unfold lvb at hx
        rw [List.getElem?_map] at hx
        obtain ⟨a, -, ha⟩ := Option.map_eq_some_iff.1 hx
        exact ⟨a, ha.symm⟩
      clear hx hx'
      cases q
      all_goals
        go_wp2_with fail
        go_quiet (fail)
        go_wp2
        go_roundw
        case rel => exact ⟨j + 1, by go_num, by omega, below_drewN hbel _⟩
        case measure => simp [intOf]; omega
    · go_wp2
      go_ret
      exact ⟨rfl, b3'.trans (hbel.mono (by omega))⟩

set_option maxRecDepth 100000 in
set_option maxHeartbeats 2000000 in
theorem rmake_err (f k : Int) (A : Option Addr) (n c : Nat) (E : Option Addr) (m d : Nat) (L : List Int) (w : World) (hc : Rc 1 w w.heap.size E m d (ivs L)) (h : (isF f k && decide (n ≤ 100000)) = false ∨ ¬ IsC n L) :
    Calls Tryz.prog 12 #[flv f k A n c, .slice E m d] w fun e w' => e = .returned (.tuple #[pv0, .int .i64 1]) ∧ Below w.heap.size w w' := by
  obtain ⟨w0, hw0⟩ : ∃ w0, w0 = w.alloc (.cells #[.int .i64 f, .int .i64 k, .slice A n c] 32) := ⟨_, rfl⟩
  have z0 : w0.heap.size = w.heap.size + 1 := by rw [hw0]; simp
  have b0 : Below w.heap.size w w0 := by rw [hw0]; exact (Below.refl _ _).alloc (Nat.le_refl _) _
  have x0 : Bx w0 w.heap.size (.int .i64 f) (.int .i64 k) (.slice A n c) := by rw [hw0]; exact Bx.made _ _ _ _ _
  obtain ⟨w1, hw1⟩ : ∃ w1, w1 = w0.alloc (.cells #[.slice none 0 0, .slice none 0 0, .int .i64 0] 39) := ⟨_, rfl⟩
  have z1 : w1.heap.size = w.heap.size + 2 := by rw [hw1]; simp [z0]
  have b01 : Below w0.heap.size w0 w1 := by rw [hw1]; exact (Below.refl _ _).alloc (Nat.le_refl _) _
  have x1 := x0.below b01 (by omega)
  have y1 : Bx w1 w0.heap.size (.slice none 0 0) (.slice none 0 0) (.int .i64 0) := by rw [hw1]; exact Bx.made _ _ _ _ _
  rw [z0] at y1
  have b1 := b0.trans (b01.mono (by omega))
  obtain ⟨o, ho⟩ : ∃ o, o = (isF f k && decide (n ≤ 100000)) := ⟨_, rfl⟩
  have hm := rmay_c f k A n c o ho w1
  unfold flv at hm
  have Hc := Lib.hid hm
  rw [← ho] at h
  have fin : ∀ (K : Act) (W : World), Bx W (w.heap.size + 1) (.slice none 0 0) (.slice none 0 0) (.int .i64 0) → Below w.heap.size w W → K.tmps[4]? = some (.pointer (some ⟨w.heap.size + 1, 0, none⟩)) → K.tmps[5]? = some (.int .i64 1) → K.defers = [] →
      bodyPost Tryz.prog Tryz.f12 (fun e w' => e = .returned (.tuple #[pv0, .int .i64 1]) ∧ Below w.heap.size w w') Exit.ret K W := by
    intro K W hx hb h4 h5 hd
    obtain ⟨y0, y1, y2, -, -, -, -⟩ := hx
    refine bodyPost_ret (v := .tuple #[pv0, .int .i64 1]) ?_ hd ⟨rfl, hb⟩
    simp [results, Tryz.results12, go_sem, y0, y1, y2, h4, h5, pv0]
  have W0 := Lib.hid hw0; have W1 := Lib.hid hw1; have Hcu := Lib.hid hc; have H := Lib.hid h; have X1 := Lib.hid x1; have Z0 := Lib.hid z0; have Fin := Lib.hid fin; have Y1 := Lib.hid y1
  obtain ⟨c0, c1, c2, -, -, -, hlt⟩ := x1
  have hly := y1.lt
  clear hw0 hw1 ho b0 x0 b01 h hc z0 fin hm y1
  go_enter Tryz.func12, Tryz.ntmps12
  go_wp2_with (rw [← W0.out, ← W1.out])
  refine Hc.out.mono ?_
  rintro e w2 ⟨rfl, b2⟩
  have z2 := b2.size
  have bb := b1.trans (b2.mono (by omega))
  have X2 := Lib.hid (X1.out.below b2 hlt)
  have Y2 := Lib.hid (Y1.out.below b2 hly)
  clear c0 c1 c2
  cases o with
  | false =>
    have y3 := put3_box Y2.out (.slice none 0 0) (.slice none 0 0) (.int .i64 0)
    have b3 := bb.trans ((put3_below w2 (w.heap.size + 1) (.slice none 0 0) (.slice none 0 0) (.int .i64 0)).mono (by omega))
    have Y3 := Lib.hid y3; have B3 := Lib.hid b3
    obtain ⟨o0, o1, o2, q0, q1, q2, -⟩ := Y2.out
    clear y3 b3
    go_wp2
    exact Fin.out _ _ Y3.out B3.out rfl rfl rfl
  | true =>
    have hno := H.out.resolve_left (by simp)
    have Hac := Lib.hid (rcuts_c E m d n L w2 ((Hcu.out.below bb).more (by omega)) false (by simp [hno]))
    have hl2 : w.heap.size < w2.heap.size := by omega
    have hl3 : w.heap.size + 1 < w2.heap.size := by omega
    obtain ⟨c0, c1, c2, -, -, -, -⟩ := X2.out
    clear hno
    go_wp2_with fail
    refine Hac.out.mono ?_
    rintro e w4 ⟨rfl, b4⟩
    have Y4 := Lib.hid (Y2.out.below b4 hl3)
    have bb4 := bb.trans (b4.mono (by omega))
    have z4 := b4.size
    have y3 := put3_box Y4.out (.slice none 0 0) (.slice none 0 0) (.int .i64 0)
    have b3 := bb4.trans ((put3_below w4 (w.heap.size + 1) (.slice none 0 0) (.slice none 0 0) (.int .i64 0)).mono (by omega))
    have Y3 := Lib.hid y3; have B3 := Lib.hid b3
    clear c0 c1 c2 y3 b3
    obtain ⟨o0, o1, o2, q0, q1, q2, -⟩ := Y4.out
    go_wp2
    exact Fin.out _ _ Y3.out B3.out rfl rfl rfl
end Go.Proofs.YtknmhdkomjjneaaGreatDoor.Pl

/-
  The document's plan of a file (threshingref11.Make).
-/
namespace Go.Proofs.YtknmhdkomjjneaaGreatDoor.Pl
open Go.RowKit

/-- Where the loop stands: the plan's block, the row of its second cell. -/
def MkRel (g9 m : Nat) (w7 : World) (A6 : Option Addr) (c6 gd : Nat) (f : Int) (l : List UInt8) (C : List Nat) (i : Value) (wr : World) : Prop :=
  ∃ D d, ∃ J : Nat, i = .int .i64 (J : Int) ∧ J ≤ m ∧ Bx wr g9 (.slice A6 m c6) (.slice D J d) (.int .i64 (gd : Int)) ∧ Oc 1 wr 4 w7.heap.size D J d (lvb (insF f l (C.take J))) ∧ Below g9 w7 wr
/-- All cells below B stay but those of A's block and of g. -/
def Ye (A : Option Addr) (g B : Nat) (w w' : World) : Prop := ∀ p : Addr, some p.block ≠ ob A → p.block ≠ g → p.block < B → w'.cell? p = w.cell? p
theorem Ye.refl {A : Option Addr} {g B : Nat} (w : World) : Ye A g B w w := fun _ _ _ _ => rfl
theorem Ye.trans {A : Option Addr} {g B : Nat} (a b c : World) (h : Ye A g B a b) (h2 : Ye A g B b c) : Ye A g B a c := fun x h1 h3 h4 => (h2 x h1 h3 h4).trans (h x h1 h3 h4)
theorem Ye.of {A : Option Addr} {g B B' : Nat} {w w' : World} (h : Below B' w w') (hB : B ≤ B') : Ye A g B w w' := fun _ _ _ h2 => h.cell (Nat.lt_of_lt_of_le h2 hB)
theorem Ye.grows {A A' : Option Addr} {g B : Nat} {w w' : World} (h : Grows w w' A A') (hB : B ≤ w.heap.size) : Ye A g B w w' := fun x h1 _ h2 => h.cell x (Nat.lt_of_lt_of_le h2 hB) h1
theorem Ye.cell {A : Option Addr} {g B : Nat} {w w' : World} (h : Ye A g B w w') (p : Addr) (h1 : some p.block ≠ ob A) (h0 : p.block ≠ g) (h2 : p.block < B) : w'.cell? p = w.cell? p := h p h1 h0 h2
theorem Ye.set (A : Option Addr) (g B : Nat) (w : World) (j : Nat) (v : Value) : Ye A g B w (w.setCell ⟨g, j, none⟩ v) := fun p _ h0 _ => World.cell?_setCell_other w _ _ _ (fun e => h0 (by rw [← e]))
theorem Bx.set1 {w : World} {g : Nat} {v0 v1 v2 : Value} (h : Bx w g v0 v1 v2) (v : Value) : Bx (w.setCell ⟨g, 1, none⟩ v) g v0 v v2 := by
  have o : ∀ j, j ≠ 1 → (w.setCell ⟨g, 1, none⟩ v).cell? ⟨g, j, none⟩ = w.cell? ⟨g, j, none⟩ := fun j hj => World.cell?_setCell_other w _ _ _ (by simp)
  have f : ∀ j, (w.setCell ⟨g, 1, none⟩ v).frozen? ⟨g, j, none⟩ = w.frozen? ⟨g, j, none⟩ := fun j => by simp
  exact ⟨(o 0 (by omega)).trans h.c0, World.cell?_setCell_same w _ _ h.c1, (o 2 (by omega)).trans h.c2, (f 0).trans h.f0, (f 1).trans h.f1, (f 2).trans h.f2, by simp; exact h.lt⟩
theorem insF_snoc {f : Int} {l : List UInt8} {C : List Nat} {J v : Nat} (h : C[J]? = some v) : lvb (insF f l (C.take (J + 1))) = lvb (insF f l (C.take J)) ++ [.bool (inF f l (v : Int))] := by
  unfold lvb insF
  rw [List.take_add_one, h]
  simp

set_option maxRecDepth 100000 in
set_option maxHeartbeats 4000000 in
theorem rmake_ok (f k : Int) (A : Option Addr) (n c : Nat) (l : List UInt8) (E : Option Addr) (m d : Nat) (C : List Nat) (w : World) (hr : Rb w w.heap.size A n c l) (hn : n ≤ 90000) (hc : Rc 1 w w.heap.size E m d (ivs (ic C))) (hC : Cu n C) (hF : isF f k = true) :
    Calls Tryz.prog 12 #[flv f k A n c, .slice E m d] w (RetPl w C (insF f l C) (scF f k l).2.1) := by
  have hCl : C.length = m := by have := hc.len1; rw [ivs_length, ic_len] at this; exact this
  have hm2 := cu_len hC
  rw [hCl] at hm2
  obtain ⟨w0, hw0⟩ : ∃ w0, w0 = w.alloc (.cells #[.int .i64 f, .int .i64 k, .slice A n c] 32) := ⟨_, rfl⟩
  have z0 : w0.heap.size = w.heap.size + 1 := by rw [hw0]; simp
  have b0 : Below w.heap.size w w0 := by rw [hw0]; exact (Below.refl _ _).alloc (Nat.le_refl _) _
  have x0 : Bx w0 w.heap.size (.int .i64 f) (.int .i64 k) (.slice A n c) := by rw [hw0]; exact Bx.made _ _ _ _ _
  obtain ⟨w1, hw1⟩ : ∃ w1, w1 = w0.alloc (.cells #[.slice none 0 0, .slice none 0 0, .int .i64 0] 39) := ⟨_, rfl⟩
  have z1 : w1.heap.size = w.heap.size + 2 := by rw [hw1]; simp [z0]
  have b01 : Below w0.heap.size w0 w1 := by rw [hw1]; exact (Below.refl _ _).alloc (Nat.le_refl _) _
  have x1 := x0.below b01 (by omega)
  have y1 : Bx w1 w0.heap.size (.slice none 0 0) (.slice none 0 0) (.int .i64 0) := by rw [hw1]; exact Bx.made _ _ _ _ _
  rw [z0] at y1
  have b1 := b0.trans (b01.mono (by omega))
  have hm := rmay_c f k A n c true (by rw [hF]; simp; omega) w1
  unfold flv at hm
  have Hc := Lib.hid hm
  have W0 := Lib.hid hw0; have W1 := Lib.hid hw1; have Hcu := Lib.hid hc; have X1 := Lib.hid x1; have Y1 := Lib.hid y1; have Hr := Lib.hid hr; have HC := Lib.hid hC; have HCl := Lib.hid hCl; have HF := Lib.hid hF
  obtain ⟨c0, c1, c2, -, -, -, hlt⟩ := x1
  have hly := y1.lt
  clear hw0 hw1 b0 x0 b01 hc z0 hm y1 hr hC hCl hF
  go_enter Tryz.func12, Tryz.ntmps12
  go_wp2_with (rw [← W0.out, ← W1.out])
  refine Hc.out.mono ?_
  rintro e w2 ⟨rfl, b2⟩
  have z2 := b2.size
  have bb2 := b1.trans (b2.mono (by omega))
  have X2 := Lib.hid (X1.out.below b2 hlt)
  have Y2 := Lib.hid (Y1.out.below b2 hly)
  have hl2 : w.heap.size < w2.heap.size := by omega
  have hl2' : w.heap.size + 1 < w2.heap.size := by omega
  have Hac := Lib.hid (rcuts_c E m d n (ic C) w2 ((Hcu.out.below bb2).more (by omega)) true (by simp [cu_isC HC.out]))
  clear c0 c1 c2
  obtain ⟨c0, c1, c2, -, -, -, -⟩ := X2.out
  go_wp2_with fail
  refine Hac.out.mono ?_
  rintro e w3 ⟨rfl, b3⟩
  have z3 := b3.size
  have bb3 := bb2.trans (b3.mono (by omega))
  have X3 := Lib.hid (X2.out.below b3 hl2)
  have Y3 := Lib.hid (Y2.out.below b3 hl2')
  have hsc := rscan_ok f k A n c l w3 ((Hr.out.below bb3).more (by omega)) hn HF.out
  unfold flv at hsc
  unfold RetS at hsc
  obtain ⟨gd, hgd⟩ : ∃ gd, gd = (scF f k l).2.1 := ⟨_, rfl⟩
  rw [← hgd] at hsc ⊢
  have Hsc := Lib.hid hsc; have Hgd := Lib.hid hgd
  clear c0 c1 c2 hsc hgd
  obtain ⟨c0, c1, c2, -, -, -, -⟩ := X3.out
  have hl3 : w.heap.size < w3.heap.size := by omega
  have hl3' : w.heap.size + 1 < w3.heap.size := by omega
  go_wp2_with fail
  refine Hsc.out.mono ?_
  rintro e w4 ⟨A4, c4, rfl, -, b4⟩
  have z4 := b4.size
  have bb4 := bb3.trans (b4.mono (by omega))
  have X4 := Lib.hid (X3.out.below b4 hl3)
  have Y4 := Lib.hid (Y3.out.below b4 hl3')
  obtain ⟨w5, hw5⟩ : ∃ w5, w5 = w4.alloc (.cells #[] 3) := ⟨_, rfl⟩
  have b45 : Below w4.heap.size w4 w5 := by rw [hw5]; exact (Below.refl _ _).alloc (Nat.le_refl _) _
  have z5 : w5.heap.size = w4.heap.size + 1 := by rw [hw5]; simp
  have hown5 : Oc 1 w5 3 w4.heap.size (some ⟨w4.heap.size, 0, none⟩) 0 0 [] := by rw [hw5]; exact Oc.made0 1 _ _
  have hcu5 := (Hcu.out.below (bb4.trans (b45.mono (by omega)))).more (B' := w5.heap.size) (by omega)
  have H5 := Lib.hid hw5; have Hown5 := Lib.hid hown5; have Hcu5 := Lib.hid hcu5; have BB4 := Lib.hid bb4; have B45 := Lib.hid b45
  clear c0 c1 c2 hw5 hown5 hcu5 b45 bb4
  go_wp2_with (at_builtin; rw [← H5.out]; go_must (refine Sl.wpAppAt ity rfl (.tmp 29) (.tmp 30) rfl (n := 0) (m := m) (N := m) (ws := ivs (ic C)) rfl rfl Hown5.out Hcu5.out ?hs1 (by omega) rfl ?hs4 ?hs5 ?hs6 ?_))
  case hs1 =>
    intro v hv
    unfold ivs at hv
    obtain ⟨a, -, rfl⟩ := List.mem_map.1 hv
    rfl
  case hs4 => omega
  case hs5 => omega
  case hs6 => omega
  intro A6 c6 w6 hown6 hg6
  have bx := hg6.belowC Hown5.out (by omega)
  have z6 : w5.heap.size ≤ w6.heap.size := hg6.size
  obtain ⟨g9, hg9⟩ : ∃ g9, g9 = w6.heap.size := ⟨_, rfl⟩
  obtain ⟨w7, hw7⟩ : ∃ w7, w7 = w6.alloc (.cells #[.slice A6 m c6, .slice none 0 0, .int .i64 (gd : Int)] 39) := ⟨_, rfl⟩
  have b67 : Below w6.heap.size w6 w7 := by rw [hw7]; exact (Below.refl _ _).alloc (Nat.le_refl _) _
  have z7 : w7.heap.size = w6.heap.size + 1 := by rw [hw7]; simp
  have x7 : Bx w7 g9 (.slice A6 m c6) (.slice none 0 0) (.int .i64 (gd : Int)) := by rw [hw7, hg9]; exact Bx.made _ _ _ _ _
  have b47 : Below w4.heap.size w4 w7 := (B45.out.trans bx).trans (b67.mono (by omega))
  have hown7 : RcS 1 w7 (Fr w4.heap.size w6) A6 m c6 (ivs (ic C)) := hown6.rcS.keep ⟨fun _ h => h, fun p hp => b67.cell hp.2⟩
  have Hg9 := Lib.hid hg9; have W7 := Lib.hid hw7; have B47 := Lib.hid b47; have X7 := Lib.hid x7; have Hown7 := Lib.hid hown7
  have hg9l : g9 < w7.heap.size := by omega
  have hg9w : w4.heap.size < g9 := by omega
  clear hown6 hg6 bx hg9 hw7 b67 b47 x7 hown7
  go_wp2_with (rw [← W7.out, ← Hg9.out])
  go_loopw [10] (fun i wr => MkRel g9 m w7 A6 c6 gd f l C i wr) (fun i _ => m - (intOf i).toNat)
  case atStart => exact ⟨none, 0, 0, rfl, Nat.zero_le _, X7.out, Oc.nil _ _ _ _, Below.refl _ _⟩
  case round =>
    obtain ⟨D, dd, J, rfl, hJ, hx, hown, hbel⟩ := hrel
    rename World => wr
    have zr := hbel.size
    have b4r : Below w4.heap.size w4 wr := B47.out.trans (hbel.mono (by omega))
    have bWr := BB4.out.trans (b4r.mono (by omega))
    have B4r := Lib.hid b4r; have BWr := Lib.hid bWr; have Hown := Lib.hid hown; have Hx := Lib.hid hx
    have hgr : g9 < wr.heap.size := by omega
    clear hown b4r bWr
    by_cases hlt : J < m
    · obtain ⟨eb, eo, x, rfl, heb, hcx, hxx⟩ := (Hcu.out.below BWr.out).int (k := J) hlt
      obtain ⟨v, hv, rfl⟩ := ic_inv hxx
      have hsn := insF_snoc (f := f) (l := l) hv
      have hv9 : v ≤ 90000 := by
        have h1 := Asc.mem (cu_get HC.out) v (List.mem_of_getElem? hv)
        omega
      obtain ⟨q, hq⟩ : ∃ q, q = inF f l (v : Int) := ⟨_, rfl⟩
      rw [← hq] at hsn
      obtain ⟨vs, hvs⟩ : ∃ vs, vs = lvb (insF f l (C.take J)) := ⟨_, rfl⟩
      have hown := Hown.out
      rw [← hvs] at hsn hown
      have hDl : ∀ g, ob D = some g → w7.heap.size ≤ g := fun g hg => (oc_ob hown g hg).1
      obtain ⟨c0, c1, c2, -, -, -, -⟩ := X4.out.below B4r.out (by omega)
      obtain ⟨w8, h8⟩ : ∃ w8, w8 = wr.alloc (.cells #[.bool q] 4) := ⟨_, rfl⟩
      have b8 : Below wr.heap.size wr w8 := by rw [h8]; exact (Below.refl _ _).alloc (Nat.le_refl _) _
      have hlit : Rc 1 w8 (wr.heap.size + 1) (some ⟨wr.heap.size, 0, none⟩) 1 1 [.bool q] := by rw [h8]; exact Rc.lit (z := 1) wr _ #[.bool q] 1 rfl (by simp [maxLen])
      have hlit : Rc 1 w8 w8.heap.size (some ⟨wr.heap.size, 0, none⟩) 1 1 [.bool q] := hlit.more (by rw [h8]; simp)
      have own8 := hown.keep b8
      have hz8c : wr.heap.size ≤ (w8.drewN 1).heap.size := b8.size
      have hz8 : w7.heap.size ≤ (w8.drewN 1).heap.size := Nat.le_trans zr b8.size
      have hy8 : Ye D g9 wr.heap.size wr.drew (w8.drewN 1) := Ye.of ⟨b8.os, b8.tape, b8.output, b8.size, b8.block⟩ (Nat.le_refl _)
      have hend : ∀ A9 c9 w9, Oc 1 w9 4 w7.heap.size A9 (J + 1) c9 (vs ++ [.bool q]) → Grows (w8.drewN 1) w9 D A9 → Bx w9 g9 (.slice A6 m c6) (.slice D J dd) (.int .i64 (gd : Int)) ∧ g9 < w9.heap.size ∧ wr.heap.size ≤ w9.heap.size ∧
          MkRel g9 m w7 A6 c6 gd f l C (.int .i64 ((J : Int) + 1)) (w9.setCell ⟨g9, 1, none⟩ (.slice A9 (J + 1) c9)) := by
        intro A9 c9 w9 ho hg
        have hne : some g9 ≠ ob D := fun e => by have := hDl g9 e.symm; omega
        have e1 : w9.heap[g9]? = (w8.drewN 1).heap[g9]? := hg.heap g9 (Nat.lt_of_lt_of_le hgr hz8c) hne
        have e2 : (w8.drewN 1).heap[g9]? = wr.heap[g9]? := b8.block g9 hgr
        have hs : wr.heap.size ≤ w9.heap.size := Nat.le_trans hz8c hg.size
        have hb := Hx.out.keep hs (e1.trans e2)
        refine ⟨hb, hb.lt, hs, A9, c9, J + 1, by go_num, by omega, hb.set1 _, ?_, ?_⟩
        · rw [hsn]
          exact Bun.oc_setLow ho hg9l _
        · have h1 : Below g9 wr w9 := (b8.mono (by omega)).trans ((show Below g9 w8 (w8.drewN 1) from ⟨rfl, rfl, rfl, Nat.le_refl _, fun _ _ => rfl⟩).trans ((hg.belowC (own8.drewN 1) hz8).mono (by omega)))
          exact (hbel.trans h1).trans (Bun.below_set _ (Nat.le_refl _) _)
      have Hend := Lib.hid hend; have H8 := Lib.hid h8; have Hown8 := Lib.hid own8; have Hlit := Lib.hid hlit; have Hq := Lib.hid hq
      have nwD : some w.heap.size ≠ ob D := fun e => by have := hDl _ e.symm; omega
      have nw9 : w.heap.size ≠ g9 := by omega
      have nwl : w.heap.size < wr.heap.size := by omega
      have neD : some eb ≠ ob D := fun e => by have := hDl _ e.symm; omega
      have ne9 : eb ≠ g9 := by omega
      have nel : eb < wr.heap.size := by omega
      have c0d : wr.drew.cell? ⟨w.heap.size, 0, none⟩ = some (.int .i64 f) := c0
      have c2d : wr.drew.cell? ⟨w.heap.size, 2, none⟩ = some (.slice A n c) := c2
      have hcd : wr.drew.cell? ⟨eb, eo + J, none⟩ = some (.int .i64 (v : Int)) := hcx
      have g1d : wr.drew.cell? ⟨g9, 1, none⟩ = some (.slice D J dd) := hx.c1
      have g8d : (w8.drewN 1).cell? ⟨g9, 1, none⟩ = some (.slice D J dd) := (b8.cell (p := ⟨g9, 1, none⟩) hgr).trans hx.c1
      have hJ9 : J ≤ 90001 := by omega
      by_cases hf1 : f = 1
      · subst hf1
        have hi := Csv.insideD_c A n c w.heap.size l (v : Int) (by constructor <;> omega) wr.drew ((Hr.out.below BWr.out).drewN 1) (by omega)
        have hq2 : Csv.Cv.odd (l.take ((v : Int)).toNat) = q := by rw [hq]; rfl
        rw [hq2] at hi
        have Hin := Lib.hid hi
        clear hi hq2 hend h8 own8 hlit hq hown hsn hvs hv hxx hDl b8 hx hcx
        go_upto_region 8 with fail
        refine wp_region_tree (Ye D g9 wr.heap.size) Ye.refl Ye.trans (.read 0 (.read 2 (.read 3 (.read 4 (.read 5 (.read 6 (.read 7 (.read 8 (.read 9 (.read 10 (.read 11 (.two 1 12 (.alone 12 (.read 13 (.alone 14 (.alone 15 (.alone 16 (.alone 17 .done)))))) (.read 13 (.two 1 14 (.alone 14 (.alone 15 (.alone 16 (.alone 17 .done)))) (.alone 1 (.alone 15 (.alone 16 (.alone 17 .done)))))))))))))))))) (by kernel_rfl) (by kernel_rfl) (by kernel_rfl) (by kernel_rfl) (fun _ _ d _ _ h => by cases d <;> exact h) ?_
        refine wpS_read (o := { dst := some 40, op := Go.Op.fieldAddr 39 (Go.Operand.tmp 9) 1, type := 0, pos := "ref.go:115", after := #[], guard := none }) (v := .pointer (some ⟨g9, 1, none⟩)) rfl (by rfl) ?_ ?_
        · intro w' _; go_simp
        try simp only [Act.put, List.setIfInBounds_toArray, List.set_cons_zero, List.set_cons_succ]
        refine wpS_read (o := { dst := some 42, op := Go.Op.fieldAddr 32 (Go.Operand.tmp 2) 0, type := 0, pos := "ref.go:115", after := #[], guard := none }) (v := .pointer (some ⟨w.heap.size, 0, none⟩)) rfl (by rfl) ?_ ?_
        · intro w' _; go_simp
        try simp only [Act.put, List.setIfInBounds_toArray, List.set_cons_zero, List.set_cons_succ]
        refine wpS_read (o := { dst := some 43, op := Go.Op.load 3 (Go.Operand.tmp 42), type := 3, pos := "ref.go:115", after := #[{ on := 2, ground := Go.Ground.data }], guard := none }) (v := .int .i64 1) rfl (by rfl) ?_ ?_
        · intro w' hw'; have hcl := (hw'.cell ⟨w.heap.size, 0, none⟩ nwD nw9 nwl).trans c0d; go_simp
        try simp only [Act.put, List.setIfInBounds_toArray, List.set_cons_zero, List.set_cons_succ]
        refine wpS_read (o := { dst := some 44, op := Go.Op.binOp Go.BinOp.eql 3 (Go.Operand.tmp 43) (Go.Operand.const (Go.Value.int Go.IntKind.i64 1)) 3, type := 4, pos := "ref.go:115", after := #[{ on := 3, ground := Go.Ground.data }], guard := none }) (v := .bool true) rfl (by rfl) ?_ ?_
        · intro w' _; go_simp
        try simp only [Act.put, List.setIfInBounds_toArray, List.set_cons_zero, List.set_cons_succ]
        refine wpS_read (o := { dst := some 45, op := Go.Op.move (Go.Operand.tmp 44), type := 4, pos := "ref.go:115", after := #[{ on := 4, ground := Go.Ground.data }], guard := none }) (v := .bool true) rfl (by rfl) ?_ ?_
        · intro w' _; go_simp
        try simp only [Act.put, List.setIfInBounds_toArray, List.set_cons_zero, List.set_cons_succ]
        refine wpS_read (o := { dst := some 46, op := Go.Op.fieldAddr 32 (Go.Operand.tmp 2) 2, type := 0, pos := "ref.go:115", after := #[{ on := 5, ground := Go.Ground.guard }], guard := some (5, true) }) (v := .pointer (some ⟨w.heap.size, 2, none⟩)) rfl (by rfl) ?_ ?_
        · intro w' _; go_simp
        try simp only [Act.put, List.setIfInBounds_toArray, List.set_cons_zero, List.set_cons_succ]
        refine wpS_read (o := { dst := some 47, op := Go.Op.load 22 (Go.Operand.tmp 46), type := 22, pos := "ref.go:115", after := #[{ on := 6, ground := Go.Ground.data }, { on := 5, ground := Go.Ground.guard }], guard := some (5, true) }) (v := .slice A n c) rfl (by rfl) ?_ ?_
        · intro w' hw'; have hcl := (hw'.cell ⟨w.heap.size, 2, none⟩ nwD nw9 nwl).trans c2d; go_simp
        try simp only [Act.put, List.setIfInBounds_toArray, List.set_cons_zero, List.set_cons_succ]
        refine wpS_read (o := { dst := some 48, op := Go.Op.move (Go.Operand.tmp 1), type := 25, pos := "ref.go:115", after := #[{ on := 5, ground := Go.Ground.guard }], guard := some (5, true) }) (v := .slice (some ⟨eb, eo, none⟩) m d) rfl (by rfl) ?_ ?_
        · intro w' _; go_simp
        try simp only [Act.put, List.setIfInBounds_toArray, List.set_cons_zero, List.set_cons_succ]
        refine wpS_read (o := { dst := some 49, op := Go.Op.move (Go.Operand.tmp 10), type := 3, pos := "ref.go:115", after := #[{ on := 5, ground := Go.Ground.guard }], guard := some (5, true) }) (v := .int .i64 (J : Int)) rfl (by rfl) ?_ ?_
        · intro w' _; go_simp
        try simp only [Act.put, List.setIfInBounds_toArray, List.set_cons_zero, List.set_cons_succ]
        refine wpS_read (o := { dst := some 50, op := Go.Op.indexAddr 25 (Go.Operand.tmp 48) (Go.Operand.tmp 49), type := 0, pos := "ref.go:115", after := #[{ on := 8, ground := Go.Ground.data }, { on := 9, ground := Go.Ground.data }, { on := 5, ground := Go.Ground.guard }], guard := some (5, true) }) (v := .pointer (some ⟨eb, eo + J, none⟩)) rfl (by rfl) ?_ ?_
        · intro w' _; go_simp
        try simp only [Act.put, List.setIfInBounds_toArray, List.set_cons_zero, List.set_cons_succ]
        refine wpS_read (o := { dst := some 51, op := Go.Op.load 3 (Go.Operand.tmp 50), type := 3, pos := "ref.go:115", after := #[{ on := 10, ground := Go.Ground.data }, { on := 5, ground := Go.Ground.guard }], guard := some (5, true) }) (v := .int .i64 (v : Int)) rfl (by rfl) ?_ ?_
        · intro w' hw'; have hcl := (hw'.cell ⟨eb, eo + J, none⟩ neD ne9 nel).trans hcd; go_simp
        try simp only [Act.put, List.setIfInBounds_toArray, List.set_cons_zero, List.set_cons_succ]
        refine wpS_two ?_ ?_
        · refine stS_value (o := { dst := some 41, op := Go.Op.load 34 (Go.Operand.tmp 40), type := 34, pos := "ref.go:115", after := #[{ on := 0, ground := Go.Ground.data }], guard := none }) (v := .slice D J dd) (w1 := wr.drew) rfl (by rfl) ?_ ?_ ?_
          · have hcl := g1d; go_simp
          · exact Ye.refl _
          try simp only [Act.put, List.setIfInBounds_toArray, List.set_cons_zero, List.set_cons_succ]
          refine wpS_alone ?_
          refine stS_call (o := { dst := some 52, op := Go.Op.call { callee := Go.Callee.value (Go.Operand.func 41), args := #[Go.Operand.tmp 47, Go.Operand.tmp 51], argTypes := #[22, 3] }, type := 4, pos := "ref.go:115", after := #[{ on := 7, ground := Go.Ground.data }, { on := 11, ground := Go.Ground.data }, { on := 5, ground := Go.Ground.chain }, { on := 5, ground := Go.Ground.guard }], guard := some (5, true) }) rfl (by rfl) (fun K' hK => ?_)
          go_simp
          go_at_call 41
          with_reducible refine Hin.out.mono ?_
          rintro e w' ⟨rfl, rfl⟩
          refine hK _ _ (Ye.refl _) ?_
          clear hK K'
          try simp only [Act.put, List.setIfInBounds_toArray, List.set_cons_zero, List.set_cons_succ]
          refine wpS_read (o := { dst := some 53, op := Go.Op.pick (Go.Operand.tmp 45) (Go.Operand.tmp 52) (Go.Operand.const (Go.Value.bool false)), type := 4, pos := "ref.go:115", after := #[{ on := 5, ground := Go.Ground.data }, { on := 12, ground := Go.Ground.data }], guard := none }) (v := .bool q) rfl (by rfl) ?_ ?_
          · intro w' _; go_simp
          try simp only [Act.put, List.setIfInBounds_toArray, List.set_cons_zero, List.set_cons_succ]
          refine wpS_alone ?_
          refine stS_value (o := { dst := some 54, op := Go.Op.buildSlice 34 1 #[(0, Go.Operand.tmp 53)], type := 34, pos := "ref.go:115", after := #[{ on := 13, ground := Go.Ground.data }], guard := none }) (v := .slice (some ⟨wr.heap.size, 0, none⟩) 1 1) (w1 := w8.drewN 1) rfl (by rfl) ?_ ?_ ?_
          · rw [H8.out]; go_simp; rfl
          · exact hy8
          try simp only [Act.put, List.setIfInBounds_toArray, List.set_cons_zero, List.set_cons_succ]
          refine wpS_alone ?_
          refine stS_call (o := { dst := some 55, op := Go.Op.call { callee := Go.Callee.builtin Go.Builtin.append, args := #[Go.Operand.tmp 41, Go.Operand.tmp 54], argTypes := #[34, 34] }, type := 34, pos := "ref.go:115", after := #[{ on := 1, ground := Go.Ground.data }, { on := 14, ground := Go.Ground.data }, { on := 12, ground := Go.Ground.chain }], guard := none }) rfl (by rfl) (fun K' hK => ?_)
          refine Sl.opAppAt bty1 (.tmp 41) (.tmp 54) rfl (n := J) (m := 1) (N := J + 1) (ws := vs ++ [.bool q]) rfl rfl (Hown8.out.drewN 1) (Hlit.out.drewN 1) (by simp [Value.oneCell']) rfl rfl (by omega) (by omega) hz8 ?_
          intro A9 c9 w9 hown9 hgr9
          refine hK _ _ (Ye.grows hgr9 hz8c) ?_
          clear hK K'
          try simp only [Act.put, List.setIfInBounds_toArray, List.set_cons_zero, List.set_cons_succ]
          have hx9 := Hend.out A9 c9 w9 hown9 hgr9
          obtain ⟨hx9, hm9', hz9, hmk⟩ := hx9
          obtain ⟨p0, p1, p2, f0, f1, f2, hl9⟩ := hx9
          have Hmk := Lib.hid hmk
          clear hown9 hgr9 hmk
          refine wpS_alone ?_
          refine stS_value (o := { dst := some 56, op := Go.Op.fieldAddr 39 (Go.Operand.tmp 9) 1, type := 0, pos := "ref.go:115", after := #[{ on := 0, ground := Go.Ground.phase }, { on := 1, ground := Go.Ground.phase }, { on := 2, ground := Go.Ground.phase }, { on := 3, ground := Go.Ground.phase }, { on := 4, ground := Go.Ground.phase }, { on := 5, ground := Go.Ground.phase }, { on := 6, ground := Go.Ground.phase }, { on := 7, ground := Go.Ground.phase }, { on := 8, ground := Go.Ground.phase }, { on := 9, ground := Go.Ground.phase }, { on := 10, ground := Go.Ground.phase }, { on := 11, ground := Go.Ground.phase }, { on := 12, ground := Go.Ground.phase }, { on := 13, ground := Go.Ground.phase }, { on := 14, ground := Go.Ground.phase }, { on := 15, ground := Go.Ground.phase }], guard := none }) (v := .pointer (some ⟨g9, 1, none⟩)) (w1 := w9) rfl (by rfl) ?_ ?_ ?_
          · go_simp
          · exact Ye.refl _
          try simp only [Act.put, List.setIfInBounds_toArray, List.set_cons_zero, List.set_cons_succ]
          refine wpS_alone ?_
          refine stS_call (o := { dst := none, op := Go.Op.store 34 (Go.Operand.tmp 56) (Go.Operand.tmp 55), type := 0, pos := "ref.go:115", after := #[{ on := 16, ground := Go.Ground.data }, { on := 15, ground := Go.Ground.data }, { on := 15, ground := Go.Ground.chain }, { on := 0, ground := Go.Ground.phase }, { on := 1, ground := Go.Ground.phase }, { on := 2, ground := Go.Ground.phase }, { on := 3, ground := Go.Ground.phase }, { on := 4, ground := Go.Ground.phase }, { on := 5, ground := Go.Ground.phase }, { on := 6, ground := Go.Ground.phase }, { on := 7, ground := Go.Ground.phase }, { on := 8, ground := Go.Ground.phase }, { on := 9, ground := Go.Ground.phase }, { on := 10, ground := Go.Ground.phase }, { on := 11, ground := Go.Ground.phase }, { on := 12, ground := Go.Ground.phase }, { on := 13, ground := Go.Ground.phase }, { on := 14, ground := Go.Ground.phase }, { on := 15, ground := Go.Ground.phase }], guard := none }) rfl (by rfl) (fun K' hK => ?_)
          go_simp
          refine hK _ _ (Ye.set _ _ _ _ _ _) ?_
          clear hK K'
          try simp only [Act.put, List.setIfInBounds_toArray, List.set_cons_zero, List.set_cons_succ]
          refine wpS_done ?_
          clear p0 p1 p2 f0 f1 f2 c0 c1 c2 c0d c2d hcd g1d g8d
          go_wp2
          go_roundw
          case rel => exact Hmk.out
          case measure => simp [intOf]; omega
        · refine stS_call (o := { dst := some 52, op := Go.Op.call { callee := Go.Callee.value (Go.Operand.func 41), args := #[Go.Operand.tmp 47, Go.Operand.tmp 51], argTypes := #[22, 3] }, type := 4, pos := "ref.go:115", after := #[{ on := 7, ground := Go.Ground.data }, { on := 11, ground := Go.Ground.data }, { on := 5, ground := Go.Ground.chain }, { on := 5, ground := Go.Ground.guard }], guard := some (5, true) }) rfl (by rfl) (fun K' hK => ?_)
          go_simp
          go_at_call 41
          with_reducible refine Hin.out.mono ?_
          rintro e w' ⟨rfl, rfl⟩
          refine hK _ _ (Ye.refl _) ?_
          clear hK K'
          try simp only [Act.put, List.setIfInBounds_toArray, List.set_cons_zero, List.set_cons_succ]
          refine wpS_read (o := { dst := some 53, op := Go.Op.pick (Go.Operand.tmp 45) (Go.Operand.tmp 52) (Go.Operand.const (Go.Value.bool false)), type := 4, pos := "ref.go:115", after := #[{ on := 5, ground := Go.Ground.data }, { on := 12, ground := Go.Ground.data }], guard := none }) (v := .bool q) rfl (by rfl) ?_ ?_
          · intro w' _; go_simp
          try simp only [Act.put, List.setIfInBounds_toArray, List.set_cons_zero, List.set_cons_succ]
          refine wpS_two ?_ ?_
          · refine stS_value (o := { dst := some 41, op := Go.Op.load 34 (Go.Operand.tmp 40), type := 34, pos := "ref.go:115", after := #[{ on := 0, ground := Go.Ground.data }], guard := none }) (v := .slice D J dd) (w1 := wr.drew) rfl (by rfl) ?_ ?_ ?_
            · have hcl := g1d; go_simp
            · exact Ye.refl _
            try simp only [Act.put, List.setIfInBounds_toArray, List.set_cons_zero, List.set_cons_succ]
            refine wpS_alone ?_
            refine stS_value (o := { dst := some 54, op := Go.Op.buildSlice 34 1 #[(0, Go.Operand.tmp 53)], type := 34, pos := "ref.go:115", after := #[{ on := 13, ground := Go.Ground.data }], guard := none }) (v := .slice (some ⟨wr.heap.size, 0, none⟩) 1 1) (w1 := w8.drewN 1) rfl (by rfl) ?_ ?_ ?_
            · rw [H8.out]; go_simp; rfl
            · exact hy8
            try simp only [Act.put, List.setIfInBounds_toArray, List.set_cons_zero, List.set_cons_succ]
            refine wpS_alone ?_
            refine stS_call (o := { dst := some 55, op := Go.Op.call { callee := Go.Callee.builtin Go.Builtin.append, args := #[Go.Operand.tmp 41, Go.Operand.tmp 54], argTypes := #[34, 34] }, type := 34, pos := "ref.go:115", after := #[{ on := 1, ground := Go.Ground.data }, { on := 14, ground := Go.Ground.data }, { on := 12, ground := Go.Ground.chain }], guard := none }) rfl (by rfl) (fun K' hK => ?_)
            refine Sl.opAppAt bty1 (.tmp 41) (.tmp 54) rfl (n := J) (m := 1) (N := J + 1) (ws := vs ++ [.bool q]) rfl rfl (Hown8.out.drewN 1) (Hlit.out.drewN 1) (by simp [Value.oneCell']) rfl rfl (by omega) (by omega) hz8 ?_
            intro A9 c9 w9 hown9 hgr9
            refine hK _ _ (Ye.grows hgr9 hz8c) ?_
            clear hK K'
            try simp only [Act.put, List.setIfInBounds_toArray, List.set_cons_zero, List.set_cons_succ]
            have hx9 := Hend.out A9 c9 w9 hown9 hgr9
            obtain ⟨hx9, hm9', hz9, hmk⟩ := hx9
            obtain ⟨p0, p1, p2, f0, f1, f2, hl9⟩ := hx9
            have Hmk := Lib.hid hmk
            clear hown9 hgr9 hmk
            refine wpS_alone ?_
            refine stS_value (o := { dst := some 56, op := Go.Op.fieldAddr 39 (Go.Operand.tmp 9) 1, type := 0, pos := "ref.go:115", after := #[{ on := 0, ground := Go.Ground.phase }, { on := 1, ground := Go.Ground.phase }, { on := 2, ground := Go.Ground.phase }, { on := 3, ground := Go.Ground.phase }, { on := 4, ground := Go.Ground.phase }, { on := 5, ground := Go.Ground.phase }, { on := 6, ground := Go.Ground.phase }, { on := 7, ground := Go.Ground.phase }, { on := 8, ground := Go.Ground.phase }, { on := 9, ground := Go.Ground.phase }, { on := 10, ground := Go.Ground.phase }, { on := 11, ground := Go.Ground.phase }, { on := 12, ground := Go.Ground.phase }, { on := 13, ground := Go.Ground.phase }, { on := 14, ground := Go.Ground.phase }, { on := 15, ground := Go.Ground.phase }], guard := none }) (v := .pointer (some ⟨g9, 1, none⟩)) (w1 := w9) rfl (by rfl) ?_ ?_ ?_
            · go_simp
            · exact Ye.refl _
            try simp only [Act.put, List.setIfInBounds_toArray, List.set_cons_zero, List.set_cons_succ]
            refine wpS_alone ?_
            refine stS_call (o := { dst := none, op := Go.Op.store 34 (Go.Operand.tmp 56) (Go.Operand.tmp 55), type := 0, pos := "ref.go:115", after := #[{ on := 16, ground := Go.Ground.data }, { on := 15, ground := Go.Ground.data }, { on := 15, ground := Go.Ground.chain }, { on := 0, ground := Go.Ground.phase }, { on := 1, ground := Go.Ground.phase }, { on := 2, ground := Go.Ground.phase }, { on := 3, ground := Go.Ground.phase }, { on := 4, ground := Go.Ground.phase }, { on := 5, ground := Go.Ground.phase }, { on := 6, ground := Go.Ground.phase }, { on := 7, ground := Go.Ground.phase }, { on := 8, ground := Go.Ground.phase }, { on := 9, ground := Go.Ground.phase }, { on := 10, ground := Go.Ground.phase }, { on := 11, ground := Go.Ground.phase }, { on := 12, ground := Go.Ground.phase }, { on := 13, ground := Go.Ground.phase }, { on := 14, ground := Go.Ground.phase }, { on := 15, ground := Go.Ground.phase }], guard := none }) rfl (by rfl) (fun K' hK => ?_)
            go_simp
            refine hK _ _ (Ye.set _ _ _ _ _ _) ?_
            clear hK K'
            try simp only [Act.put, List.setIfInBounds_toArray, List.set_cons_zero, List.set_cons_succ]
            refine wpS_done ?_
            clear p0 p1 p2 f0 f1 f2 c0 c1 c2 c0d c2d hcd g1d g8d
            go_wp2
            go_roundw
            case rel => exact Hmk.out
            case measure => simp [intOf]; omega
          · refine stS_value (o := { dst := some 54, op := Go.Op.buildSlice 34 1 #[(0, Go.Operand.tmp 53)], type := 34, pos := "ref.go:115", after := #[{ on := 13, ground := Go.Ground.data }], guard := none }) (v := .slice (some ⟨wr.heap.size, 0, none⟩) 1 1) (w1 := w8.drewN 1) rfl (by rfl) ?_ ?_ ?_
            · rw [H8.out]; go_simp; rfl
            · exact hy8
            try simp only [Act.put, List.setIfInBounds_toArray, List.set_cons_zero, List.set_cons_succ]
            refine wpS_alone ?_
            refine stS_value (o := { dst := some 41, op := Go.Op.load 34 (Go.Operand.tmp 40), type := 34, pos := "ref.go:115", after := #[{ on := 0, ground := Go.Ground.data }], guard := none }) (v := .slice D J dd) (w1 := w8.drewN 1) rfl (by rfl) ?_ ?_ ?_
            · have hcl := g8d; go_simp
            · exact Ye.refl _
            try simp only [Act.put, List.setIfInBounds_toArray, List.set_cons_zero, List.set_cons_succ]
            refine wpS_alone ?_
            refine stS_call (o := { dst := some 55, op := Go.Op.call { callee := Go.Callee.builtin Go.Builtin.append, args := #[Go.Operand.tmp 41, Go.Operand.tmp 54], argTypes := #[34, 34] }, type := 34, pos := "ref.go:115", after := #[{ on := 1, ground := Go.Ground.data }, { on := 14, ground := Go.Ground.data }, { on := 12, ground := Go.Ground.chain }], guard := none }) rfl (by rfl) (fun K' hK => ?_)
            refine Sl.opAppAt bty1 (.tmp 41) (.tmp 54) rfl (n := J) (m := 1) (N := J + 1) (ws := vs ++ [.bool q]) rfl rfl (Hown8.out.drewN 1) (Hlit.out.drewN 1) (by simp [Value.oneCell']) rfl rfl (by omega) (by omega) hz8 ?_
            intro A9 c9 w9 hown9 hgr9
            refine hK _ _ (Ye.grows hgr9 hz8c) ?_
            clear hK K'
            try simp only [Act.put, List.setIfInBounds_toArray, List.set_cons_zero, List.set_cons_succ]
            have hx9 := Hend.out A9 c9 w9 hown9 hgr9
            obtain ⟨hx9, hm9', hz9, hmk⟩ := hx9
            obtain ⟨p0, p1, p2, f0, f1, f2, hl9⟩ := hx9
            have Hmk := Lib.hid hmk
            clear hown9 hgr9 hmk
            refine wpS_alone ?_
            refine stS_value (o := { dst := some 56, op := Go.Op.fieldAddr 39 (Go.Operand.tmp 9) 1, type := 0, pos := "ref.go:115", after := #[{ on := 0, ground := Go.Ground.phase }, { on := 1, ground := Go.Ground.phase }, { on := 2, ground := Go.Ground.phase }, { on := 3, ground := Go.Ground.phase }, { on := 4, ground := Go.Ground.phase }, { on := 5, ground := Go.Ground.phase }, { on := 6, ground := Go.Ground.phase }, { on := 7, ground := Go.Ground.phase }, { on := 8, ground := Go.Ground.phase }, { on := 9, ground := Go.Ground.phase }, { on := 10, ground := Go.Ground.phase }, { on := 11, ground := Go.Ground.phase }, { on := 12, ground := Go.Ground.phase }, { on := 13, ground := Go.Ground.phase }, { on := 14, ground := Go.Ground.phase }, { on := 15, ground := Go.Ground.phase }], guard := none }) (v := .pointer (some ⟨g9, 1, none⟩)) (w1 := w9) rfl (by rfl) ?_ ?_ ?_
            · go_simp
            · exact Ye.refl _
            try simp only [Act.put, List.setIfInBounds_toArray, List.set_cons_zero, List.set_cons_succ]
            refine wpS_alone ?_
            refine stS_call (o := { dst := none, op := Go.Op.store 34 (Go.Operand.tmp 56) (Go.Operand.tmp 55), type := 0, pos := "ref.go:115", after := #[{ on := 16, ground := Go.Ground.data }, { on := 15, ground := Go.Ground.data }, { on := 15, ground := Go.Ground.chain }, { on := 0, ground := Go.Ground.phase }, { on := 1, ground := Go.Ground.phase }, { on := 2, ground := Go.Ground.phase }, { on := 3, ground := Go.Ground.phase }, { on := 4, ground := Go.Ground.phase }, { on := 5, ground := Go.Ground.phase }, { on := 6, ground := Go.Ground.phase }, { on := 7, ground := Go.Ground.phase }, { on := 8, ground := Go.Ground.phase }, { on := 9, ground := Go.Ground.phase }, { on := 10, ground := Go.Ground.phase }, { on := 11, ground := Go.Ground.phase }, { on := 12, ground := Go.Ground.phase }, { on := 13, ground := Go.Ground.phase }, { on := 14, ground := Go.Ground.phase }, { on := 15, ground := Go.Ground.phase }], guard := none }) rfl (by rfl) (fun K' hK => ?_)
            go_simp
            refine hK _ _ (Ye.set _ _ _ _ _ _) ?_
            clear hK K'
            try simp only [Act.put, List.setIfInBounds_toArray, List.set_cons_zero, List.set_cons_succ]
            refine wpS_done ?_
            clear p0 p1 p2 f0 f1 f2 c0 c1 c2 c0d c2d hcd g1d g8d
            go_wp2
            go_roundw
            case rel => exact Hmk.out
            case measure => simp [intOf]; omega
      · have hqf : q = false := by rw [hq]; unfold inF; rw [beq_eq_false_iff_ne.2 hf1]; rfl
        subst hqf
        have d1 : (f == 1) = false := beq_eq_false_iff_ne.2 hf1
        clear hend h8 own8 hlit hq hown hsn hvs hv hxx hDl b8 hx hcx hf1
        go_upto_region 8 with fail
        refine wp_region_tree (Ye D g9 wr.heap.size) Ye.refl Ye.trans (.read 0 (.read 2 (.read 3 (.read 4 (.read 5 (.read 6 (.read 7 (.read 8 (.read 9 (.read 10 (.read 11 (.read 12 (.read 13 (.two 1 14 (.alone 14 (.alone 15 (.alone 16 (.alone 17 .done)))) (.alone 1 (.alone 15 (.alone 16 (.alone 17 .done)))))))))))))))))) (by kernel_rfl) (by kernel_rfl) (by kernel_rfl) (by kernel_rfl) (fun _ _ d _ _ h => by cases d <;> exact h) ?_
        refine wpS_read (o := { dst := some 40, op := Go.Op.fieldAddr 39 (Go.Operand.tmp 9) 1, type := 0, pos := "ref.go:115", after := #[], guard := none }) (v := .pointer (some ⟨g9, 1, none⟩)) rfl (by rfl) ?_ ?_
        · intro w' _; go_simp
        try simp only [Act.put, List.setIfInBounds_toArray, List.set_cons_zero, List.set_cons_succ]
        refine wpS_read (o := { dst := some 42, op := Go.Op.fieldAddr 32 (Go.Operand.tmp 2) 0, type := 0, pos := "ref.go:115", after := #[], guard := none }) (v := .pointer (some ⟨w.heap.size, 0, none⟩)) rfl (by rfl) ?_ ?_
        · intro w' _; go_simp
        try simp only [Act.put, List.setIfInBounds_toArray, List.set_cons_zero, List.set_cons_succ]
        refine wpS_read (o := { dst := some 43, op := Go.Op.load 3 (Go.Operand.tmp 42), type := 3, pos := "ref.go:115", after := #[{ on := 2, ground := Go.Ground.data }], guard := none }) (v := .int .i64 f) rfl (by rfl) ?_ ?_
        · intro w' hw'; have hcl := (hw'.cell ⟨w.heap.size, 0, none⟩ nwD nw9 nwl).trans c0d; go_simp
        try simp only [Act.put, List.setIfInBounds_toArray, List.set_cons_zero, List.set_cons_succ]
        refine wpS_read (o := { dst := some 44, op := Go.Op.binOp Go.BinOp.eql 3 (Go.Operand.tmp 43) (Go.Operand.const (Go.Value.int Go.IntKind.i64 1)) 3, type := 4, pos := "ref.go:115", after := #[{ on := 3, ground := Go.Ground.data }], guard := none }) (v := .bool false) rfl (by rfl) ?_ ?_
        · intro w' _; go_simp
        try simp only [Act.put, List.setIfInBounds_toArray, List.set_cons_zero, List.set_cons_succ]
        refine wpS_read (o := { dst := some 45, op := Go.Op.move (Go.Operand.tmp 44), type := 4, pos := "ref.go:115", after := #[{ on := 4, ground := Go.Ground.data }], guard := none }) (v := .bool false) rfl (by rfl) ?_ ?_
        · intro w' _; go_simp
        try simp only [Act.put, List.setIfInBounds_toArray, List.set_cons_zero, List.set_cons_succ]
        refine wpS_skip (o := { dst := some 46, op := Go.Op.fieldAddr 32 (Go.Operand.tmp 2) 2, type := 0, pos := "ref.go:115", after := #[{ on := 5, ground := Go.Ground.guard }], guard := some (5, true) }) rfl (by rfl) ?_
        try simp only [Act.put, List.setIfInBounds_toArray, List.set_cons_zero, List.set_cons_succ]
        refine wpS_skip (o := { dst := some 47, op := Go.Op.load 22 (Go.Operand.tmp 46), type := 22, pos := "ref.go:115", after := #[{ on := 6, ground := Go.Ground.data }, { on := 5, ground := Go.Ground.guard }], guard := some (5, true) }) rfl (by rfl) ?_
        try simp only [Act.put, List.setIfInBounds_toArray, List.set_cons_zero, List.set_cons_succ]
        refine wpS_skip (o := { dst := some 48, op := Go.Op.move (Go.Operand.tmp 1), type := 25, pos := "ref.go:115", after := #[{ on := 5, ground := Go.Ground.guard }], guard := some (5, true) }) rfl (by rfl) ?_
        try simp only [Act.put, List.setIfInBounds_toArray, List.set_cons_zero, List.set_cons_succ]
        refine wpS_skip (o := { dst := some 49, op := Go.Op.move (Go.Operand.tmp 10), type := 3, pos := "ref.go:115", after := #[{ on := 5, ground := Go.Ground.guard }], guard := some (5, true) }) rfl (by rfl) ?_
        try simp only [Act.put, List.setIfInBounds_toArray, List.set_cons_zero, List.set_cons_succ]
        refine wpS_skip (o := { dst := some 50, op := Go.Op.indexAddr 25 (Go.Operand.tmp 48) (Go.Operand.tmp 49), type := 0, pos := "ref.go:115", after := #[{ on := 8, ground := Go.Ground.data }, { on := 9, ground := Go.Ground.data }, { on := 5, ground := Go.Ground.guard }], guard := some (5, true) }) rfl (by rfl) ?_
        try simp only [Act.put, List.setIfInBounds_toArray, List.set_cons_zero, List.set_cons_succ]
        refine wpS_skip (o := { dst := some 51, op := Go.Op.load 3 (Go.Operand.tmp 50), type := 3, pos := "ref.go:115", after := #[{ on := 10, ground := Go.Ground.data }, { on := 5, ground := Go.Ground.guard }], guard := some (5, true) }) rfl (by rfl) ?_
        try simp only [Act.put, List.setIfInBounds_toArray, List.set_cons_zero, List.set_cons_succ]
        refine wpS_skip (o := { dst := some 52, op := Go.Op.call { callee := Go.Callee.value (Go.Operand.func 41), args := #[Go.Operand.tmp 47, Go.Operand.tmp 51], argTypes := #[22, 3] }, type := 4, pos := "ref.go:115", after := #[{ on := 7, ground := Go.Ground.data }, { on := 11, ground := Go.Ground.data }, { on := 5, ground := Go.Ground.chain }, { on := 5, ground := Go.Ground.guard }], guard := some (5, true) }) rfl (by rfl) ?_
        try simp only [Act.put, List.setIfInBounds_toArray, List.set_cons_zero, List.set_cons_succ]
        refine wpS_read (o := { dst := some 53, op := Go.Op.pick (Go.Operand.tmp 45) (Go.Operand.tmp 52) (Go.Operand.const (Go.Value.bool false)), type := 4, pos := "ref.go:115", after := #[{ on := 5, ground := Go.Ground.data }, { on := 12, ground := Go.Ground.data }], guard := none }) (v := .bool false) rfl (by rfl) ?_ ?_
        · intro w' _; go_simp
        try simp only [Act.put, List.setIfInBounds_toArray, List.set_cons_zero, List.set_cons_succ]
        refine wpS_two ?_ ?_
        · refine stS_value (o := { dst := some 41, op := Go.Op.load 34 (Go.Operand.tmp 40), type := 34, pos := "ref.go:115", after := #[{ on := 0, ground := Go.Ground.data }], guard := none }) (v := .slice D J dd) (w1 := wr.drew) rfl (by rfl) ?_ ?_ ?_
          · have hcl := g1d; go_simp
          · exact Ye.refl _
          try simp only [Act.put, List.setIfInBounds_toArray, List.set_cons_zero, List.set_cons_succ]
          refine wpS_alone ?_
          refine stS_value (o := { dst := some 54, op := Go.Op.buildSlice 34 1 #[(0, Go.Operand.tmp 53)], type := 34, pos := "ref.go:115", after := #[{ on := 13, ground := Go.Ground.data }], guard := none }) (v := .slice (some ⟨wr.heap.size, 0, none⟩) 1 1) (w1 := w8.drewN 1) rfl (by rfl) ?_ ?_ ?_
          · rw [H8.out]; go_simp; rfl
          · exact hy8
          try simp only [Act.put, List.setIfInBounds_toArray, List.set_cons_zero, List.set_cons_succ]
          refine wpS_alone ?_
          refine stS_call (o := { dst := some 55, op := Go.Op.call { callee := Go.Callee.builtin Go.Builtin.append, args := #[Go.Operand.tmp 41, Go.Operand.tmp 54], argTypes := #[34, 34] }, type := 34, pos := "ref.go:115", after := #[{ on := 1, ground := Go.Ground.data }, { on := 14, ground := Go.Ground.data }, { on := 12, ground := Go.Ground.chain }], guard := none }) rfl (by rfl) (fun K' hK => ?_)
          refine Sl.opAppAt bty1 (.tmp 41) (.tmp 54) rfl (n := J) (m := 1) (N := J + 1) (ws := vs ++ [.bool false]) rfl rfl (Hown8.out.drewN 1) (Hlit.out.drewN 1) (by simp [Value.oneCell']) rfl rfl (by omega) (by omega) hz8 ?_
          intro A9 c9 w9 hown9 hgr9
          refine hK _ _ (Ye.grows hgr9 hz8c) ?_
          clear hK K'
          try simp only [Act.put, List.setIfInBounds_toArray, List.set_cons_zero, List.set_cons_succ]
          have hx9 := Hend.out A9 c9 w9 hown9 hgr9
          obtain ⟨hx9, hm9', hz9, hmk⟩ := hx9
          obtain ⟨p0, p1, p2, f0, f1, f2, hl9⟩ := hx9
          have Hmk := Lib.hid hmk
          clear hown9 hgr9 hmk
          refine wpS_alone ?_
          refine stS_value (o := { dst := some 56, op := Go.Op.fieldAddr 39 (Go.Operand.tmp 9) 1, type := 0, pos := "ref.go:115", after := #[{ on := 0, ground := Go.Ground.phase }, { on := 1, ground := Go.Ground.phase }, { on := 2, ground := Go.Ground.phase }, { on := 3, ground := Go.Ground.phase }, { on := 4, ground := Go.Ground.phase }, { on := 5, ground := Go.Ground.phase }, { on := 6, ground := Go.Ground.phase }, { on := 7, ground := Go.Ground.phase }, { on := 8, ground := Go.Ground.phase }, { on := 9, ground := Go.Ground.phase }, { on := 10, ground := Go.Ground.phase }, { on := 11, ground := Go.Ground.phase }, { on := 12, ground := Go.Ground.phase }, { on := 13, ground := Go.Ground.phase }, { on := 14, ground := Go.Ground.phase }, { on := 15, ground := Go.Ground.phase }], guard := none }) (v := .pointer (some ⟨g9, 1, none⟩)) (w1 := w9) rfl (by rfl) ?_ ?_ ?_
          · go_simp
          · exact Ye.refl _
          try simp only [Act.put, List.setIfInBounds_toArray, List.set_cons_zero, List.set_cons_succ]
          refine wpS_alone ?_
          refine stS_call (o := { dst := none, op := Go.Op.store 34 (Go.Operand.tmp 56) (Go.Operand.tmp 55), type := 0, pos := "ref.go:115", after := #[{ on := 16, ground := Go.Ground.data }, { on := 15, ground := Go.Ground.data }, { on := 15, ground := Go.Ground.chain }, { on := 0, ground := Go.Ground.phase }, { on := 1, ground := Go.Ground.phase }, { on := 2, ground := Go.Ground.phase }, { on := 3, ground := Go.Ground.phase }, { on := 4, ground := Go.Ground.phase }, { on := 5, ground := Go.Ground.phase }, { on := 6, ground := Go.Ground.phase }, { on := 7, ground := Go.Ground.phase }, { on := 8, ground := Go.Ground.phase }, { on := 9, ground := Go.Ground.phase }, { on := 10, ground := Go.Ground.phase }, { on := 11, ground := Go.Ground.phase }, { on := 12, ground := Go.Ground.phase }, { on := 13, ground := Go.Ground.phase }, { on := 14, ground := Go.Ground.phase }, { on := 15, ground := Go.Ground.phase }], guard := none }) rfl (by rfl) (fun K' hK => ?_)
          go_simp
          refine hK _ _ (Ye.set _ _ _ _ _ _) ?_
          clear hK K'
          try simp only [Act.put, List.setIfInBounds_toArray, List.set_cons_zero, List.set_cons_succ]
          refine wpS_done ?_
          clear p0 p1 p2 f0 f1 f2 c0 c1 c2 c0d c2d hcd g1d g8d
          go_wp2
          go_roundw
          case rel => exact Hmk.out
          case measure => simp [intOf]; omega
        · refine stS_value (o := { dst := some 54, op := Go.Op.buildSlice 34 1 #[(0, Go.Operand.tmp 53)], type := 34, pos := "ref.go:115", after := #[{ on := 13, ground := Go.Ground.data }], guard := none }) (v := .slice (some ⟨wr.heap.size, 0, none⟩) 1 1) (w1 := w8.drewN 1) rfl (by rfl) ?_ ?_ ?_
          · rw [H8.out]; go_simp; rfl
          · exact hy8
          try simp only [Act.put, List.setIfInBounds_toArray, List.set_cons_zero, List.set_cons_succ]
          refine wpS_alone ?_
          refine stS_value (o := { dst := some 41, op := Go.Op.load 34 (Go.Operand.tmp 40), type := 34, pos := "ref.go:115", after := #[{ on := 0, ground := Go.Ground.data }], guard := none }) (v := .slice D J dd) (w1 := w8.drewN 1) rfl (by rfl) ?_ ?_ ?_
          · have hcl := g8d; go_simp
          · exact Ye.refl _
          try simp only [Act.put, List.setIfInBounds_toArray, List.set_cons_zero, List.set_cons_succ]
          refine wpS_alone ?_
          refine stS_call (o := { dst := some 55, op := Go.Op.call { callee := Go.Callee.builtin Go.Builtin.append, args := #[Go.Operand.tmp 41, Go.Operand.tmp 54], argTypes := #[34, 34] }, type := 34, pos := "ref.go:115", after := #[{ on := 1, ground := Go.Ground.data }, { on := 14, ground := Go.Ground.data }, { on := 12, ground := Go.Ground.chain }], guard := none }) rfl (by rfl) (fun K' hK => ?_)
          refine Sl.opAppAt bty1 (.tmp 41) (.tmp 54) rfl (n := J) (m := 1) (N := J + 1) (ws := vs ++ [.bool false]) rfl rfl (Hown8.out.drewN 1) (Hlit.out.drewN 1) (by simp [Value.oneCell']) rfl rfl (by omega) (by omega) hz8 ?_
          intro A9 c9 w9 hown9 hgr9
          refine hK _ _ (Ye.grows hgr9 hz8c) ?_
          clear hK K'
          try simp only [Act.put, List.setIfInBounds_toArray, List.set_cons_zero, List.set_cons_succ]
          have hx9 := Hend.out A9 c9 w9 hown9 hgr9
          obtain ⟨hx9, hm9', hz9, hmk⟩ := hx9
          obtain ⟨p0, p1, p2, f0, f1, f2, hl9⟩ := hx9
          have Hmk := Lib.hid hmk
          clear hown9 hgr9 hmk
          refine wpS_alone ?_
          refine stS_value (o := { dst := some 56, op := Go.Op.fieldAddr 39 (Go.Operand.tmp 9) 1, type := 0, pos := "ref.go:115", after := #[{ on := 0, ground := Go.Ground.phase }, { on := 1, ground := Go.Ground.phase }, { on := 2, ground := Go.Ground.phase }, { on := 3, ground := Go.Ground.phase }, { on := 4, ground := Go.Ground.phase }, { on := 5, ground := Go.Ground.phase }, { on := 6, ground := Go.Ground.phase }, { on := 7, ground := Go.Ground.phase }, { on := 8, ground := Go.Ground.phase }, { on := 9, ground := Go.Ground.phase }, { on := 10, ground := Go.Ground.phase }, { on := 11, ground := Go.Ground.phase }, { on := 12, ground := Go.Ground.phase }, { on := 13, ground := Go.Ground.phase }, { on := 14, ground := Go.Ground.phase }, { on := 15, ground := Go.Ground.phase }], guard := none }) (v := .pointer (some ⟨g9, 1, none⟩)) (w1 := w9) rfl (by rfl) ?_ ?_ ?_
          · go_simp
          · exact Ye.refl _
          try simp only [Act.put, List.setIfInBounds_toArray, List.set_cons_zero, List.set_cons_succ]
          refine wpS_alone ?_
          refine stS_call (o := { dst := none, op := Go.Op.store 34 (Go.Operand.tmp 56) (Go.Operand.tmp 55), type := 0, pos := "ref.go:115", after := #[{ on := 16, ground := Go.Ground.data }, { on := 15, ground := Go.Ground.data }, { on := 15, ground := Go.Ground.chain }, { on := 0, ground := Go.Ground.phase }, { on := 1, ground := Go.Ground.phase }, { on := 2, ground := Go.Ground.phase }, { on := 3, ground := Go.Ground.phase }, { on := 4, ground := Go.Ground.phase }, { on := 5, ground := Go.Ground.phase }, { on := 6, ground := Go.Ground.phase }, { on := 7, ground := Go.Ground.phase }, { on := 8, ground := Go.Ground.phase }, { on := 9, ground := Go.Ground.phase }, { on := 10, ground := Go.Ground.phase }, { on := 11, ground := Go.Ground.phase }, { on := 12, ground := Go.Ground.phase }, { on := 13, ground := Go.Ground.phase }, { on := 14, ground := Go.Ground.phase }, { on := 15, ground := Go.Ground.phase }], guard := none }) rfl (by rfl) (fun K' hK => ?_)
          go_simp
          refine hK _ _ (Ye.set _ _ _ _ _ _) ?_
          clear hK K'
          try simp only [Act.put, List.setIfInBounds_toArray, List.set_cons_zero, List.set_cons_succ]
          refine wpS_done ?_
          clear p0 p1 p2 f0 f1 f2 c0 c1 c2 c0d c2d hcd g1d g8d
          go_wp2
          go_roundw
          case rel => exact Hmk.out
          case measure => simp [intOf]; omega
    · have hJm : J = m := by omega
      subst hJm
      have y := Y4.out.below B4r.out (by omega)
      obtain ⟨w8, hw8⟩ : ∃ w8, w8 = put3 wr (w.heap.size + 1) (.slice A6 J c6) (.slice D J dd) (.int .i64 (gd : Int)) := ⟨_, rfl⟩
      have x8 := put3_box y (.slice A6 J c6) (.slice D J dd) (.int .i64 (gd : Int))
      have q8 := put3_below wr (w.heap.size + 1) (.slice A6 J c6) (.slice D J dd) (.int .i64 (gd : Int))
      have s8 := put3_size wr (w.heap.size + 1) (.slice A6 J c6) (.slice D J dd) (.int .i64 (gd : Int))
      rw [← hw8] at x8 q8 s8
      have hA : RcS 1 w8 (Fr w.heap.size w8) A6 J c6 (ivs (ic C)) := Hown7.out.keep (show Stays w7 w8 (Fr w4.heap.size w6) (Fr w.heap.size w8) from ⟨fun b hb => ⟨by have h : w4.heap.size ≤ b := hb.1; omega, by have := hb.2; omega⟩, fun p hp => by
        have h : w4.heap.size ≤ p.block := hp.1
        rw [hw8]
        have e1 := ex_put3 wr (w.heap.size + 1) (p.block + 1) (.slice A6 J c6) (.slice D J dd) (.int .i64 (gd : Int)) p (by omega) (by omega)
        exact e1.trans (hbel.cell (p := p) (by have h2 : p.block < w6.heap.size := hp.2; rw [Hg9.out]; exact h2))⟩)
      have hD : RcS 1 w8 (Fr w.heap.size w8) D J dd (lvb (insF f l C)) := by
        have h := Hown.out
        rw [List.take_of_length_le (by rw [HCl.out]; exact Nat.le_refl _)] at h
        exact h.rcS.keep (show Stays wr w8 (Fr w7.heap.size wr) (Fr w.heap.size w8) from ⟨fun b hb => ⟨by have h : w7.heap.size ≤ b := hb.1; omega, by have := hb.2; omega⟩, fun p hp => by
          have h : w7.heap.size ≤ p.block := hp.1
          rw [hw8]
          exact ex_put3 _ _ (p.block + 1) _ _ _ p (by omega) (by omega)⟩)
      have bb8 := BWr.out.trans (q8.mono (by omega))
      have HA := Lib.hid hA; have HD := Lib.hid hD; have BB8 := Lib.hid bb8; have W8 := Lib.hid hw8; have X8 := Lib.hid x8
      obtain ⟨o0, o1, o2, p0, p1, p2, -⟩ := y
      obtain ⟨g0, g1, g2, -, -, -, -⟩ := hx
      have hCm := HCl.out
      have HCm := Lib.hid hCm
      clear hA hD bb8 hw8 x8 q8 s8 hCm
      go_wp2
      change bodyPost _ _ _ _ _ (put3 wr (w.heap.size + 1) _ _ _)
      rw [← W8.out]
      have x8 := X8.out
      obtain ⟨y0, y1, y2, -, -, -, -⟩ := x8
      have hCm := HCm.out
      have hIm : (insF f l C).length = J := by rw [insF_len, hCm]
      refine bodyPost_ret (v := .tuple #[.agg #[.slice A6 J c6, .slice D J dd, .int .i64 (gd : Int)], .int .i64 0]) ?_ rfl ⟨A6, c6, D, dd, by rw [hCm, hIm, ← Hgd.out], by rw [hCm]; exact HA.out, by rw [hIm]; exact HD.out, BB8.out⟩
      simp [results, Tryz.results12, go_sem, y0, y1, y2]
end Go.Proofs.YtknmhdkomjjneaaGreatDoor.Pl

/-
  plan: the pieces are few, and what Scan, Make and Align come to, whatever the file and the cuts are.
-/

namespace Go.Proofs.YtknmhdkomjjneaaGreatDoor.Pl
open Go.RowKit

theorem pc_small (r : List (Nat × List UInt8)) : ∀ p ∈ r.map Tm.pc, p.2.length ≤ 1000000 ∧ ∀ x ∈ p.2, x.length ≤ 1000000 := fun p hp => by
  obtain ⟨q, hq, rfl⟩ := List.mem_map.1 hp
  refine ⟨by simp [Tm.pc], fun r hr => ?_⟩
  simp [Tm.pc] at hr
  subst hr
  simp
theorem csv_small (l : List UInt8) : ∀ p ∈ (Csv.Cv.ls l).map Csv.Cv.pc, p.2.length ≤ 1000000 ∧ ∀ r ∈ p.2, r.length ≤ 1000000 := fun p hp => by
  obtain ⟨q, hq, rfl⟩ := List.mem_map.1 hp
  have := (Csv.Cv.ls_few hq).2.1
  refine ⟨by simp [Csv.Cv.pc], fun r hr => ?_⟩
  simp [Csv.Cv.pc] at hr
  rw [hr]; omega
theorem bunp_small : ∀ (D : List Bun.Bm.F) (V : List (List UInt8)), ∀ p ∈ Bun.Bm.pcs D V, p.2.length ≤ 1000000 ∧ ∀ r ∈ p.2, r.length ≤ 1000000
  | [], _ => fun p hp => by unfold Bun.Bm.pcs at hp; rw [List.zipWith_nil_left] at hp; cases hp
  | _ :: _, [] => fun p hp => by unfold Bun.Bm.pcs at hp; rw [List.zipWith_nil_right] at hp; cases hp
  | f :: D, x :: V => fun p hp => by
    unfold Bun.Bm.pcs at hp
    rw [List.zipWith_cons_cons] at hp
    rcases List.mem_cons.1 hp with rfl | hp
    · refine ⟨by simp, fun r hr => ?_⟩
      simp at hr
      subst hr
      simp
    · exact bunp_small D V p hp
theorem bun_small (l : List UInt8) : ∀ p ∈ (Bun.Bm.scS l).1, p.2.length ≤ 1000000 ∧ ∀ r ∈ p.2, r.length ≤ 1000000 := by
  unfold Bun.Bm.scS
  split
  · intro p hp; cases hp
  · split
    · exact bunp_small _ _
    · split <;> exact bunp_small _ _
/-- The pieces hold few records, of few fields. -/
theorem scF_small (f k : Int) (l : List UInt8) : ∀ p ∈ (scF f k l).1, p.2.length ≤ 1000000 ∧ ∀ r ∈ p.2, r.length ≤ 1000000 := by
  unfold scF
  split
  · exact pc_small _
  split
  · exact csv_small l
  split
  · intro p hp
    have h := (Sq.Sm.ps_facts l).2.2.2 p hp
    exact ⟨by omega, fun r hr => by have := h.2 r hr; omega⟩
  split
  · intro p hp
    have h := (Cht.Hm.scS_facts l).2.1 p hp
    exact ⟨by have := h.2.1; omega, fun r hr => by have := (h.2.2 r hr).1; omega⟩
  split
  · exact pc_small _
  · exact bun_small l

theorem insF_len' (f : Int) (l : List UInt8) (C : List Nat) : (insF f l C).length = C.length := by unfold insF; simp

/-- Pieces, a number, an error. -/
def RetSu (w : World) (P : List (Nat × List (List (List UInt8)))) (g h : Int) (e : Ending) (w' : World) : Prop :=
  ∃ A c, e = .returned (.tuple #[.slice A P.length c, .int .i64 g, .int .i64 h]) ∧ PLS w' (· < w'.heap.size) A P.length c P ∧ Below w.heap.size w w'
/-- A plan, an error. -/
def RetPu (w : World) (L : List Int) (I : List Bool) (g h : Int) (e : Ending) (w' : World) : Prop :=
  ∃ A c D d, e = .returned (.tuple #[.agg #[.slice A L.length c, .slice D I.length d, .int .i64 g], .int .i64 h]) ∧ Rc 1 w' w'.heap.size A L.length c (ivs L) ∧ Rc 1 w' w'.heap.size D I.length d (lvb I) ∧ Below w.heap.size w w'
/-- Numbers, an error. -/
def RetIu (w : World) (L : List Int) (h : Int) (e : Ending) (w' : World) : Prop :=
  ∃ A c, e = .returned (.tuple #[.slice A L.length c, .int .i64 h]) ∧ Rc 1 w' w'.heap.size A L.length c (ivs L) ∧ Below w.heap.size w w'
theorem RetS.u {w w' : World} {e : Ending} {t : List (Nat × List (List (List UInt8))) × Nat × Nat} (h : RetS w t e w') : RetSu w t.1 t.2.1 t.2.2 e w' := by
  obtain ⟨A, c, rfl, h1, h2⟩ := h
  exact ⟨A, c, rfl, h1.keep (stays_weak fr_lt), h2⟩
theorem RetPl.u {w w' : World} {e : Ending} {C : List Nat} {I : List Bool} {g : Nat} (h : RetPl w C I g e w') : RetPu w (ic C) I g 0 e w' := by
  obtain ⟨A, c, D, d, rfl, h1, h2, h3⟩ := h
  refine ⟨A, c, D, d, by rw [ic_len], ?_, ?_, h3⟩
  · rw [ic_len]; exact (h1.keep (stays_weak fr_lt)).rc
  · exact (h2.keep (stays_weak fr_lt)).rc
theorem RetIE.u {w w' : World} {e : Ending} {C : List Nat} (h : RetIE w C e w') : RetIu w (ic C) 0 e w' := by
  obtain ⟨A, c, rfl, h1, h2⟩ := h
  refine ⟨A, c, by rw [ic_len], ?_, h2⟩
  rw [ic_len]; exact h1.rc
theorem nil_u (z : Nat) (w : World) : Rc z w w.heap.size none 0 0 [] := (Oc.nil z w 0 w.heap.size).rc

/-- What the six calls come to: the same, the program's and the document's. -/
structure Six (f k : Int) (A : Option Addr) (n c : Nat) (E : Option Addr) (m d : Nat) (w : World) (P : List (Nat × List (List (List UInt8)))) (g h : Int) (L : List Int) (I : List Bool) (g2 h2 : Int) (M : List Int) (h3 : Int) : Prop where
  few : P.length ≤ 1000000
  small : ∀ p ∈ P, p.2.length ≤ 1000000 ∧ ∀ r ∈ p.2, r.length ≤ 1000000
  lfew : L.length ≤ 1000000
  ifew : I.length ≤ 1000000
  scan : ∀ W, Below w.heap.size w W → Calls Tryz.prog 8 #[flv f k A n c] W (RetSu W P g h)
  rscan : ∀ W, Below w.heap.size w W → Calls Tryz.prog 9 #[flv f k A n c] W (RetSu W P g h)
  make : ∀ W, Below w.heap.size w W → Calls Tryz.prog 11 #[flv f k A n c, .slice E m d] W (RetPu W L I g2 h2)
  rmake : ∀ W, Below w.heap.size w W → Calls Tryz.prog 12 #[flv f k A n c, .slice E m d] W (RetPu W L I g2 h2)
  align : ∀ W, Below w.heap.size w W → Calls Tryz.prog 13 #[flv f k A n c, .slice E m d] W (RetIu W M h3)
  ralign : ∀ W, Below w.heap.size w W → Calls Tryz.prog 14 #[flv f k A n c, .slice E m d] W (RetIu W M h3)

theorem six_ex (f k : Int) (A : Option Addr) (n c : Nat) (l : List UInt8) (E : Option Addr) (m d : Nat) (cs : List Int) (w : World) (hr : Rb w w.heap.size A n c l) (hn : n ≤ 1500) (hc : Rc 1 w w.heap.size E m d (ivs cs)) (_ : m ≤ 100) (hx : Sq.Mx w) :
    ∃ P g h L I g2 h2 M h3, Six f k A n c E m d w P g h L I g2 h2 M h3 := by
  have hrW : ∀ W, Below w.heap.size w W → Rb W W.heap.size A n c l := fun W h => (hr.below h).more h.size
  have hcW : ∀ W, Below w.heap.size w W → Rc 1 W W.heap.size E m d (ivs cs) := fun W h => (hc.below h).more h.size
  have hxW : ∀ W, Below w.heap.size w W → Sq.Mx W := fun W h => hx.below h hx.2
  have hmk0 : ∀ {W w' : World} {e : Ending}, (e = .returned (.tuple #[pv0, .int .i64 1]) ∧ Below W.heap.size W w') → RetPu W [] [] 0 1 e w' := fun h => ⟨none, 0, none, 0, h.1, nil_u 1 _, nil_u 1 _, h.2⟩
  have hal0 : ∀ {W w' : World} {e : Ending}, (e = .returned (.tuple #[.slice none 0 0, .int .i64 1]) ∧ Below W.heap.size W w') → RetIu W [] 1 e w' := fun h => ⟨none, 0, h.1, nil_u 1 _, h.2⟩
  have hsc0 : ∀ {W w' : World} {e : Ending}, (e = .returned (.tuple #[.slice none 0 0, .int .i64 0, .int .i64 1]) ∧ Below W.heap.size W w') → RetSu W [] 0 1 e w' := fun h => ⟨none, 0, h.1, ⟨[], (Oc.nil 2 _ 0 0).rcS.keep (stays_weak fun b hb => hb.2), PsS.nil⟩, h.2⟩
  have hmax : n ≤ 9223372036854775807 := by omega
  have hn1 : decide (n ≤ 100000) = true := decide_eq_true (by omega)
  cases hF : isF f k with
  | false =>
    have hg : (isF f k && decide (n ≤ 100000)) = false := by rw [hF]; rfl
    exact ⟨[], 0, 1, [], [], 0, 1, [], 1, by simp, fun p hp => (by cases hp), by simp, by simp, fun W h => (scan_err f k A n c W hmax hg).mono fun e w' q => hsc0 q, fun W h => (rscan_err f k A n c W hg).mono fun e w' q => hsc0 q,
      fun W h => (make_err f k A n c E m d cs W hmax (hcW W h) (.inl hg)).mono fun e w' q => hmk0 q, fun W h => (rmake_err f k A n c E m d cs W (hcW W h) (.inl hg)).mono fun e w' q => hmk0 q,
      fun W h => (align_err f k A n c E m d cs W hmax (hcW W h) (.inl hg)).mono fun e w' q => hal0 q, fun W h => (ralign_err f k A n c E m d cs W (hcW W h) (.inl hg)).mono fun e w' q => hal0 q⟩
  | true =>
    have hasc := asc_F hF l
    rw [hr.len] at hasc
    have hPl : (scF f k l).1.length ≤ 1000000 := by
      rcases asc_len hasc with h | h
      · rw [List.length_map] at h; omega
      · have := congrArg List.length h; rw [List.length_map] at this; rw [this]; simp
    by_cases hC : IsC n cs
    · obtain ⟨C, rfl, hcu⟩ := isC_cu hC
      have hCl := cu_len hcu
      have hal := al_alD hasc hcu
      exact ⟨(scF f k l).1, (scF f k l).2.1, (scF f k l).2.2, ic C, insF f l C, (scF f k l).2.1, 0, ic (al ((scF f k l).1.map (·.1)) n C), 0, hPl, scF_small f k l, by rw [ic_len]; omega, by rw [insF_len']; omega,
        fun W h => (scan_ok f k A n c l W (hrW W h) (by omega) hF (hxW W h)).mono fun e w' q => q.u, fun W h => (rscan_ok f k A n c l W (hrW W h) (by omega) hF).mono fun e w' q => q.u,
        fun W h => (make_ok f k A n c l E m d C W (hrW W h) (by omega) (hcW W h) hcu hF (hxW W h)).mono fun e w' q => q.u, fun W h => (rmake_ok f k A n c l E m d C W (hrW W h) (by omega) (hcW W h) hcu hF).mono fun e w' q => q.u,
        fun W h => (align_ok f k A n c l E m d C W (hrW W h) (by omega) (hcW W h) hcu hF (hxW W h)).mono fun e w' q => q.u, fun W h => (ralign_ok f k A n c l E m d C W (hrW W h) (by omega) (hcW W h) hcu hF).mono fun e w' q => by rw [hal]; exact q.u⟩
    · exact ⟨(scF f k l).1, (scF f k l).2.1, (scF f k l).2.2, [], [], 0, 1, [], 1, hPl, scF_small f k l, by simp, by simp,
        fun W h => (scan_ok f k A n c l W (hrW W h) (by omega) hF (hxW W h)).mono fun e w' q => q.u, fun W h => (rscan_ok f k A n c l W (hrW W h) (by omega) hF).mono fun e w' q => q.u,
        fun W h => (make_err f k A n c E m d cs W hmax (hcW W h) (.inr hC)).mono fun e w' q => hmk0 q, fun W h => (rmake_err f k A n c E m d cs W (hcW W h) (.inr hC)).mono fun e w' q => hmk0 q,
        fun W h => (align_err f k A n c E m d cs W hmax (hcW W h) (.inr hC)).mono fun e w' q => hal0 q, fun W h => (ralign_err f k A n c E m d cs W (hcW W h) (.inr hC)).mono fun e w' q => hal0 q⟩
end Go.Proofs.YtknmhdkomjjneaaGreatDoor.Pl
