import Derived.Test.YtkekmokdlgocaaaGreatDoorJW38
import Derived.Test.YtkekmokdlgocaaaGreatDoorJW36
set_option maxRecDepth 100000
set_option maxHeartbeats 4000000
namespace Go.Proofs.YtkekmokdlgocaaaGreatDoor.Pl
open Go.RowKit
theorem F3.insides {W0 : World} {f k : Int} {s r i : Value} (h : F3 W0 f k s r i) (w : World) (A : Option Addr) (n c : Nat) (l : List UInt8) (E : Option Addr) (m d : Nat) (C : List Nat) (hr : Rb w w.heap.size A n c l) (hn : n ≤ 90000) (hc : Rc 1 w w.heap.size E m d (ivs (ic C))) (hC : Cu n C) :
  Calls Tryz.prog 46 #[.agg #[s, r, i], .slice A n c, .slice E m d] w (RetB w (insF f l C)) := by
 rcases h with ⟨_, rfl, h⟩ | ⟨rfl, h1, h2, g, hg, hlt, rfl, rfl, rfl⟩
 ·rcases h with ⟨rfl, -, -, rfl⟩ | ⟨rfl, -, -, rfl⟩ | ⟨rfl, -, -, rfl⟩ | ⟨rfl, -, -, rfl⟩ | ⟨rfl, -, -, rfl⟩
  ·exact insides_out A n c l E m d C s r _ (by omega) w hr hn hc hC
  ·exact insides_csv A n c l E m d C s r _ rfl w hr hn hc hC
  ·exact insides_out A n c l E m d C s r _ (by omega) w hr hn hc hC
  ·exact insides_out A n c l E m d C s r _ (by omega) w hr hn hc hC
  ·exact insides_out A n c l E m d C s r _ (by omega) w hr hn hc hC
 ·exact insides_out A n c l E m d C _ _ _ (by omega) w hr hn hc hC
def pv0 : Value := .agg #[.slice none 0 0, .slice none 0 0, .int .i64 0]
theorem make_err (f k : Int) (A : Option Addr) (n c : Nat) (E : Option Addr) (m d : Nat) (L : List Int) (w : World) (hn : n ≤ 9223372036854775807) (hc : Rc 1 w w.heap.size E m d (ivs L)) (h : (isF f k && decide (n ≤ 100000)) = false ∨ ¬ IsC n L) :
  Calls Tryz.prog 25 #[flv f k A n c, .slice E m d] w fun e w' => e = .returned (.tuple #[pv0, .int .i64 1]) ∧ Below w.heap.size w w' := by
 obtain ⟨w0, hw0⟩ : ∃ w0, w0 = w.alloc (.cells #[.int .i64 f, .int .i64 k, .slice A n c] 24) := ⟨_, rfl⟩
 have z0 : w0.heap.size = w.heap.size + 1 := by rw [hw0]; simp
 have b0 : Below w.heap.size w w0 := by rw [hw0]; exact ej _ _
 have x0 : Bx w0 w.heap.size (.int .i64 f) (.int .i64 k) (.slice A n c) := by rw [hw0]; exact Bx.made _ _ _ _ _
 obtain ⟨w1, hw1⟩ : ∃ w1, w1 = w0.alloc (.cells #[.slice none 0 0, .slice none 0 0, .int .i64 0] 28) := ⟨_, rfl⟩
 have z1 : w1.heap.size = w.heap.size + 2 := by rw [hw1]; simp [z0]
 have b01 : Below w0.heap.size w0 w1 := by rw [hw1]; exact ej _ _
 have x1 := x0.below b01 (by omega)
 have y1 : Bx w1 w0.heap.size (.slice none 0 0) (.slice none 0 0) (.int .i64 0) := by rw [hw1]; exact Bx.made _ _ _ _ _
 rw [z0] at y1
 have b1 := b0.trans (b01.mono (by omega))
 obtain ⟨o, ho⟩ : ∃ o, o = (isF f k && decide (n ≤ 100000)) := ⟨_, rfl⟩
 have Hc := ek (functionsOf_c f k A n c o ho hn w1)
 rw [← ho] at h
 have W0 := ek hw0; have W1 := ek hw1; have Hcu := ek hc; have H := ek h; have X1 := ek x1; have Z0 := ek z0
 obtain ⟨c0, c1, c2, -, -, -, hlt⟩ := x1
 clear hw0 hw1 ho b0 x0 b01 h hc z0
 go_enter Tryz.func25, Tryz.ntmps25
 go_wp2_with (rw [← W0.out, ← W1.out])
 refine Hc.out.mono ?_
 rintro e w2 ⟨s, r, i, rfl, -, hfv, b2⟩
 have z2 := b2.size
 have bb := b1.trans (b2.mono (by omega))
 have x2 := X1.out.below b2 hlt
 have y2 := y1.below b2 (by omega)
 clear c0 c1 c2
 have fin : ∀ (K : Act) (W : World), Bx W (w.heap.size + 1) (.slice none 0 0) (.slice none 0 0) (.int .i64 0) → Below w.heap.size w W → K.tmps[4]? = some (.pointer (some ⟨w.heap.size + 1, 0,none⟩)) → K.tmps[5]? = some (.int .i64 1) → K.defers = [] →
   bodyPost Tryz.prog Tryz.f25 (fun e w' => e = .returned (.tuple #[pv0, .int .i64 1]) ∧ Below w.heap.size w w') Exit.ret K W := by
  intro K W hx hb h4 h5 hd
  obtain ⟨y0, y1, y2, -, -, -, -⟩ := hx
  refine bodyPost_ret (v := .tuple #[pv0, .int .i64 1]) ?_ hd ⟨rfl, hb⟩
  simp [results, Tryz.results25, go_sem, y0, y1, y2, h4, h5, pv0]
 have Fin := ek fin
 clear fin
 cases o with
 | false =>
  obtain ⟨w3, hw3⟩ : ∃ w3, w3 = put3 w2 (w.heap.size + 1) (.slice none 0 0) (.slice none 0 0) (.int .i64 0) := ⟨_, rfl⟩
  obtain ⟨w4, hw4⟩ : ∃ w4, w4 = w3.alloc (.cells #[s, r, i] 89) := ⟨_, rfl⟩
  have x3 := put3_box y2 (.slice none 0 0) (.slice none 0 0) (.int .i64 0)
  rw [← hw3] at x3
  have b23 := put3_below w2 (w.heap.size + 1) (.slice none 0 0) (.slice none 0 0) (.int .i64 0)
  rw [← hw3] at b23
  have b34 : Below w3.heap.size w3 w4 := by rw [hw4]; exact ej _ _
  have x4 := x3.below b34 x3.lt
  have b4 := (bb.trans (b23.mono (by omega))).trans (b34.mono (by have := b23.size; omega))
  have X4 := ek x4; have B4 := ek b4; have W3 := ek hw3; have W4 := ek hw4
  obtain ⟨c0, c1, c2, f0, f1, f2, hlt2⟩ := y2
  have hlt3 : w.heap.size + 1 < w2.heap.size := by omega
  clear b23 b34 x3 hw3 hw4 x4 b4 x2 bb y1 b1 b2
  rcases hfv with ⟨a, b, c', ca, cb, cc, rfl, rfl, rfl⟩ | ⟨rfl, rfl, rfl⟩
  all_goals
   go_wp2
   have h1 := X4.out
   have h2 := B4.out
   rw [W4.out, W3.out] at h1 h2
   exact Fin.out _ _ h1 h2 rfl rfl rfl
 | true =>
  have hno := H.out.resolve_left (by simp)
  obtain ⟨w3, hw3⟩ : ∃ w3, w3 = w2.alloc (.cells #[s, r, i] 89) := ⟨_, rfl⟩
  have b23 : Below w2.heap.size w2 w3 := by rw [hw3]; exact ej _ _
  have z3 := b23.size
  have x3 := x2.below b23 x2.lt
  have y3 := y2.below b23 y2.lt
  have b3 := bb.trans (b23.mono (by omega))
  have Hac := ek (areCuts_c E m d n L w3 ((Hcu.out.below b3).more (by omega)) false (by simp [hno]))
  have W3 := ek hw3; have Y3 := ek y3
  obtain ⟨c0, c1, c2, -, -, -, hlt2⟩ := x2
  have hlt4 : w.heap.size < w2.heap.size := by omega
  clear b23 hw3 y3 bb y1 b1 b2 y2 x3 hno
  rcases hfv with ⟨a, b, c', ca, cb, cc, rfl, rfl, rfl⟩ | ⟨rfl, rfl, rfl⟩
  all_goals
   go_wp2_with fail
   rw [← W3.out]
   refine Hac.out.mono ?_
   rintro e w4 ⟨rfl, b4⟩
   have y4 := Y3.out.below b4 Y3.out.lt
   have bb4 := b3.trans (b4.mono (by omega))
   have x5 := put3_box y4 (.slice none 0 0) (.slice none 0 0) (.int .i64 0)
   have b5 := bb4.trans ((put3_below w4 (w.heap.size + 1) (.slice none 0 0) (.slice none 0 0) (.int .i64 0)).mono (by omega))
   have X5 := ek x5; have B5 := ek b5
   obtain ⟨e0, e1, e2, f0, f1, f2, hlt5⟩ := y4
   clear x5 b5 c0 c1 c2
   go_wp2
   exact Fin.out _ _ X5.out B5.out rfl rfl rfl
def Ex (g B : Nat) (w w' : World) : Prop := ∀ p : Addr, p.block ≠ g → p.block < B → w'.cell? p = w.cell? p
theorem Ex.refl {g B : Nat} (w : World) : Ex g B w w := fun _ _ _ => rfl
theorem Ex.trans {g B : Nat} (a b c : World) (h : Ex g B a b) (h2 : Ex g B b c) : Ex g B a c := fun p h1 h3 => (h2 p h1 h3).trans (h p h1 h3)
theorem Ex.of {g B B' : Nat} {w w' : World} (h : Below B' w w') (hB : B ≤ B') : Ex g B w w' := fun _ _ h2 => h.cell (Nat.lt_of_lt_of_le h2 hB)
theorem ex_put3 (w : World) (g B : Nat) (v0 v1 v2 : Value) : Ex g B w (put3 w g v0 v1 v2) := fun p h1 _ => by
 obtain ⟨b, j, pa⟩ := p
 have hne : ∀ k, (⟨g, k,none⟩ : Addr) ≠ ⟨b, j, pa⟩ := fun k q => h1 (by injection q with q; exact q.symm)
 unfold put3
 rw [World.cell?_setCell_other _ _ _ _ (hne 2), World.cell?_setCell_other _ _ _ _ (hne 1), World.cell?_setCell_other _ _ _ _ (hne 0)]
theorem asc_len {hi : Nat} : ∀ {l : List Nat} {lo : Nat}, Asc lo hi l → lo + l.length ≤ hi ∨ l = []
 | [], _, _ => .inr rfl
 | x :: l, lo, h => by
  left
  have h1 := h.1
  have h2 := h.2.1
  rcases asc_len h.2.2 with h3 | h3
  ·simp only [List.length_cons]; omega
  ·subst h3; simp only [List.length_cons, List.length_nil]; omega
theorem cu_len {n : Nat} {C : List Nat} (h : Cu n C) : C.length ≤ n + 1 := by
 rcases asc_len (cu_get h) with h1 | h1
 ·omega
 ·rw [h1]; simp
def RetPl (w : World) (C : List Nat) (I : List Bool) (g : Nat) (e : Ending) (w' : World) : Prop :=
 ∃ A c D d, e = .returned (.tuple #[.agg #[.slice A C.length c, .slice D I.length d, .int .i64 (g : Int)], .int .i64 0]) ∧ RcS 1 w' (Fr w.heap.size w') A C.length c (ivs (ic C)) ∧ RcS 1 w' (Fr w.heap.size w') D I.length d (lvb I) ∧ Below w.heap.size w w'
theorem make_ok (f k : Int) (A : Option Addr) (n c : Nat) (l : List UInt8) (E : Option Addr) (m d : Nat) (C : List Nat) (w : World) (hr : Rb w w.heap.size A n c l) (hn : n ≤ 90000) (hc : Rc 1 w w.heap.size E m d (ivs (ic C))) (hC : Cu n C) (hF : isF f k = true) (hx : Sq.Mx w) :
  Calls Tryz.prog 25 #[flv f k A n c, .slice E m d] w (RetPl w C (insF f l C) (scF f k l).2.1) := by
 have hCl : C.length = m := by have := hc.len1; rw [ivs_length, ic_len] at this; exact this
 have hm1 := (cu_pos hC).1
 have hm2 := cu_len hC
 obtain ⟨w0, hw0⟩ : ∃ w0, w0 = w.alloc (.cells #[.int .i64 f, .int .i64 k, .slice A n c] 24) := ⟨_, rfl⟩
 have z0 : w0.heap.size = w.heap.size + 1 := by rw [hw0]; simp
 have b0 : Below w.heap.size w w0 := by rw [hw0]; exact ej _ _
 have x0 : Bx w0 w.heap.size (.int .i64 f) (.int .i64 k) (.slice A n c) := by rw [hw0]; exact Bx.made _ _ _ _ _
 obtain ⟨w1, hw1⟩ : ∃ w1, w1 = w0.alloc (.cells #[.slice none 0 0, .slice none 0 0, .int .i64 0] 28) := ⟨_, rfl⟩
 have z1 : w1.heap.size = w.heap.size + 2 := by rw [hw1]; simp [z0]
 have b01 : Below w0.heap.size w0 w1 := by rw [hw1]; exact ej _ _
 have x1 := x0.below b01 (by omega)
 have y1 : Bx w1 w0.heap.size (.slice none 0 0) (.slice none 0 0) (.int .i64 0) := by rw [hw1]; exact Bx.made _ _ _ _ _
 rw [z0] at y1
 have b1 := b0.trans (b01.mono (by omega))
 have Hc := ek (functionsOf_c f k A n c true (by rw [hF]; simp; omega) (by omega) w1)
 have W0 := ek hw0; have W1 := ek hw1; have Hcu := ek hc; have X1 := ek x1; have Z0 := ek z0; have Hr := ek hr; have Hx := ek hx; have HC := ek hC; have HCl := ek hCl
 obtain ⟨c0, c1, c2, -, -, -, hlt⟩ := x1
 clear hw0 hw1 b0 x0 b01 hc z0 hr hx hF hCl hC
 go_enter Tryz.func25, Tryz.ntmps25
 go_wp2_with (rw [← W0.out, ← W1.out])
 refine Hc.out.mono ?_
 rintro e w2 ⟨s, r, i, rfl, hf3, hfv, b2⟩
 have hf3 := hf3 rfl
 have z2 := b2.size
 have bb := b1.trans (b2.mono (by omega))
 have x2 := X1.out.below b2 hlt
 have y2 := y1.below b2 (by omega)
 clear c0 c1 c2
 obtain ⟨w3, hw3⟩ : ∃ w3, w3 = w2.alloc (.cells #[s, r, i] 89) := ⟨_, rfl⟩
 have b23 : Below w2.heap.size w2 w3 := by rw [hw3]; exact ej _ _
 have z3 := b23.size
 have x3 := x2.below b23 x2.lt
 have y3 := y2.below b23 y2.lt
 have v3 : Bx w3 w2.heap.size s r i := by rw [hw3]; exact Bx.made _ _ _ _ _
 have b3 := bb.trans (b23.mono (by omega))
 have Hac := ek (areCuts_c E m d n (ic C) w3 ((Hcu.out.below b3).more (by omega)) true (by simp [cu_isC HC.out]))
 have hf3' := hf3.below b23 (Nat.le_refl _)
 obtain ⟨a, ca, rfl, hent, hsc⟩ := hf3'.scan
 have W3 := ek hw3; have Y3 := ek y3; have X3 := ek x3; have V3 := ek v3; have F3' := ek hf3'; have Hsc := ek hsc; have B3 := ek b3
 obtain ⟨c0, c1, c2, -, -, -, hlt2⟩ := x2
 have hlt4 : w.heap.size < w2.heap.size := by omega
 clear b23 hw3 y3 bb y1 b1 b2 y2 x3 v3 hf3 hf3' hsc b3
 rcases hfv with ⟨a', b, c', ca', cb, cc, h1, rfl, rfl⟩ | ⟨h1, _⟩
 ·clear h1
  go_wp2_with fail
  rw [← W3.out]
  refine Hac.out.mono ?_
  rintro e w4 ⟨rfl, b4⟩
  have z4 := b4.size
  have y4 := Y3.out.below b4 Y3.out.lt
  have x4 := X3.out.below b4 X3.out.lt
  have v4 := V3.out.below b4 V3.out.lt
  have bb4 := B3.out.trans (b4.mono (by omega))
  have Hs2 := ek (Hsc.out w4 A n c l b4 ((Hr.out.below bb4).more (by omega)) hn (Hx.out.below bb4 Hx.out.2))
  have F4 := ek (F3'.out.below b4 (Nat.le_refl _))
  have X4 := ek x4; have Y4 := ek y4; have V4 := ek v4; have BB4 := ek bb4
  clear c0 c1 c2
  obtain ⟨c0, c1, c2, -, -, -, hlt6⟩ := x4
  obtain ⟨v0, v1, v2, -, -, -, hlt7⟩ := v4
  clear y4 bb4 b4
  go_wp2_with fail
  rw [hent, Oper.upon_enter]
  refine Hs2.out.mono ?_
  rintro e w5 ⟨A3, c3, rfl, -, b5⟩
  have z5 := b5.size
  have x5 := X4.out.below b5 X4.out.lt
  have y5 := Y4.out.below b5 Y4.out.lt
  have v5 := V4.out.below b5 V4.out.lt
  have bb5 := BB4.out.trans (b5.mono (by omega))
  have F5 := ek (F4.out.below b5 (Nat.le_refl _))
  have Y5 := ek y5; have BB5 := ek bb5
  clear c0 c1 c2 v0 v1 v2
  obtain ⟨c0, c1, c2, -, -, -, hlt8⟩ := x5
  obtain ⟨v0, v1, v2, -, -, -, hlt9⟩ := v5
  obtain ⟨gd, hgd⟩ : ∃ gd, gd = (scF f k l).2.1 := ⟨_, rfl⟩
  rw [← hgd]
  have Hgd := ek hgd
  have HB := ek (Nat.le_refl w5.heap.size)
  have Hcl := fun W (h : Below w5.heap.size w5 W) => clone_c E m d C W (((Hcu.out.below BB5.out).below (B := w.heap.size) (h.mono (by omega))).more (by have := h.size; omega)) (by have := HCl.out; omega) (by have := HCl.out; omega)
  have Hin := fun W (h : Below w5.heap.size w5 W) => F5.out.insides W A n c l E m d C (((Hr.out.below BB5.out).below (B := w.heap.size) (h.mono (by omega))).more (by have := h.size; omega)) hn (((Hcu.out.below BB5.out).below (B := w.heap.size) (h.mono (by omega))).more (by have := h.size; omega)) HC.out
  have Hcl := ek Hcl; have Hin := ek Hin
  clear hgd y5 bb5 b5
  go_wp2_with fail
  refine wp_region_schedR (Ex (w.heap.size + 1) w5.heap.size) Ex.refl Ex.trans [(false, 0), (false, 2), (false, 3), (false, 4), (false, 5), (false, 7), (true, 1), (true, 6), (false, 8), (true, 9), (false, 10)] (by kernel_rfl) (by kernel_rfl) (by kernel_rfl) (by kernel_rfl) (fun _ _ d _ _ h => by cases d <;> exact h) ?_
  refine wpR_read (o := ⟨some 36, .move (.tmp 1), 25, "plan.go:54", #[],none⟩) (v := .slice E m d) rfl (by rfl) ?_ ?_
  ·intro w' _; go_simp
  try simp only [Act.put, ep, eh, ei]
  refine wpR_read (o := ⟨some 38, .load 89 (.tmp 6), 89, "plan.go:54", #[],none⟩) (v := .agg #[fv a ca, fv b cb, fv c' cc]) rfl (by rfl) ?_ ?_
  ·intro w' hw'; have q0 := (hw' ⟨w2.heap.size, 0,none⟩ (by show w2.heap.size ≠ _; omega) (by show w2.heap.size < _; omega)).trans v0; have q1 := (hw' ⟨w2.heap.size, 1,none⟩ (by show w2.heap.size ≠ _; omega) (by show w2.heap.size < _; omega)).trans v1; have q2 := (hw' ⟨w2.heap.size, 2,none⟩ (by show w2.heap.size ≠ _; omega) (by show w2.heap.size < _; omega)).trans v2; go_simp
  try simp only [Act.put, ep, eh, ei]
  refine wpR_read (o := ⟨some 39, .fieldAddr 24 (.tmp 2) 2, 0, "plan.go:54", #[],none⟩) (v := .pointer (some ⟨w.heap.size, 2,none⟩)) rfl (by rfl) ?_ ?_
  ·intro w' _; go_simp
  try simp only [Act.put, ep, eh, ei]
  refine wpR_read (o := ⟨some 40, .load 22 (.tmp 39), 22, "plan.go:54", #[⟨3, .data⟩],none⟩) (v := .slice A n c) rfl (by rfl) ?_ ?_
  ·intro w' hw'; have q2 := (hw' ⟨w.heap.size, 2,none⟩ (by show w.heap.size ≠ _; omega) (by show w.heap.size < _; omega)).trans c2; go_simp
  try simp only [Act.put, ep, eh, ei]
  refine wpR_read (o := ⟨some 41, .move (.tmp 1), 25, "plan.go:54", #[],none⟩) (v := .slice E m d) rfl (by rfl) ?_ ?_
  ·intro w' _; go_simp
  try simp only [Act.put, ep, eh, ei]
  refine wpR_read (o := ⟨some 43, .move (.tmp 9), 3, "plan.go:54", #[],none⟩) (v := .int .i64 (gd : Int)) rfl (by rfl) ?_ ?_
  ·intro w' _; go_simp
  try simp only [Act.put, ep, eh, ei]
  refine wpR_call (o := ⟨some 37, .call { callee := .value (.func 45), args := #[.tmp 36], argTypes := #[25] }, 25, "plan.go:54", #[⟨0, .data⟩],none⟩) rfl (by rfl) (fun K hK => ?_)
  go_simp
  go_at_call 45
  with_reducible refine (Hcl.out w5.drew (show Below w5.heap.size w5 w5.drew from below_drewN (Below.refl _ _) 1)).mono ?_
  rintro e w6 ⟨A6, c6, rfl, h6, b6⟩
  have b6' : Below w5.heap.size w5 w6 := ⟨b6.os, b6.tape, b6.output, b6.size, b6.block⟩
  have z6 := b6'.size
  have H6 := ek h6; have B6 := ek b6'
  refine hK.out _ _ (Ex.of b6 (by show _ ≤ w5.heap.size; omega)) ?_
  clear hK K h6 b6 b6'
  try simp only [Act.put, ep, eh, ei]
  refine wpR_call (o := ⟨some 42, .call { callee := .value (.func 46), args := #[.tmp 38, .tmp 40, .tmp 41], argTypes := #[89, 22, 25] }, 26, "plan.go:54", #[⟨2, .data⟩,⟨4, .data⟩,⟨5, .data⟩,⟨1, .chain⟩],none⟩) rfl (by rfl) (fun K hK => ?_)
  go_simp
  go_at_call 46
  with_reducible refine (Hin.out _ B6.out).mono ?_
  rintro e w7 ⟨A7, c7, rfl, h7, b7⟩
  have z7 := b7.size
  have H7 := ek h7; have B7 := ek b7
  refine hK.out _ _ (Ex.of b7 (by omega)) ?_
  clear hK K h7 b7
  try simp only [Act.put, ep, eh, ei]
  refine wpR_read (o := ⟨some 44, .build 28 #[(0, .tmp 37), (1, .tmp 42), (2, .tmp 43)], 28, "plan.go:54", #[⟨1, .data⟩,⟨6, .data⟩,⟨7, .data⟩],none⟩) (v := .agg #[.slice A6 m c6, .slice A7 (insF f l C).length c7, .int .i64 (gd : Int)]) rfl (by rfl) ?_ ?_
  ·intro w' _; go_simp
  try simp only [Act.put, ep, eh, ei]
  refine wpR_call (o := ⟨none, .store 28 (.tmp 4) (.tmp 44), 0, "plan.go:54", #[⟨8, .data⟩,⟨6, .chain⟩,⟨0, .phase⟩,⟨1, .phase⟩,⟨2, .phase⟩,⟨3, .phase⟩,⟨4, .phase⟩,⟨5, .phase⟩,⟨6, .phase⟩,⟨7, .phase⟩,⟨8, .phase⟩],none⟩) rfl (by rfl) (fun K hK => ?_)
  have y7 := (Y5.out.below B6.out (by omega)).below B7.out (by omega)
  obtain ⟨w8, hw8⟩ : ∃ w8, w8 = put3 w7 (w.heap.size + 1) (.slice A6 m c6) (.slice A7 (insF f l C).length c7) (.int .i64 (gd : Int)) := ⟨_, rfl⟩
  have x8 := put3_box y7 (.slice A6 m c6) (.slice A7 (insF f l C).length c7) (.int .i64 (gd : Int))
  have q8 := put3_below w7 (w.heap.size + 1) (.slice A6 m c6) (.slice A7 (insF f l C).length c7) (.int .i64 (gd : Int))
  rw [← hw8] at x8 q8
  have X8 := ek x8; have Q8 := ek q8; have W8 := ek hw8
  obtain ⟨o0, o1, o2, o3, o4, o5, o6⟩ := y7
  clear x8 q8 hw8
  go_simp
  change K _ (put3 w7 (w.heap.size + 1) _ _ _)
  rw [← W8.out]
  refine hK.out _ _ (by rw [W8.out]; exact ex_put3 _ _ _ _ _ _) ?_
  clear hK K o0 o1 o2 o3 o4 o5 o6
  try simp only [Act.put, ep, eh, ei]
  refine wpR_read (o := ⟨some 5, .assign (.const (.int .i64 0)), 31, "plan.go:54", #[⟨9, .chain⟩,⟨0, .phase⟩,⟨1, .phase⟩,⟨2, .phase⟩,⟨3, .phase⟩,⟨4, .phase⟩,⟨5, .phase⟩,⟨6, .phase⟩,⟨7, .phase⟩,⟨8, .phase⟩,⟨9, .phase⟩],none⟩) (v := .int .i64 0) rfl (by rfl) ?_ ?_
  ·intro w' _; go_simp
  try simp only [Act.put, ep, eh, ei]
  refine wpR_done ?_
  have h6 := H6.out.keep B7.out
  have z78 := Q8.out.size
  have z7' : w6.heap.size ≤ w7.heap.size := z7
  have h68 := h6.rcS.keep (show Stays w7 w8 (Fr w5.drew.heap.size w7) (Fr w.heap.size w8) from ⟨fun b hb => ⟨by have h : w5.heap.size ≤ b := hb.1; omega, by have := hb.2; omega⟩, fun p hp => by
   have h : w5.heap.size ≤ p.block := hp.1
   rw [W8.out]
   exact ex_put3 _ _ (p.block + 1) _ _ _ p (by omega) (by omega)⟩)
  have h78 := H7.out.keep (show Stays w7 w8 (Fr w6.heap.size w7) (Fr w.heap.size w8) from ⟨fun b hb => ⟨by have h : w6.heap.size ≤ b := hb.1; omega, by have := hb.2; omega⟩, fun p hp => by
   have h : w6.heap.size ≤ p.block := hp.1
   rw [W8.out]
   exact ex_put3 _ _ (p.block + 1) _ _ _ p (by omega) (by omega)⟩)
  have bb8 := ((BB5.out.trans (B6.out.mono (by omega))).trans (B7.out.mono (by omega))).trans (Q8.out.mono (by omega))
  have x8 := X8.out
  obtain ⟨y0, y1, y2, -, -, -, -⟩ := x8
  have hCm := HCl.out
  go_wp2
  refine bodyPost_ret (v := .tuple #[.agg #[.slice A6 m c6, .slice A7 (insF f l C).length c7, .int .i64 (gd : Int)], .int .i64 0]) ?_ rfl ⟨A6, c6, A7, c7, by rw [Hgd.out, hCm], by rw [hCm]; exact h68, h78, bb8⟩
  simp [results, Tryz.results25, go_sem, y0, y1, y2]
 ·cases h1
def RetRw (w : World) (L : List (List (List UInt8))) (h : Nat) (e : Ending) (w' : World) : Prop :=
 ∃ A c, e = .returned (.tuple #[.slice A L.length c, .int .i64 (h : Int)]) ∧ RLS w' (Fr w.heap.size w') A L.length c L ∧ Below w.heap.size w w'
theorem bun_err (l : List UInt8) : (Bun.Bm.scS l).2.2 = 0 ∨ (Bun.Bm.scS l).2.2 = 3 := by
 unfold Bun.Bm.scS
 split
 ·exact .inr rfl
 ·split
  ·exact .inr rfl
  ·split
   ·exact .inr rfl
   ·exact .inl rfl
theorem bun_ef (k : Int) (l : List UInt8) : ef 5 (scF 5 k l).2.2 = (Bun.Bm.scS l).2.2 := by
 show ef 5 (Bun.Bm.scS l).2.2 = _
 rcases bun_err l with h | h <;> rw [h] <;> rfl
theorem bunp_one : ∀ (D : List Bun.Bm.F) (V : List (List UInt8)), ∀ p ∈ Bun.Bm.pcs D V, p.2.length ≤ 1
 | [], _ => fun p hp => by unfold Bun.Bm.pcs at hp; rw [List.zipWith_nil_left] at hp; cases hp
 | _ :: _, [] => fun p hp => by unfold Bun.Bm.pcs at hp; rw [List.zipWith_nil_right] at hp; cases hp
 | f :: D, x :: V => fun p hp => by
  unfold Bun.Bm.pcs at hp
  rw [List.zipWith_cons_cons] at hp
  rcases List.mem_cons.1 hp with rfl | hp
  ·simp
  ·exact bunp_one D V p hp
theorem bun_one (l : List UInt8) : ∀ p ∈ (Bun.Bm.scS l).1, p.2.length ≤ 1 := by
 unfold Bun.Bm.scS
 split
 ·intro p hp; cases hp
 ·split
  ·exact bunp_one _ _
  ·split <;> exact bunp_one _ _
theorem all_one : ∀ (P : List (Nat × List (List (List UInt8)))), (∀ p ∈ P, p.2.length ≤ 1) → (Tm.all P).length ≤ P.length
 | [], _ => by simp [Tm.all]
 | p :: P, h => by
  have ih := all_one P fun q hq => h q (List.mem_cons_of_mem _ hq)
  have h1 := h p (List.mem_cons_self ..)
  have e : Tm.all (p :: P) = p.2 ++ Tm.all P := rfl
  rw [e, List.length_append, List.length_cons]
  omega
theorem is_c (f k : Int) (o : Bool) (ho : o = isF f k) (w : World) : Calls Tryz.prog 40 #[.int .i64 f, .int .i64 k] w fun e w' => e = .returned (.bool o) ∧ w = w' := by
 unfold isF isU at ho
 by_cases h4 : f = 4
 ·subst h4
  rw [if_pos rfl] at ho
  obtain ⟨p, hp⟩ : ∃ p, p = decide (1 ≤ k) := ⟨_, rfl⟩
  obtain ⟨q, hq⟩ : ∃ q, q = decide (k ≤ 1000) := ⟨_, rfl⟩
  rw [← hp, ← hq] at ho
  have d1 := hp.symm
  have d2 := hq.symm
  have Ho := ek ho
  clear ho hp hq
  go_enter Tryz.func40, Tryz.ntmps40
  cases p <;> cases q
  all_goals
   go_wp2
   go_ret
   exact ⟨by rw [Ho.out]; rfl, rfl⟩
 ·rw [if_neg h4] at ho
  have d4 : (f == 4) = false := beq_eq_false_iff_ne.2 h4
  rw [show decide (f ≠ 4) = true by simpa using h4, Bool.and_true] at ho
  obtain ⟨p, hp⟩ : ∃ p, p = decide (0 ≤ f) := ⟨_, rfl⟩
  obtain ⟨q, hq⟩ : ∃ q, q = decide (f ≤ 5) := ⟨_, rfl⟩
  obtain ⟨r, hr⟩ : ∃ r, r = (k == 0) := ⟨_, rfl⟩
  rw [← hp, ← hq, ← hr] at ho
  have d1 := hp.symm
  have d2 := hq.symm
  have d3 := hr.symm
  have Ho := ek ho
  clear ho hp hq hr h4
  go_enter Tryz.func40, Tryz.ntmps40
  cases p <;> cases q <;> cases r
  all_goals
   go_wp2
   go_ret
   exact ⟨by rw [Ho.out]; rfl, rfl⟩
theorem rmay_c (f k : Int) (A : Option Addr) (n c : Nat) (o : Bool) (ho : o = (isF f k && decide (n ≤ 100000))) (w : World) : Calls Tryz.prog 20 #[flv f k A n c] w fun e w' => e = .returned (.bool o) ∧ Below w.heap.size w w' := by
 obtain ⟨w0, hw0⟩ : ∃ w0, w0 = w.alloc (.cells #[.int .i64 f, .int .i64 k, .slice A n c] 35) := ⟨_, rfl⟩
 have b0 : Below w.heap.size w w0 := by rw [hw0]; exact ej _ _
 have x0 : Bx w0 w.heap.size (.int .i64 f) (.int .i64 k) (.slice A n c) := by rw [hw0]; exact Bx.made _ _ _ _ _
 obtain ⟨p, hp⟩ : ∃ p, p = isF f k := ⟨_, rfl⟩
 obtain ⟨q, hq⟩ : ∃ q, q = decide (n ≤ 100000) := ⟨_, rfl⟩
 have Hc := ek (is_c f k p hp w0)
 rw [← hp, ← hq] at ho
 have d1 : decide ((n : Int) ≤ 100000) = q := by rw [hq]; simp; omega
 have W0 := ek hw0; have Ho := ek ho
 obtain ⟨c0, c1, c2, -, -, -, -⟩ := x0
 clear hw0 ho hp hq
 go_enter Tryz.func20, Tryz.ntmps20
 go_wp2_with (rw [← W0.out])
 refine Hc.out.mono ?_
 rintro e w1 ⟨rfl,rfl⟩
 cases p <;> cases q
 all_goals
  go_wp2
  go_ret
  exact ⟨by rw [Ho.out]; rfl, b0⟩
theorem rscans (k : Int) (A : Option Addr) (n c : Nat) (l : List UInt8) (w : World) (hr : Rb w w.heap.size A n c l) (hn : n ≤ 90000) :
  Calls Tryz.prog 60 #[.slice A n c] w (RetS w (scF 0 k l)) ∧ Calls Tryz.prog 61 #[.slice A n c] w (RetS w (scF 1 k l)) ∧ Calls Tryz.prog 62 #[.slice A n c] w (RetS w (scF 2 k l)) ∧
  Calls Tryz.prog 63 #[.slice A n c] w (RetS w (scF 3 k l)) ∧ Calls Tryz.prog 65 #[.slice A n c] w (RetS w (scF 5 k l)) := by
 refine ⟨(Txt.rscan_c A n c l w hr (by omega)).mono fun e w' ⟨A1, c1, h0, h1, h2⟩ => ?_, (Csv.scanD_c A n c l w hr (by omega)).mono fun e w' ⟨A1, c1, h0, h1, h2⟩ => ?_, (Sq.rscan_c A n c l w hr (by omega)).mono fun e w' ⟨A1, c1, h0, h1, h2⟩ => ?_, (Cht.rscan_c A n c l w hr (by omega)).mono fun e w' ⟨A1, c1, h0, h1, h2⟩ => ?_, (Bun.rscan_c A n c l w hr (by omega)).mono fun e w' ⟨A1, c1, h0, h1, h2⟩ => ?_⟩
 ·rw [scF_txt]
  exact ⟨A1, c1, by rw [List.length_map]; exact h0, by rw [List.length_map]; exact h1, h2⟩
 ·rw [scF_csv]
  exact ⟨A1, c1, by rw [List.length_map]; exact h0, by rw [List.length_map]; exact h1, h2⟩
 ·rw [scF_seq]
  exact ⟨A1, c1, h0, h1, h2⟩
 ·rw [scF_cht]
  exact ⟨A1, c1, h0, h1, h2⟩
 ·rw [scF_bun]
  exact ⟨A1, c1, h0, h1, h2⟩
theorem rfixed (k : Int) (A : Option Addr) (n c : Nat) (l : List UInt8) (w : World) (hr : Rb w w.heap.size A n c l) (hn : n ≤ 90000) (hk : 1 ≤ k) (hk2 : k ≤ 1000) :
  Calls Tryz.prog 64 #[.slice A n c, .int .i64 k] w (RetS w (scF 4 k l)) := by
 have e : ((k.toNat : Nat) : Int) = k := by omega
 have h := Fix.rscan_c A n c k.toNat l w hr (by omega) (by omega) (by omega)
 rw [e] at h
 refine h.mono fun e w' ⟨A1, c1, h0, h1, h2⟩ => ?_
 rw [scF_fix]
 exact ⟨A1, c1, by rw [List.length_map]; exact h0, by rw [List.length_map]; exact h1, h2⟩
theorem rscan_err (f k : Int) (A : Option Addr) (n c : Nat) (w : World) (h : (isF f k && decide (n ≤ 100000)) = false) :
  Calls Tryz.prog 30 #[flv f k A n c] w fun e w' => e = .returned (.tuple #[.slice none 0 0, .int .i64 0, .int .i64 1]) ∧ Below w.heap.size w w' := by
 obtain ⟨w0, hw0⟩ : ∃ w0, w0 = w.alloc (.cells #[.int .i64 f, .int .i64 k, .slice A n c] 35) := ⟨_, rfl⟩
 have b0 : Below w.heap.size w w0 := by rw [hw0]; exact ej _ _
 have x0 : Bx w0 w.heap.size (.int .i64 f) (.int .i64 k) (.slice A n c) := by rw [hw0]; exact Bx.made _ _ _ _ _
 have Hc := ek (rmay_c f k A n c false h.symm w0)
 have W0 := ek hw0
 obtain ⟨c0, c1, c2, -, -, -, -⟩ := x0
 unfold flv at Hc
 clear hw0 h
 go_enter Tryz.func30, Tryz.ntmps30
 go_wp2_with (rw [← W0.out])
 refine Hc.out.mono ?_
 rintro e w1 ⟨rfl, b1⟩
 go_wp2
 go_ret3
 exact ⟨rfl, b0.trans (b1.mono b0.size)⟩
theorem rscan_ok (f k : Int) (A : Option Addr) (n c : Nat) (l : List UInt8) (w : World) (hr : Rb w w.heap.size A n c l) (hn : n ≤ 90000) (hF : isF f k = true) :
  Calls Tryz.prog 30 #[flv f k A n c] w (RetS w (scF f k l)) := by
 obtain ⟨w0, hw0⟩ : ∃ w0, w0 = w.alloc (.cells #[.int .i64 f, .int .i64 k, .slice A n c] 35) := ⟨_, rfl⟩
 have b0 : Below w.heap.size w w0 := by rw [hw0]; exact ej _ _
 have z0 : w0.heap.size = w.heap.size + 1 := by rw [hw0]; simp
 have x0 : Bx w0 w.heap.size (.int .i64 f) (.int .i64 k) (.slice A n c) := by rw [hw0]; exact Bx.made _ _ _ _ _
 have Hc := ek (rmay_c f k A n c true (by rw [hF]; simp; omega) w0)
 have Hr := ek hr
 have W0 := ek hw0; have X0 := ek x0
 have hlt := x0.lt
 obtain ⟨c0, c1, c2, -, -, -, -⟩ := x0
 unfold flv at Hc
 clear hw0 hr
 go_enter Tryz.func30, Tryz.ntmps30
 go_wp2_with (rw [← W0.out])
 refine Hc.out.mono ?_
 rintro e w1 ⟨rfl, b1⟩
 have z1 := b1.size
 have bb := b0.trans (b1.mono (by omega))
 have hr1 := (Hr.out.below bb).more (B' := w1.heap.size) (by omega)
 obtain ⟨y0, y1, y2, -, -, -, -⟩ := X0.out.below b1 hlt
 have hfin : ∀ (w2 : World) (e : Ending), RetS w1 (scF f k l) e w2 → RetS w (scF f k l) e w2 := fun w2 e ⟨A1, c1, h0, h1, h2⟩ => ⟨A1, c1, h0, h1.keep (stays_weak fun b hb => ⟨by have := hb.1; omega, hb.2⟩), bb.trans (h2.mono (by omega))⟩
 obtain ⟨r0, r1, r2, r3, r5⟩ := rscans k A n c l w1 hr1 hn
 have r4 := rfixed k A n c l w1 hr1 hn
 have Hfin := ek hfin
 clear hfin c0 c1 c2 hr1
 unfold isF at hF
 by_cases h4 : f = 4
 ·subst h4
  rw [if_pos rfl] at hF
  simp only [Bool.and_eq_true, decide_eq_true_eq] at hF
  have r4 := r4 hF.1 hF.2
  have R := ek r4
  clear r0 r1 r2 r3 r4 r5
  go_wp2_with fail
  refine R.out.mono ?_
  rintro e w2 h
  have h := Hfin.out w2 e h
  obtain ⟨A1, c1, rfl, h1, h2⟩ := h
  have H1 := ek h1
  clear h1
  go_wp2
  go_ret3
  exact ⟨A1, c1, rfl, H1.out, h2⟩
 ·rw [if_neg h4] at hF
  unfold isU at hF
  simp only [Bool.and_eq_true, decide_eq_true_eq, beq_iff_eq] at hF
  obtain ⟨⟨⟨g1, g2⟩, g3⟩, rfl⟩ := hF
  have hc : f = 0 ∨ f = 1 ∨ f = 2 ∨ f = 3 ∨ f = 5 := by omega
  clear r4 g1 g2 g3 h4
  rcases hc with rfl | rfl | rfl | rfl | rfl
  ·have R := ek r0
   clear r0 r1 r2 r3 r5
   go_wp2_with fail
   refine R.out.mono ?_
   rintro e w2 h
   have h := Hfin.out w2 e h
   obtain ⟨A1, c1, rfl, h1, h2⟩ := h
   have H1 := ek h1
   clear h1
   go_wp2
   go_ret3
   exact ⟨A1, c1, rfl, H1.out, h2⟩
  ·have R := ek r1
   clear r0 r1 r2 r3 r5
   go_wp2_with fail
   refine R.out.mono ?_
   rintro e w2 h
   have h := Hfin.out w2 e h
   obtain ⟨A1, c1, rfl, h1, h2⟩ := h
   have H1 := ek h1
   clear h1
   go_wp2
   go_ret3
   exact ⟨A1, c1, rfl, H1.out, h2⟩
  ·have R := ek r2
   clear r0 r1 r2 r3 r5
   go_wp2_with fail
   refine R.out.mono ?_
   rintro e w2 h
   have h := Hfin.out w2 e h
   obtain ⟨A1, c1, rfl, h1, h2⟩ := h
   have H1 := ek h1
   clear h1
   go_wp2
   go_ret3
   exact ⟨A1, c1, rfl, H1.out, h2⟩
  ·have R := ek r3
   clear r0 r1 r2 r3 r5
   go_wp2_with fail
   refine R.out.mono ?_
   rintro e w2 h
   have h := Hfin.out w2 e h
   obtain ⟨A1, c1, rfl, h1, h2⟩ := h
   have H1 := ek h1
   clear h1
   go_wp2
   go_ret3
   exact ⟨A1, c1, rfl, H1.out, h2⟩
  ·have R := ek r5
   clear r0 r1 r2 r3 r5
   go_wp2_with fail
   refine R.out.mono ?_
   rintro e w2 h
   have h := Hfin.out w2 e h
   obtain ⟨A1, c1, rfl, h1, h2⟩ := h
   have H1 := ek h1
   clear h1
   go_wp2
   go_ret3
   exact ⟨A1, c1, rfl, H1.out, h2⟩
theorem pc_small (r : List (Nat × List UInt8)) : ∀ p ∈ r.map Tm.pc, p.2.length ≤ 1000000 ∧ ∀ x ∈ p.2, x.length ≤ 1000000 := fun p hp => by
 obtain ⟨q, hq, rfl⟩ := List.mem_map.1 hp
 refine ⟨by simp [Tm.pc], fun r hr => ?_⟩
 simp [Tm.pc] at hr
 subst hr
 simp
theorem csv_small (l : List UInt8) : ∀ p ∈ (Csv.Cv.ls l).map Csv.Cv.pc, p.2.length ≤ 1000000 ∧ ∀ r ∈ p.2, r.length ≤ 1000000 := fun p hp => by
 obtain ⟨q, hq, rfl⟩ := List.mem_map.1 hp
 have := (Csv.Cv.ls_few hq).2.1
 refine ⟨by simp [Csv.Cv.pc], fun r hr => ?_⟩
 simp [Csv.Cv.pc] at hr
 rw [hr]; omega
theorem bunp_small : ∀ (D : List Bun.Bm.F) (V : List (List UInt8)), ∀ p ∈ Bun.Bm.pcs D V, p.2.length ≤ 1000000 ∧ ∀ r ∈ p.2, r.length ≤ 1000000
 | [], _ => fun p hp => by unfold Bun.Bm.pcs at hp; rw [List.zipWith_nil_left] at hp; cases hp
 | _ :: _, [] => fun p hp => by unfold Bun.Bm.pcs at hp; rw [List.zipWith_nil_right] at hp; cases hp
 | f :: D, x :: V => fun p hp => by
  unfold Bun.Bm.pcs at hp
  rw [List.zipWith_cons_cons] at hp
  rcases List.mem_cons.1 hp with rfl | hp
  ·refine ⟨by simp, fun r hr => ?_⟩
   simp at hr
   subst hr
   simp
  ·exact bunp_small D V p hp
theorem bun_small (l : List UInt8) : ∀ p ∈ (Bun.Bm.scS l).1, p.2.length ≤ 1000000 ∧ ∀ r ∈ p.2, r.length ≤ 1000000 := by
 unfold Bun.Bm.scS
 split
 ·intro p hp; cases hp
 ·split
  ·exact bunp_small _ _
  ·split <;> exact bunp_small _ _
theorem scF_small (f k : Int) (l : List UInt8) : ∀ p ∈ (scF f k l).1, p.2.length ≤ 1000000 ∧ ∀ r ∈ p.2, r.length ≤ 1000000 := by
 unfold scF
 split
 ·exact pc_small _
 split
 ·exact csv_small l
 split
 ·intro p hp
  have h := (Sq.Sm.ps_facts l).2.2.2 p hp
  exact ⟨by omega, fun r hr => by have := h.2 r hr; omega⟩
 split
 ·intro p hp
  have h := (Cht.Hm.scS_facts l).2.1 p hp
  exact ⟨by have := h.2.1; omega, fun r hr => by have := (h.2.2 r hr).1; omega⟩
 split
 ·exact pc_small _
 ·exact bun_small l
theorem insF_len' (f : Int) (l : List UInt8) (C : List Nat) : (insF f l C).length = C.length := by unfold insF; simp
def RetPu (w : World) (L : List Int) (I : List Bool) (g h : Int) (e : Ending) (w' : World) : Prop :=
 ∃ A c D d, e = .returned (.tuple #[.agg #[.slice A L.length c, .slice D I.length d, .int .i64 g], .int .i64 h]) ∧ Rc 1 w' w'.heap.size A L.length c (ivs L) ∧ Rc 1 w' w'.heap.size D I.length d (lvb I) ∧ Below w.heap.size w w'
theorem RetPl.u {w w' : World} {e : Ending} {C : List Nat} {I : List Bool} {g : Nat} (h : RetPl w C I g e w') : RetPu w (ic C) I g 0 e w' := by
 obtain ⟨A, c, D, d, rfl, h1, h2, h3⟩ := h
 refine ⟨A, c, D, d, by rw [ic_len], ?_, ?_, h3⟩
 ·rw [ic_len]; exact (h1.keep (stays_weak fr_lt)).rc
 ·exact (h2.keep (stays_weak fr_lt)).rc
theorem nil_u (z : Nat) (w : World) : Rc z w w.heap.size none 0 0 [] := (Oc.nil z w 0 w.heap.size).rc
def EqgRel {α : Type} (w : World) (l r : List α) (m : Nat) (t : Value) (wr : World) : Prop := ∃ j : Nat, t = .int .i64 (j : Int) ∧ j ≤ m ∧ l.take j = r.take j ∧ Below w.heap.size w wr
theorem lvb_at {w : World} {B m c k : Nat} {A : Option Addr} {I : List Bool} (h : Rc 1 w B A m c (lvb I)) (hk : k < m) :
  ∃ b o q, A = some ⟨b, o,none⟩ ∧ b < B ∧ w.cell? ⟨b, o + k,none⟩ = some (.bool q) ∧ I[k]? = some q := by
 obtain ⟨b, o, x, rfl, hb, hc, hx⟩ := h.at_ (k := k) hk
 unfold lvb at hx
 rw [List.getElem?_map] at hx
 obtain ⟨q, hq, rfl⟩ := Option.map_eq_some_iff.1 hx
 exact ⟨b, o, q, rfl, hb, hc, hq⟩
theorem lvb_len1 {w : World} {B m c : Nat} {A : Option Addr} {I : List Bool} (h : Rc 1 w B A m c (lvb I)) : I.length = m := by
 have := h.len1
 unfold lvb at this
 rw [List.length_map] at this
 exact this
theorem eqi_g (A A' : Option Addr) (m c n c' : Nat) (L M : List Int) (w : World) (hr : Rc 1 w w.heap.size A m c (ivs L)) (hs : Rc 1 w w.heap.size A' n c' (ivs M)) (hm : m ≤ 9000000) (o : Bool) (ho : o = decide (L = M)) :
  Calls Tryz.prog 70 #[.slice A m c, .slice A' n c'] w fun e w' => e = .returned (.bool o) ∧ Below w.heap.size w w' := by
 have hll : L.length = m := by have := hr.len1; rw [ivs_length] at this; exact this
 have hrl : M.length = n := by have := hs.len1; rw [ivs_length] at this; exact this
 have hn : n ≤ 9223372036854775807 := by have h2 := hs.2.1; have h3 := hs.2.2.1; unfold maxLen at h3; omega
 by_cases hmn : m = n
 ·subst hmn
  have HL := ek hr; have HR := ek hs; have Ho := ek ho; have Hll := ek hll; have Hrl := ek hrl
  clear hr hs ho hll hrl
  go_enter Tryz.func70, Tryz.ntmps70
  go_wp2
  go_loopw [5, 13] (fun _ t wr => EqgRel w L M m t wr) (fun _ t _ => m - (intOf t).toNat)
  case atStart => exact ⟨0, rfl, Nat.zero_le _, by simp, Below.refl _ _⟩
  case round =>
   obtain ⟨j, rfl, hj, heq, hbel⟩ := hrel
   rename World => wr
   have Heq := ek heq
   clear heq
   by_cases hlt : j < m
   ·obtain ⟨b1, o1, x, rfl, hb1, hc1, hx⟩ := (HL.out.below hbel).int (k := j) hlt
    obtain ⟨b2, o2, y, rfl, hb2, hc2, hy⟩ := (HR.out.below hbel).int (k := j) hlt
    have Hx := ek hx; have Hy := ek hy
    clear hx hy
    by_cases hxy : x = y
    ·subst hxy
     have d1 : (x != x) = false := by simp
     have hnext := ek (show L.take (j + 1) = M.take (j + 1) by rw [List.take_add_one, List.take_add_one, Hx.out, Hy.out, Heq.out])
     go_wp2_with fail
     go_quiet (fail)
     go_wp2
     go_roundw
     case rel => exact ⟨j + 1, by go_num, by omega, hnext.out, below_drewN hbel _⟩
     case measure => simp [intOf]; omega
    ·have d1 : (x != y) = true := by simpa using hxy
     have hof : o = false := by
      rw [Ho.out]
      refine decide_eq_false fun e => hxy ?_
      have h := Hx.out
      rw [e, Hy.out] at h
      injection h with h
      exact h.symm
     subst hof
     clear hxy
     go_wp2_with fail
     go_quiet (fail)
     go_wp2
     go_ret
     exact ⟨rfl, below_drewN hbel _⟩
   ·have hof : o = true := by
     rw [Ho.out]
     have h := Heq.out
     rw [List.take_of_length_le (by have := Hll.out; omega), List.take_of_length_le (by have := Hrl.out; omega)] at h
     exact decide_eq_true h
    subst hof
    go_wp2
    go_ret
    exact ⟨rfl, hbel⟩
 ·have hof : o = false := by
   rw [ho]
   exact decide_eq_false fun e => hmn (by rw [← hll, ← hrl, e])
  subst hof
  have d1 : ((m : Int) != (n : Int)) = true := by simpa using fun e => hmn (by omega)
  clear hr hs ho hll hrl hmn
  go_enter Tryz.func70, Tryz.ntmps70
  go_wp2
  go_ret
  exact ⟨rfl, Below.refl _ _⟩
theorem eqb_g (A A' : Option Addr) (m c n c' : Nat) (L M : List Bool) (w : World) (hr : Rc 1 w w.heap.size A m c (lvb L)) (hs : Rc 1 w w.heap.size A' n c' (lvb M)) (hm : m ≤ 9000000) (o : Bool) (ho : o = decide (L = M)) :
  Calls Tryz.prog 71 #[.slice A m c, .slice A' n c'] w fun e w' => e = .returned (.bool o) ∧ Below w.heap.size w w' := by
 have hll : L.length = m := lvb_len1 hr
 have hrl : M.length = n := lvb_len1 hs
 have hn : n ≤ 9223372036854775807 := by have h2 := hs.2.1; have h3 := hs.2.2.1; unfold maxLen at h3; omega
 by_cases hmn : m = n
 ·subst hmn
  have HL := ek hr; have HR := ek hs; have Ho := ek ho; have Hll := ek hll; have Hrl := ek hrl
  clear hr hs ho hll hrl
  go_enter Tryz.func71, Tryz.ntmps71
  go_wp2
  go_loopw [5, 13] (fun _ t wr => EqgRel w L M m t wr) (fun _ t _ => m - (intOf t).toNat)
  case atStart => exact ⟨0, rfl, Nat.zero_le _, by simp, Below.refl _ _⟩
  case round =>
   obtain ⟨j, rfl, hj, heq, hbel⟩ := hrel
   rename World => wr
   have Heq := ek heq
   clear heq
   by_cases hlt : j < m
   ·obtain ⟨b1, o1, x, rfl, hb1, hc1, hx⟩ := lvb_at (HL.out.below hbel) hlt
    obtain ⟨b2, o2, y, rfl, hb2, hc2, hy⟩ := lvb_at (HR.out.below hbel) hlt
    have Hx := ek hx; have Hy := ek hy
    clear hx hy
    by_cases hxy : x = y
    ·subst hxy
     have hnext := ek (show L.take (j + 1) = M.take (j + 1) by rw [List.take_add_one, List.take_add_one, Hx.out, Hy.out, Heq.out])
     cases x
     all_goals
      go_wp2_with fail
      go_quiet (fail)
      go_wp2
      go_roundw
      case rel => exact ⟨j + 1, by go_num, by omega, hnext.out, below_drewN hbel _⟩
      case measure => simp [intOf]; omega
    ·have hof : o = false := by
      rw [Ho.out]
      refine decide_eq_false fun e => hxy ?_
      have h := Hx.out
      rw [e, Hy.out] at h
      injection h with h
      exact h.symm
     subst hof
     cases x <;> cases y <;> first | exact absurd rfl hxy | skip
     all_goals
      clear hxy
      go_wp2_with fail
      go_quiet (fail)
      go_wp2
      go_ret
      exact ⟨rfl, below_drewN hbel _⟩
   ·have hof : o = true := by
     rw [Ho.out]
     have h := Heq.out
     rw [List.take_of_length_le (by have := Hll.out; omega), List.take_of_length_le (by have := Hrl.out; omega)] at h
     exact decide_eq_true h
    subst hof
    go_wp2
    go_ret
    exact ⟨rfl, hbel⟩
 ·have hof : o = false := by
   rw [ho]
   exact decide_eq_false fun e => hmn (by rw [← hll, ← hrl, e])
  subst hof
  have d1 : ((m : Int) != (n : Int)) = true := by simpa using fun e => hmn (by omega)
  clear hr hs ho hll hrl hmn
  go_enter Tryz.func71, Tryz.ntmps71
  go_wp2
  go_ret
  exact ⟨rfl, Below.refl _ _⟩
theorem same_g (A D A' D' : Option Addr) (m c k d m' c' k' d' : Nat) (g g' : Int) (L L' : List Int) (I I' : List Bool) (w : World) (hr : Rc 1 w w.heap.size A m c (ivs L)) (hi : Rc 1 w w.heap.size D k d (lvb I)) (hr' : Rc 1 w w.heap.size A' m' c' (ivs L')) (hi' : Rc 1 w w.heap.size D' k' d' (lvb I')) (hm : m ≤ 9000000) (hk : k ≤ 9000000)
  (o : Bool) (ho : o = decide (g = g' ∧ L = L' ∧ I = I')) :
  Calls Tryz.prog 47 #[.agg #[.slice A m c, .slice D k d, .int .i64 g], .agg #[.slice A' m' c', .slice D' k' d', .int .i64 g']] w fun e w' => e = .returned (.bool o) ∧ Below w.heap.size w w' := by
 obtain ⟨w1, hw1⟩ : ∃ w1, w1 = w.alloc (.cells #[.slice A m c, .slice D k d, .int .i64 g] 28) := ⟨_, rfl⟩
 have z1 : w1.heap.size = w.heap.size + 1 := by rw [hw1]; simp
 have b1 : Below w.heap.size w w1 := by rw [hw1]; exact ej _ _
 have x1 : Bx w1 w.heap.size (.slice A m c) (.slice D k d) (.int .i64 g) := by rw [hw1]; exact Bx.made _ _ _ _ _
 obtain ⟨w2, hw2⟩ : ∃ w2, w2 = w1.alloc (.cells #[.slice A' m' c', .slice D' k' d', .int .i64 g'] 28) := ⟨_, rfl⟩
 have z2 : w2.heap.size = w.heap.size + 2 := by rw [hw2]; simp [z1]
 have b12 : Below w1.heap.size w1 w2 := by rw [hw2]; exact ej _ _
 have x2 : Bx w2 w1.heap.size (.slice A' m' c') (.slice D' k' d') (.int .i64 g') := by rw [hw2]; exact Bx.made _ _ _ _ _
 rw [z1] at x2
 have y1 := x1.below b12 x1.lt
 have bb := b1.trans (b12.mono (by omega))
 obtain ⟨q, hq⟩ : ∃ q, q = decide (L = L') := ⟨_, rfl⟩
 have he := eqi_g A A' m c m' c' L L' w2 ((hr.below bb).more (by omega)) ((hr'.below bb).more (by omega)) hm q hq
 have Hi := ek hi; have Hi' := ek hi'; have W1 := ek hw1; have W2 := ek hw2; have He := ek he; have Y1 := ek y1; have X2 := ek x2; have Z1 := ek z1; have Ho := ek ho; have Hq := ek hq
 have hl2 := x2.lt
 have hl1 := y1.lt
 obtain ⟨c0, c1, c2, -, -, -, -⟩ := y1
 obtain ⟨d0, d1, d2, -, -, -, -⟩ := x2
 clear hw1 hw2 b1 b12 x1 he hr hi hr' hi' z1 ho hq
 by_cases hg : g = g'
 ·subst hg
  go_enter Tryz.func47, Tryz.ntmps47
  go_wp2_with (first | rw [← W1.out, ← W2.out, Z1.out] | rw [← W1.out, ← W2.out])
  refine He.out.mono ?_
  rintro e w3 ⟨rfl, b3⟩
  have z3 := b3.size
  have b3' := bb.trans (b3.mono (by omega))
  clear c0 c1 c2 d0 d1 d2
  cases q with
  | false =>
   have hof : o = false := by
    rw [Ho.out]
    exact decide_eq_false fun e => (decide_eq_false_iff_not.1 Hq.out.symm) e.2.1
   subst hof
   go_wp2
   go_ret
   exact ⟨rfl, b3'⟩
  | true =>
   have hL := of_decide_eq_true Hq.out.symm
   have he := eqb_g D D' k d k' d' I I' w3 ((Hi.out.below b3').more (by omega)) ((Hi'.out.below b3').more (by omega)) hk o (by rw [Ho.out, decide_eq_decide]; exact ⟨fun h => h.2.2, fun h => ⟨trivial, hL, h⟩⟩)
   have He2 := ek he
   clear he hL
   obtain ⟨c0, c1, c2, -, -, -, -⟩ := Y1.out.below b3 hl1
   obtain ⟨d0, d1, d2, -, -, -, -⟩ := X2.out.below b3 hl2
   go_wp2_with fail
   refine He2.out.mono ?_
   rintro e w4 ⟨rfl, b4⟩
   clear c0 c1 c2 d0 d1 d2 Ho He2
   cases o
   all_goals
    go_wp2
    go_ret
    exact ⟨rfl, b3'.trans (b4.mono (by omega))⟩
 ·have hof : o = false := by
   rw [Ho.out]
   exact decide_eq_false fun e => hg e.1
  have dg : (g == g') = false := beq_eq_false_iff_ne.2 hg
  clear Ho hg
  subst hof
  go_enter Tryz.func47, Tryz.ntmps47
  go_wp2_with (first | rw [← W1.out, ← W2.out, Z1.out] | rw [← W1.out, ← W2.out])
  go_ret
  exact ⟨rfl, bb⟩
def Md (f k : Int) (l : List UInt8) (L : List Int) (I : List Bool) (g : Int) : Prop := ∃ C, L = ic C ∧ Cu l.length C ∧ isF f k = true ∧ g = ((scF f k l).2.1 : Int) ∧ I = insF f l C
theorem ic_inj {C D : List Nat} (h : ic C = ic D) : C = D := by
 unfold ic at h
 exact (List.map_inj_right (fun a b q => Int.ofNat_inj.1 q)).1 h
abbrev plv (E : Option Addr) (m d : Nat) (D : Option Addr) (q r : Nat) (g : Int) : Value := .agg #[.slice E m d, .slice D q r, .int .i64 g]
def RetRu (w : World) (L : List (List (List UInt8))) (h : Nat) (e : Ending) (w' : World) : Prop :=
 ∃ A c, e = .returned (.tuple #[.slice A L.length c, .int .i64 (h : Int)]) ∧ RL w' w'.heap.size A L.length c L ∧ Below w.heap.size w w'
theorem RetRw.u {w w' : World} {e : Ending} {L : List (List (List UInt8))} {h : Nat} (q : RetRw w L h e w') : RetRu w L h e w' := by
 obtain ⟨A, c, h0, h1, h2⟩ := q
 exact ⟨A, c, h0, RLS.keep h1 (stays_weak fr_lt), h2⟩
theorem pcs_few {f k : Int} (hF : isF f k = true) {l : List UInt8} (hn : l.length ≤ 90000) : (scF f k l).1.length ≤ 1000000 := by
 have hasc := asc_F hF l
 rcases asc_len hasc with h | h
 ·rw [List.length_map] at h; omega
 ·have := congrArg List.length h; rw [List.length_map] at this; rw [this]; simp
theorem all_F {f k : Int} (hF : isF f k = true) {l : List UInt8} (hn : l.length ≤ 90000) : (Tm.all (scF f k l).1).length ≤ 50000000 := by
 have hcase : f = 0 ∨ f = 1 ∨ f = 2 ∨ f = 3 ∨ f = 4 ∨ f = 5 := by
  unfold isF at hF
  split at hF
  ·omega
  ·unfold isU at hF
   simp at hF
   omega
 have hP := pcs_few hF hn
 rcases hcase with rfl | rfl | rfl | rfl | rfl | rfl
 ·show (Tm.all ((Tm.ls l).map Tm.pc)).length ≤ _
  rw [Tm.all_pc, List.length_map]
  have := Tm.ls_len l
  omega
 ·show (Tm.all ((Csv.Cv.ls l).map Csv.Cv.pc)).length ≤ _
  rw [Csv.Cv.all_pc, List.length_map]
  have := Csv.Cv.ls_len l
  omega
 ·have := (Sq.Sm.ps_all l).1
  show (Tm.all (Sq.Sm.ps l).1).length ≤ _
  omega
 ·have := (Cht.Hm.scS_all l).1
  show (Tm.all (Cht.Hm.scS l).1).length ≤ _
  omega
 ·have h : (scF 4 k l).1.length = (Fix.Fx.ch l k.toNat).length := by
   show ((Fix.Fx.ch l k.toNat).map Tm.pc).length = _
   rw [List.length_map]
  show (Tm.all ((Fix.Fx.ch l k.toNat).map Tm.pc)).length ≤ _
  rw [Tm.all_pc, List.length_map]
  omega
 ·have h := all_one (Bun.Bm.scS l).1 (bun_one l)
  have h2 : (scF 5 k l).1 = (Bun.Bm.scS l).1 := rfl
  rw [h2] at hP ⊢
  omega
theorem cu_two {n : Nat} {C : List Nat} (h : Cu n C) {j a b : Nat} (ha : C[j]? = some a) (hb : C[j + 1]? = some b) : a < b ∧ b ≤ n := by
 have h1 := (cu_isC h).2.2 j (a : Int) (b : Int) (ic_get ha) (ic_get hb)
 have h2 := Asc.mem (cu_get h) b (List.mem_of_getElem? hb)
 exact ⟨by omega, by omega⟩
theorem rall_good (f k : Int) (A : Option Addr) (n c : Nat) (l : List UInt8) (w : World) (hr : Rb w w.heap.size A n c l) (hn : n ≤ 90000) (hF : isF f k = true) :
  Calls Tryz.prog 19 #[flv f k A n c] w (RetRu w (Tm.all (scF f k l).1) (scF f k l).2.2) := by
 have hl := hr.len
 obtain ⟨w0, hw0⟩ : ∃ w0, w0 = w.alloc (.cells #[.int .i64 f, .int .i64 k, .slice A n c] 35) := ⟨_, rfl⟩
 have b0 : Below w.heap.size w w0 := by rw [hw0]; exact ej _ _
 have x0 : Bx w0 w.heap.size (.int .i64 f) (.int .i64 k) (.slice A n c) := by rw [hw0]; exact Bx.made _ _ _ _ _
 have z0 := b0.size
 have hP := pcs_few hF (l := l) (by omega)
 have hA := all_F hF (l := l) (by omega)
 have hsc := rscan_ok f k A n c l w0 ((hr.below b0).more z0) hn hF
 obtain ⟨P, hPe⟩ : ∃ P, P = (scF f k l).1 := ⟨_, rfl⟩
 obtain ⟨X, hXe⟩ : ∃ X, X = (scF f k l).2.2 := ⟨_, rfl⟩
 obtain ⟨G, hGe⟩ : ∃ G, G = (scF f k l).2.1 := ⟨_, rfl⟩
 unfold RetS at hsc
 rw [← hPe, ← hXe, ← hGe] at hsc
 rw [← hPe] at hP hA
 rw [← hPe, ← hXe]
 obtain ⟨R, hR⟩ : ∃ R, R = Tm.all P := ⟨_, rfl⟩
 rw [← hR]
 have W0 := ek hw0; have Hsc := ek hsc; have HR := ek hR; have HA := ek hA; have B0 := ek b0
 obtain ⟨c0, c1, c2, -, -, -, -⟩ := x0
 clear hw0 hr hF hsc hR hA hPe hXe hGe b0
 go_enter Tryz.func19, Tryz.ntmps19
 go_wp2_with (rw [← W0.out])
 refine Hsc.out.mono ?_
 rintro e w2 ⟨A2, c2', rfl, hp, b2⟩
 have z2 := b2.size
 have ha := rall_c A2 P.length c2' P w2 (PLS.keep hp (stays_weak fr_lt)) (by omega) (by have := HA.out; omega)
 rw [← HR.out] at ha
 have Ha := ek ha
 have B2 := ek (B0.out.trans (b2.mono (by omega)))
 clear ha hp c0 c1 c2 b2
 go_wp2_with fail
 refine Ha.out.mono ?_
 rintro e w3 ⟨A3, c3, rfl, h3, b3⟩
 have bb := B2.out.trans (b3.mono (by omega))
 have H3 := ek h3
 clear h3
 go_wp2
 go_ret2
 exact ⟨A3, c3, rfl, H3.out, bb⟩
theorem rall_bad (f k : Int) (A : Option Addr) (n c : Nat) (w : World) (hF : isF f k = false) :
  Calls Tryz.prog 19 #[flv f k A n c] w (RetRu w [] 1) := by
 obtain ⟨w0, hw0⟩ : ∃ w0, w0 = w.alloc (.cells #[.int .i64 f, .int .i64 k, .slice A n c] 35) := ⟨_, rfl⟩
 have b0 : Below w.heap.size w w0 := by rw [hw0]; exact ej _ _
 have x0 : Bx w0 w.heap.size (.int .i64 f) (.int .i64 k) (.slice A n c) := by rw [hw0]; exact Bx.made _ _ _ _ _
 have z0 := b0.size
 have hsc := rscan_err f k A n c w0 (by rw [hF]; rfl)
 have W0 := ek hw0; have Hsc := ek hsc; have B0 := ek b0
 obtain ⟨c0, c1, c2, -, -, -, -⟩ := x0
 clear hw0 hF hsc b0
 go_enter Tryz.func19, Tryz.ntmps19
 go_wp2_with (rw [← W0.out])
 refine Hsc.out.mono ?_
 rintro e w2 ⟨rfl, b2⟩
 have z2 := b2.size
 have ha := rall_c none 0 0 [] w2 ⟨[], (Oc.nil 2 w2 0 w2.heap.size).rc, PsS.nil⟩ (by omega) (by simp [Tm.all])
 have Ha := ek ha
 have B2 := ek (B0.out.trans (b2.mono (by omega)))
 clear ha c0 c1 c2 b2
 go_wp2_with fail
 refine Ha.out.mono ?_
 rintro e w3 ⟨A3, c3, rfl, h3, b3⟩
 have bb := B2.out.trans (b3.mono (by omega))
 have H3 := ek h3
 clear h3
 go_wp2
 go_ret2
 exact ⟨A3, c3, rfl, H3.out, bb⟩
theorem cu_at {n : Nat} {C : List Nat} (h : Cu n C) {j a : Nat} (ha : C[j]? = some a) : (j = 0 ↔ a = 0) ∧ (j + 1 = C.length → a = n) := by
 obtain ⟨h1, h2⟩ := cu_pos h
 refine ⟨⟨fun q => ?_, fun q => ?_⟩, fun q => ?_⟩
 ·subst q; rw [h2] at ha; injection ha with ha; exact ha.symm
 ·subst q
  cases j with
  | zero => rfl
  | succ j =>
   have hj : j < C.length := by have := (List.getElem?_eq_some_iff.1 ha).1; omega
   have := (cu_two h (List.getElem?_eq_getElem hj) ha).1
   omega
 ·have hl := (cu_isC h).2.1
  rw [List.getLast?_eq_getElem?, ic_len, show C.length - 1 = j from by omega, ic_get ha] at hl
  injection hl with hl
  omega
theorem recordsOf_c (x : Int) (D : Option Addr) (m d : Nat) (w : World) : Calls Tryz.prog 38 #[.agg #[.int .i64 x, .slice D m d]] w fun e w' => e = .returned (.slice D m d) ∧ Below w.heap.size w w' := by
 go_enter Tryz.func38, Tryz.ntmps38
 go_wp2
 go_ret
 exact ⟨rfl, ej _ _⟩
def CoRel (n : Nat) (w : World) (S : Nat → Prop) (L : Nat → List (List (List UInt8))) (o i : Value) (wr : World) : Prop :=
 ∃ A c vs, ∃ k : Nat, o = .slice A (L k).length c ∧ i = .int .i64 (k : Int) ∧ k ≤ n ∧ Oc 1 wr 77 w.heap.size A (L k).length c vs ∧ RrsS wr S vs (L k) ∧ Below w.heap.size w wr
theorem all_snoc (P : List (Nat × List (List (List UInt8)))) (k : Nat) (p : Nat × List (List (List UInt8))) (h : P[k]? = some p) : Tm.all (P.take (k + 1)) = Tm.all (P.take k) ++ p.2 := by
 rw [List.take_add_one, h, Tm.all_app]
 simp [Tm.all]
theorem collectP_c (A : Option Addr) (n c : Nat) (P : List (Nat × List (List (List UInt8)))) (S : Nat → Prop) (w : World) (hp : PLS w S A n c P) (hS : ∀ x, S x → x < w.heap.size) (hn : n ≤ 1000000) (hall : (Tm.all P).length ≤ 50000000) :
  Calls Tryz.prog 37 #[.slice A n c, .func (.func 38) #[] #[]] w fun e w' =>
   ∃ A' c' vs, e = .returned (.slice A' (Tm.all P).length c') ∧ Oc 1 w' 77 w.heap.size A' (Tm.all P).length c' vs ∧ RrsS w' S vs (Tm.all P) ∧ Below w.heap.size w w' := by
 have hPl := hp.len
 have hallk : ∀ k, (Tm.all (P.take k)).length ≤ 50000000 := fun k => Nat.le_trans (Tm.all_take P k) hall
 have Hp := ek hp; have Hall := ek hallk; have HS := ek hS; have HPl := ek hPl
 clear hp hall hallk hS hPl
 go_enter Tryz.func37, Tryz.ntmps37
 go_wp2
 go_loopw [5, 7, 10] (fun o _ i wr => CoRel n w S (fun k => Tm.all (P.take k)) o i wr) (fun _ _ i _ => n - (intOf i).toNat)
 case atStart => exact ⟨none, 0, [], 0, rfl, rfl, Nat.zero_le _, Oc.nil _ _ _ _, RrsS.nil, Below.refl _ _⟩
 case round =>
  obtain ⟨A3, c3, vs, k, rfl, rfl, hk, hown, hps, hbel⟩ := hrel
  dsimp only at hown hps ⊢
  have z3 := hbel.size
  rename World => wr
  by_cases hlt : k < n
  ·obtain ⟨pb, po, p, D, m, d, rfl, hpb, hc1, hc2, hp, us, hu1, hu2⟩ := (PLS.keep Hp.out (show Stays w wr S S from ⟨fun _ h => h, fun q hq => hbel.cell (p := q) (HS.out _ hq)⟩)).at_ (k := k) hlt
   have hm : p.2.length = m := RLS.len ⟨us, hu1, hu2⟩
   have hsn := all_snoc P k p hp
   have hl1 := Hall.out (k + 1)
   obtain ⟨L, hL⟩ : ∃ L, L = Tm.all (P.take k) := ⟨_, rfl⟩
   rw [← hL] at hown hps hsn ⊢
   have hL1 : L.length ≤ 50000000 := by rw [hL]; exact Hall.out k
   have hlen2 : L.length + m ≤ 50000000 := by
    rw [hsn, List.length_append, hm] at hl1
    exact hl1
   obtain ⟨w5, hw5⟩ : ∃ w5, w5 = wr.alloc (.cells #[.int .i64 (p.1 : Int), .slice D m d] 81) := ⟨_, rfl⟩
   have k0 : w5.cell? ⟨wr.heap.size, 0,none⟩ = some (.int .i64 (p.1 : Int)) := by rw [hw5]; simp
   have k1 : w5.cell? ⟨wr.heap.size, 1,none⟩ = some (.slice D m d) := by rw [hw5]; simp
   have b5 : Below wr.heap.size wr w5 := by rw [hw5]; exact ej _ _
   have W5 := ek hw5; have B5 := ek b5; have Hown := ek hown; have Hps := ek hps; have Hu1 := ek hu1; have Hu2 := ek hu2; have Hsn := ek hsn; have Hm := ek hm
   have hpl : pb < wr.heap.size := by have := HS.out _ hpb; omega
   clear hp hl1 hsn hm hown hps hu1 hu2 b5 hw5 hL
   go_wp2_with (rw [← W5.out])
   refine (recordsOf_c (p.1 : Int) D m d w5).mono ?_
   rintro e w6 ⟨rfl, b6⟩
   have b36 := B5.out.trans (b6.mono B5.out.size)
   have bw6 := hbel.trans (b36.mono z3)
   have hown6 := Hown.out.keep b36
   have hst : Stays wr w6 S S := ⟨fun _ h => h, fun q hq => b36.cell (p := q) (by have := HS.out _ hq; omega)⟩
   have hu6 : Rc 1 w6 w6.heap.size D m d us := (Hu1.out.keep (show Stays wr w6 S (· < w6.heap.size) from ⟨fun q hq => by have h1 := HS.out q hq; have h2 := bw6.size; show q < w6.heap.size; omega, hst.2⟩)).rc
   have hps2 := (Hps.out.keep hst).append (Hu2.out.keep hst)
   have h1 := rrs_one' Hu2.out
   have Hown6 := ek hown6; have Hps2 := ek hps2; have H1 := ek h1; have Hu := ek hu6; have Bw6 := ek bw6
   have hz6 := bw6.size
   clear hown6 hst hu6 hps2 h1 b36 b6 bw6 hc1 hc2 k0 k1
   go_wp2_with (at_builtin; go_must (refine Sl.wpAppAt rty rfl (.tmp 14) (.tmp 17) rfl (n := L.length) (m := m) (N := L.length + m) (ws := vs ++ us) rfl rfl Hown6.out Hu.out H1.out rfl rfl ?hs4 ?hs5 ?hs6 ?_))
   case hs4 => omega
   case hs5 => omega
   case hs6 => exact hz6
   intro A8 c8 w8 hown8 hg8
   have b8 := hg8.belowC Hown6.out hz6
   have bw8 := Bw6.out.trans b8
   have hps8 := Hps2.out.keep (show Stays w6 w8 S S from ⟨fun _ h => h, fun q hq => b8.cell (p := q) (HS.out _ hq)⟩)
   have Hown8 := ek hown8; have Hps8 := ek hps8
   clear hown8 hps8 hg8
   go_wp2
   go_roundw
   case rel => exact ⟨A8, c8, vs ++ us, k + 1, by dsimp only; rw [Hsn.out, List.length_append, Hm.out], by go_num, hlt, by dsimp only; rw [Hsn.out, List.length_append, Hm.out]; exact Hown8.out, by dsimp only; rw [Hsn.out]; exact Hps8.out, bw8⟩
   case measure => simp [intOf]; omega
  ·have e : P.take k = P := List.take_of_length_le (by rw [HPl.out]; omega)
   rw [e] at hown hps ⊢
   have Hown := ek hown; have Hps := ek hps
   clear hown hps e
   go_wp2
   go_ret
   exact ⟨A3, c3, vs, rfl, Hown.out, Hps.out, hbel⟩
theorem told_txt (k : Int) (l : List UInt8) (a b : Nat) (hb : b ≤ l.length) : told 0 (scF 0 k l).2.1 (scF 0 k l).2.2 a b = 0 := by
 show (if (0 : Int) = 5 then _ else if b ≤ l.length then 0 else _) = 0
 rw [if_neg (by omega), if_pos hb]
theorem told_3 {f k : Int} (hF : isF f k = true) {l : List UInt8} (h5 : f ≠ 5) (h4 : f ≠ 4) (a b : Nat) (hb : b ≤ l.length) : ((told f (scF f k l).2.1 (scF f k l).2.2 a b : Nat) : Int) = if (scF f k l).2.1 < b then 3 else 0 := by
 rw [told_ge hF h5 a b hb, if_neg h4]
 split <;> rfl
theorem reads (A : Option Addr) (n c : Nat) (l : List UInt8) (a b : Nat) (w : World) (hr : Rb w w.heap.size A n c l) (hn : n ≤ 90000) (hab : a ≤ b) (hb : b ≤ n) (hx : Sq.Mx w) :
  Calls Tryz.prog 49 #[.slice A n c, .int .i64 (a : Int), .int .i64 (b : Int)] w (RetRw w (rdP (scF 0 0 l).1 a b) (told 0 (scF 0 0 l).2.1 (scF 0 0 l).2.2 a b)) ∧
  Calls Tryz.prog 51 #[.slice A n c, .int .i64 (a : Int), .int .i64 (b : Int), .bool (inF 1 l (a : Int)), .int .i64 ((scF 1 0 l).2.1 : Int)] w (RetRw w (rdP (scF 1 0 l).1 a b) (told 1 (scF 1 0 l).2.1 (scF 1 0 l).2.2 a b)) ∧
  Calls Tryz.prog 53 #[.slice A n c, .int .i64 (a : Int), .int .i64 (b : Int), .int .i64 ((scF 2 0 l).2.1 : Int)] w (RetRw w (rdP (scF 2 0 l).1 a b) (told 2 (scF 2 0 l).2.1 (scF 2 0 l).2.2 a b)) := by
 have hl := hr.len
 have hbl : b ≤ l.length := by omega
 refine ⟨?_, ?_, ?_⟩
 ·refine (Txt.read_ok A n c l a b w hr (by omega) hab hb).mono fun e w' h => ?_
  obtain ⟨A1, c1, h0, h1, h2⟩ := h
  rw [← Tm.btw_pc] at h0 h1
  exact ⟨A1, c1, by rw [told_txt 0 l a b hbl]; exact h0, h1, h2⟩
 ·refine (Csv.read_ok A n c l a b w hr hab hb (by omega)).mono fun e w' h => ?_
  obtain ⟨A1, c1, h0, h1, h2⟩ := h
  rw [← Csv.Cv.btw_pc] at h0 h1
  exact ⟨A1, c1, by rw [told_3 (k := 0) rfl (by omega) (by omega) a b hbl]; exact h0, h1, h2⟩
 ·refine (Sq.read_ok A n c l a b _ w hr hab hb (by omega) hx rfl).mono fun e w' h => ?_
  obtain ⟨A1, c1, h0, h1, h2⟩ := h
  exact ⟨A1, c1, by rw [told_3 (k := 0) rfl (by omega) (by omega) a b hbl]; exact h0, h1, h2⟩
theorem fread (k : Int) (hk : 1 ≤ k) (hk2 : k ≤ 1000) (A : Option Addr) (n c : Nat) (l : List UInt8) (a b : Nat) (w : World) (hr : Rb w w.heap.size A n c l) (hn : n ≤ 90000) (hab : a ≤ b) (hb : b ≤ n) :
  Calls Tryz.prog 56 #[.slice A n c, .int .i64 (a : Int), .int .i64 (b : Int), .int .i64 k] w (RetRw w (rdP (scF 4 k l).1 a b) (told 4 (scF 4 k l).2.1 (scF 4 k l).2.2 a b)) := by
 have hl := hr.len
 have e : ((k.toNat : Nat) : Int) = k := by omega
 have hF : isF 4 k = true := by unfold isF; simp; omega
 have h := Fix.read_ok A n c k.toNat l a b w hr (by omega) (by omega) (by omega) hab hb
 rw [e] at h
 refine h.mono fun e w' h => ?_
 obtain ⟨A1, c1, h0, h1, h2⟩ := h
 rw [← Fix.Fx.all_btw l k.toNat a b (by omega)] at h0 h1
 refine ⟨A1, c1, ?_, h1, h2⟩
 rw [told_ge hF (by omega) a b (by omega), if_pos rfl, h0]
 show _ = Ending.returned (.tuple #[_, .int .i64 ((if l.length / k.toNat * k.toNat < b then 2 else 0 : Nat) : Int)])
 rw [hl]
 rfl
def Nr (B Z : Nat) (w w' : World) (x : Nat) : Prop := B ≤ x ∧ (x < Z ∨ w.heap.size ≤ x) ∧ x < w'.heap.size
def St (B0 B Z : Nat) (w w' : World) : Prop := Z ≤ w'.heap.size ∧ ∀ g, (g < B0 ∨ B ≤ g ∧ g < Z) → w'.heap[g]? = w.heap[g]?
theorem St.cell {B0 B Z : Nat} {w w' : World} (h : St B0 B Z w w') (p : Addr) (hp : p.block < B0 ∨ B ≤ p.block ∧ p.block < Z) : w'.cell? p = w.cell? p := by
 have := h.2 p.block hp
 unfold World.cell?
 rw [this]
theorem St.refl {B0 B : Nat} (w : World) : St B0 B w.heap.size w w := ⟨Nat.le_refl _, fun _ _ => rfl⟩
theorem St.step {B0 B : Nat} {w w' w2 : World} (h : St B0 B w.heap.size w w') (hB : B0 ≤ w.heap.size) (b : Below w'.heap.size w' w2) : St B0 B w.heap.size w w2 :=
 ⟨Nat.le_trans h.1 b.size, fun g hg => (b.block g (by have := h.1; omega)).trans (h.2 g hg)⟩
def RetRn (B Z : Nat) (w : World) (L : List (List (List UInt8))) (h : Nat) (e : Ending) (w' : World) : Prop :=
 ∃ A c, e = .returned (.tuple #[.slice A L.length c, .int .i64 (h : Int)]) ∧ RLS w' (Nr B Z w w') A L.length c L ∧ Below w.heap.size w w'
theorem nr_of {B Z : Nat} {w w0 w' : World} {A : Option Addr} {n c : Nat} {L : List (List (List UInt8))} (h1 : RLS w' (Fr w0.heap.size w') A n c L) (hs : w.heap.size ≤ w0.heap.size) (hB : B ≤ w.heap.size) : RLS w' (Nr B Z w w') A n c L :=
 h1.keep (stays_weak fun b hb => ⟨by have := hb.1; omega, .inr (by have := hb.1; omega), hb.2⟩)
def Rdr (f k : Int) (l : List UInt8) (n B0 B : Nat) (w0 : World) (v : Value) : Prop :=
 ∃ a ca, v = fv a ca ∧ Ent a ∧ ∀ W, St B0 B w0.heap.size w0 W → ∀ x y : Nat, x < y → y ≤ n → Calls Tryz.prog a (#[.agg #[.int .i64 (x : Int), .int .i64 (y : Int), .bool (inF f l (x : Int))]] ++ ca) W (RetRn B w0.heap.size W (rdP (scF f k l).1 x y) (told f (scF f k l).2.1 (scF f k l).2.2 x y))
theorem rd1_c (A : Option Addr) (n c : Nat) (l : List UInt8) (a b B Z : Nat) (W : World) (hr : Rb W W.heap.size A n c l) (hn : n ≤ 90000) (hab : a ≤ b) (hb : b ≤ n) (hx : Sq.Mx W) (hB : B ≤ W.heap.size) (t : Bool) (g : Nat) (hg : W.cell? ⟨g, 2,none⟩ = some (.slice A n c)) :
  Calls Tryz.prog 48 #[.agg #[.int .i64 (a : Int), .int .i64 (b : Int), .bool t], .pointer (some ⟨g, 0,none⟩)] W (RetRn B Z W (rdP (scF 0 0 l).1 a b) (told 0 (scF 0 0 l).2.1 (scF 0 0 l).2.2 a b)) := by
 obtain ⟨w0, hw0⟩ : ∃ w0, w0 = W.alloc (.cells #[.int .i64 (a : Int), .int .i64 (b : Int), .bool t] 64) := ⟨_, rfl⟩
 have b0 : Below W.heap.size W w0 := by rw [hw0]; exact ej _ _
 have x0 : Bx w0 W.heap.size (.int .i64 (a : Int)) (.int .i64 (b : Int)) (.bool t) := by rw [hw0]; exact Bx.made _ _ _ _ _
 have hg0 : w0.cell? ⟨g, 2,none⟩ = some (.slice A n c) := (b0.cell (p := ⟨g, 2,none⟩) (World.block_lt_of_cell? W _ hg)).trans hg
 have R := ek (reads A n c l a b w0 ((hr.below b0).more b0.size) hn hab hb (hx.below' b0)).1
 have W0 := ek hw0; have B0 := ek b0
 obtain ⟨c0, c1, c2, -, -, -, -⟩ := x0
 clear hr hg hx hw0 b0
 go_enter Tryz.func48, Tryz.ntmps48
 go_wp2_with (rw [← W0.out])
 refine R.out.mono ?_
 rintro e w' ⟨A1, c1, rfl, h1, h2⟩
 have H1 := ek (nr_of (Z := Z) h1 B0.out.size hB); have H2 := ek (B0.out.trans (h2.mono B0.out.size))
 clear h1 h2
 go_wp2
 go_ret2
 exact ⟨A1, c1, rfl, H1.out, H2.out⟩
theorem rd2_c (A : Option Addr) (n c : Nat) (l : List UInt8) (a b B Z : Nat) (W : World) (hr : Rb W W.heap.size A n c l) (hn : n ≤ 90000) (hab : a ≤ b) (hb : b ≤ n) (hx : Sq.Mx W) (hB : B ≤ W.heap.size) (g h : Nat) (hg : W.cell? ⟨g, 2,none⟩ = some (.slice A n c)) (hh : W.cell? ⟨h, 0,none⟩ = some (.int .i64 ((scF 1 0 l).2.1 : Int))) :
  Calls Tryz.prog 50 #[.agg #[.int .i64 (a : Int), .int .i64 (b : Int), .bool (inF 1 l (a : Int))], .pointer (some ⟨g, 0,none⟩), .pointer (some ⟨h, 0,none⟩)] W (RetRn B Z W (rdP (scF 1 0 l).1 a b) (told 1 (scF 1 0 l).2.1 (scF 1 0 l).2.2 a b)) := by
 obtain ⟨t, ht⟩ : ∃ t, t = inF 1 l (a : Int) := ⟨_, rfl⟩
 obtain ⟨G, hG⟩ : ∃ G, G = (scF 1 0 l).2.1 := ⟨_, rfl⟩
 obtain ⟨w0, hw0⟩ : ∃ w0, w0 = W.alloc (.cells #[.int .i64 (a : Int), .int .i64 (b : Int), .bool t] 64) := ⟨_, rfl⟩
 have b0 : Below W.heap.size W w0 := by rw [hw0]; exact ej _ _
 have x0 : Bx w0 W.heap.size (.int .i64 (a : Int)) (.int .i64 (b : Int)) (.bool t) := by rw [hw0]; exact Bx.made _ _ _ _ _
 have hg0 : w0.cell? ⟨g, 2,none⟩ = some (.slice A n c) := (b0.cell (p := ⟨g, 2,none⟩) (World.block_lt_of_cell? W _ hg)).trans hg
 have hh0 : w0.cell? ⟨h, 0,none⟩ = some (.int .i64 (G : Int)) := by rw [hG]; exact (b0.cell (p := ⟨h, 0,none⟩) (World.block_lt_of_cell? W _ hh)).trans hh
 have R := (reads A n c l a b w0 ((hr.below b0).more b0.size) hn hab hb (hx.below' b0)).2.1
 rw [← ht, ← hG] at R
 rw [← ht, ← hG]
 have R := ek R
 have W0 := ek hw0; have B0 := ek b0
 obtain ⟨c0, c1, c2, -, -, -, -⟩ := x0
 clear hr hg hh hx hw0 b0 ht hG
 go_enter Tryz.func50, Tryz.ntmps50
 go_wp2_with (rw [← W0.out])
 refine R.out.mono ?_
 rintro e w' ⟨A1, c1, rfl, h1, h2⟩
 have H1 := ek (nr_of (Z := Z) h1 B0.out.size hB); have H2 := ek (B0.out.trans (h2.mono B0.out.size))
 clear h1 h2
 go_wp2
 go_ret2
 exact ⟨A1, c1, rfl, H1.out, H2.out⟩
theorem rd3_c (A : Option Addr) (n c : Nat) (l : List UInt8) (a b B Z : Nat) (W : World) (hr : Rb W W.heap.size A n c l) (hn : n ≤ 90000) (hab : a ≤ b) (hb : b ≤ n) (hx : Sq.Mx W) (hB : B ≤ W.heap.size) (t : Bool) (g h : Nat) (hg : W.cell? ⟨g, 2,none⟩ = some (.slice A n c)) (hh : W.cell? ⟨h, 0,none⟩ = some (.int .i64 ((scF 2 0 l).2.1 : Int))) :
  Calls Tryz.prog 52 #[.agg #[.int .i64 (a : Int), .int .i64 (b : Int), .bool t], .pointer (some ⟨g, 0,none⟩), .pointer (some ⟨h, 0,none⟩)] W (RetRn B Z W (rdP (scF 2 0 l).1 a b) (told 2 (scF 2 0 l).2.1 (scF 2 0 l).2.2 a b)) := by
 obtain ⟨G, hG⟩ : ∃ G, G = (scF 2 0 l).2.1 := ⟨_, rfl⟩
 obtain ⟨w0, hw0⟩ : ∃ w0, w0 = W.alloc (.cells #[.int .i64 (a : Int), .int .i64 (b : Int), .bool t] 64) := ⟨_, rfl⟩
 have b0 : Below W.heap.size W w0 := by rw [hw0]; exact ej _ _
 have x0 : Bx w0 W.heap.size (.int .i64 (a : Int)) (.int .i64 (b : Int)) (.bool t) := by rw [hw0]; exact Bx.made _ _ _ _ _
 have hg0 : w0.cell? ⟨g, 2,none⟩ = some (.slice A n c) := (b0.cell (p := ⟨g, 2,none⟩) (World.block_lt_of_cell? W _ hg)).trans hg
 have hh0 : w0.cell? ⟨h, 0,none⟩ = some (.int .i64 (G : Int)) := by rw [hG]; exact (b0.cell (p := ⟨h, 0,none⟩) (World.block_lt_of_cell? W _ hh)).trans hh
 have R := (reads A n c l a b w0 ((hr.below b0).more b0.size) hn hab hb (hx.below' b0)).2.2
 rw [← hG] at R
 rw [← hG]
 have R := ek R
 have W0 := ek hw0; have B0 := ek b0
 obtain ⟨c0, c1, c2, -, -, -, -⟩ := x0
 clear hr hg hh hx hw0 b0 hG
 go_enter Tryz.func52, Tryz.ntmps52
 go_wp2_with (rw [← W0.out])
 refine R.out.mono ?_
 rintro e w' ⟨A1, c1, rfl, h1, h2⟩
 have H1 := ek (nr_of (Z := Z) h1 B0.out.size hB); have H2 := ek (B0.out.trans (h2.mono B0.out.size))
 clear h1 h2
 go_wp2
 go_ret2
 exact ⟨A1, c1, rfl, H1.out, H2.out⟩
theorem rd4_c (A : Option Addr) (n c : Nat) (l : List UInt8) (a b B Z : Nat) (W : World) (hr : Rb W W.heap.size A n c l) (hn : n ≤ 90000) (hab : a ≤ b) (hb : b ≤ n) (hB : B ≤ W.heap.size) (k : Int) (hk : 1 ≤ k) (hk2 : k ≤ 1000) (t : Bool) (g : Nat) (hg1 : W.cell? ⟨g, 1,none⟩ = some (.int .i64 k)) (hg : W.cell? ⟨g, 2,none⟩ = some (.slice A n c)) :
  Calls Tryz.prog 55 #[.agg #[.int .i64 (a : Int), .int .i64 (b : Int), .bool t], .pointer (some ⟨g, 0,none⟩)] W (RetRn B Z W (rdP (scF 4 k l).1 a b) (told 4 (scF 4 k l).2.1 (scF 4 k l).2.2 a b)) := by
 obtain ⟨w0, hw0⟩ : ∃ w0, w0 = W.alloc (.cells #[.int .i64 (a : Int), .int .i64 (b : Int), .bool t] 64) := ⟨_, rfl⟩
 have b0 : Below W.heap.size W w0 := by rw [hw0]; exact ej _ _
 have x0 : Bx w0 W.heap.size (.int .i64 (a : Int)) (.int .i64 (b : Int)) (.bool t) := by rw [hw0]; exact Bx.made _ _ _ _ _
 have hg0 : w0.cell? ⟨g, 2,none⟩ = some (.slice A n c) := (b0.cell (p := ⟨g, 2,none⟩) (World.block_lt_of_cell? W _ hg)).trans hg
 have hg10 : w0.cell? ⟨g, 1,none⟩ = some (.int .i64 k) := (b0.cell (p := ⟨g, 1,none⟩) (World.block_lt_of_cell? W _ hg1)).trans hg1
 have R := ek (fread k hk hk2 A n c l a b w0 ((hr.below b0).more b0.size) hn hab hb)
 have W0 := ek hw0; have B0 := ek b0
 obtain ⟨c0, c1, c2, -, -, -, -⟩ := x0
 clear hr hg hg1 hw0 b0
 go_enter Tryz.func55, Tryz.ntmps55
 go_wp2_with (rw [← W0.out])
 refine R.out.mono ?_
 rintro e w' ⟨A1, c1, rfl, h1, h2⟩
 have H1 := ek (nr_of (Z := Z) h1 B0.out.size hB); have H2 := ek (B0.out.trans (h2.mono B0.out.size))
 clear h1 h2
 go_wp2
 go_ret2
 exact ⟨A1, c1, rfl, H1.out, H2.out⟩
theorem collectN_c (A : Option Addr) (n c : Nat) (P : List (Nat × List (List (List UInt8)))) (B Z : Nat) (W w : World) (hW : W.heap.size ≤ w.heap.size) (hB : B ≤ W.heap.size) (hp : PLS w (fun x => B ≤ x ∧ x < Z) A n c P) (hZ : Z ≤ w.heap.size) (hn : n ≤ 1000000) (hall : (Tm.all P).length ≤ 50000000) :
  Calls Tryz.prog 37 #[.slice A n c, .func (.func 38) #[] #[]] w fun e w' =>
   ∃ A' c', e = .returned (.slice A' (Tm.all P).length c') ∧ RLS w' (Nr B Z W w') A' (Tm.all P).length c' (Tm.all P) ∧ Below w.heap.size w w' :=
 (collectP_c A n c P _ w hp (fun x hx => Nat.lt_of_lt_of_le hx.2 hZ) hn hall).mono fun e w' ⟨A', c', vs, h0, h1, h2, h3⟩ =>
  ⟨A', c', h0, ⟨vs, h1.rcS.keep (stays_weak fun b hb => ⟨by have := hb.1; omega, .inr (by have := hb.1; omega), hb.2⟩), h2.keep (stays_weak fun b hb => ⟨hb.1, .inl hb.2, by have := h3.size; have := hb.2; omega⟩)⟩, h3⟩
theorem rdP_fin {f k : Int} (hF : isF f k = true) {l : List UInt8} (hl : l.length ≤ 90000) (a b : Nat) : (Tm.all (Tm.btw a b (scF f k l).1)).length ≤ 50000000 ∧ (Tm.btw a b (scF f k l).1).length ≤ 1000000 :=
 ⟨Nat.le_trans (Tm.btw_len a b _) (all_F hF hl), Nat.le_trans (List.length_filter_le _ _) (pcs_few hF hl)⟩
theorem chest1_c (A : Option Addr) (n c : Nat) (l : List UInt8) (a b B Z : Nat) (t : Bool) (W : World) (g h : Nat) (hl : l.length ≤ 90000) (hg : W.cell? ⟨g, 0,none⟩ = some (.slice A n c)) (hh : W.cell? ⟨h, 0,none⟩ = some (.int .i64 ((scF 3 0 l).2.1 : Int)))
  (hp : PLS W (fun x => B ≤ x ∧ x < Z) A n c (scF 3 0 l).1) (hZ : Z ≤ W.heap.size) (hB : B ≤ W.heap.size) (hab : a ≤ b) (hb : b ≤ l.length) :
  Calls Tryz.prog 77 #[.agg #[.int .i64 (a : Int), .int .i64 (b : Int), .bool t], .pointer (some ⟨g, 0,none⟩), .pointer (some ⟨h, 0,none⟩)] W (RetRn B Z W (rdP (scF 3 0 l).1 a b) (told 3 (scF 3 0 l).2.1 (scF 3 0 l).2.2 a b)) := by
 have hpl := hp.len
 have hfew := pcs_few (f := 3) (k := 0) rfl hl
 obtain ⟨hfin, hfin2⟩ := rdP_fin (f := 3) (k := 0) rfl hl a b
 have hasc := asc_F (f := 3) (k := 0) rfl l
 have htold := told_3 (f := 3) (k := 0) rfl (l := l) (by omega) (by omega) a b hb
 obtain ⟨P, hP⟩ : ∃ P, P = (scF 3 0 l).1 := ⟨_, rfl⟩
 obtain ⟨G, hG⟩ : ∃ G, G = (scF 3 0 l).2.1 := ⟨_, rfl⟩
 obtain ⟨U, hU⟩ : ∃ U, U = told 3 (scF 3 0 l).2.1 (scF 3 0 l).2.2 a b := ⟨_, rfl⟩
 rw [← hU, ← hG] at htold
 rw [← hP] at hp hpl hfew hasc hfin hfin2 ⊢
 rw [← hG] at hh
 rw [← hU]
 obtain ⟨Q, hQ⟩ : ∃ Q, Q = Tm.btw a b P := ⟨_, rfl⟩
 have hR : rdP P a b = Tm.all Q := by rw [hQ]; rfl
 rw [← hQ] at hfin hfin2
 rw [hR]
 obtain ⟨w0, hw0⟩ : ∃ w0, w0 = W.alloc (.cells #[.int .i64 (a : Int), .int .i64 (b : Int), .bool t] 64) := ⟨_, rfl⟩
 have b0 : Below W.heap.size W w0 := by rw [hw0]; exact ej _ _
 have x0 : Bx w0 W.heap.size (.int .i64 (a : Int)) (.int .i64 (b : Int)) (.bool t) := by rw [hw0]; exact Bx.made _ _ _ _ _
 have hg0 : w0.cell? ⟨g, 0,none⟩ = some (.slice A n c) := (b0.cell (p := ⟨g, 0,none⟩) (World.block_lt_of_cell? W _ hg)).trans hg
 have hst : Stays W w0 (fun x => B ≤ x ∧ x < Z) (fun x => B ≤ x ∧ x < Z) := ⟨fun _ h => h, fun p hp => b0.cell (p := p) (by have := hp.2; omega)⟩
 have Hw := within_c A n c l.length a b t P _ w0 (hp.keep hst) (fun x hx => by have := hx.2; have := b0.size; omega) (by omega) hasc hab
 rw [← hQ] at Hw
 have Hw := ek Hw
 have W0 := ek hw0; have B0 := ek b0; have X0 := ek x0; have Hh := ek hh; have Ht := ek htold; have Hfin := ek hfin; have Hfin2 := ek hfin2
 have hlx := x0.lt
 have hhb := World.block_lt_of_cell? W _ hh
 have hhb : h < W.heap.size := hhb
 obtain ⟨c0, c1, c2, -, -, -, -⟩ := x0
 clear hp hpl hfew hasc hfin hfin2 htold hh hg hst hw0 b0 hP hG hU hQ hR
 go_enter Tryz.func77, Tryz.ntmps77
 go_wp2_with (rw [← W0.out])
 refine Hw.out.mono ?_
 rintro e w1 ⟨D, d, rfl, h1, b1⟩
 have z0 := B0.out.size
 have z1 := b1.size
 have Hc := ek (collectN_c D Q.length d Q B Z W w1 (by omega) hB h1 (by omega) Hfin2.out Hfin.out)
 have X1 := ek (X0.out.below b1 hlx); have B1 := ek (B0.out.trans (b1.mono z0))
 clear h1 b1 c0 c1 c2 hg0
 go_wp2_with fail
 refine Hc.out.mono ?_
 rintro e w2 ⟨E, kd, rfl, h2, b2⟩
 have B2 := ek (B1.out.trans (b2.mono (by omega)))
 have H2 := ek h2
 obtain ⟨c0, c1, c2, -, -, -, -⟩ := X1.out.below b2 X1.out.lt
 have hh2 : w2.cell? ⟨h, 0,none⟩ = some (.int .i64 (G : Int)) := (B2.out.cell (p := ⟨h, 0,none⟩) hhb).trans Hh.out
 clear h2 b2
 by_cases hGb : G < b
 ·have d1 : decide ((G : Int) < (b : Int)) = true := by simpa using hGb
  have d2 : decide (G < b) = true := by simpa using hGb
  have hU3 : (U : Int) = 3 := by rw [Ht.out, if_pos hGb]
  obtain rfl : U = 3 := by omega
  clear hU3 Ht hGb
  go_wp2
  go_ret2
  exact ⟨E, kd, rfl, H2.out, B2.out⟩
 ·have d1 : decide ((G : Int) < (b : Int)) = false := by simpa using hGb
  have d2 : decide (G < b) = false := by simpa using hGb
  have hU3 : (U : Int) = 0 := by rw [Ht.out, if_neg hGb]
  obtain rfl : U = 0 := by omega
  clear hU3 Ht hGb
  go_wp2
  go_ret2
  exact ⟨E, kd, rfl, H2.out, B2.out⟩
theorem bundle1_c (A : Option Addr) (n c : Nat) (l : List UInt8) (a b B Z : Nat) (t : Bool) (W : World) (g h : Nat) (hl : l.length ≤ 90000) (hg : W.cell? ⟨g, 0,none⟩ = some (.slice A n c)) (hh : W.cell? ⟨h, 0,none⟩ = some (.int .i64 ((scF 5 0 l).2.2 : Int)))
  (hp : PLS W (fun x => B ≤ x ∧ x < Z) A n c (scF 5 0 l).1) (hZ : Z ≤ W.heap.size) (hB : B ≤ W.heap.size) (hab : a ≤ b) :
  Calls Tryz.prog 84 #[.agg #[.int .i64 (a : Int), .int .i64 (b : Int), .bool t], .pointer (some ⟨g, 0,none⟩), .pointer (some ⟨h, 0,none⟩)] W (RetRn B Z W (rdP (scF 5 0 l).1 a b) (told 5 (scF 5 0 l).2.1 (scF 5 0 l).2.2 a b)) := by
 have hpl := hp.len
 have hfew := pcs_few (f := 5) (k := 0) rfl hl
 obtain ⟨hfin, hfin2⟩ := rdP_fin (f := 5) (k := 0) rfl hl a b
 have hasc := asc_F (f := 5) (k := 0) rfl l
 have htold : told 5 (scF 5 0 l).2.1 (scF 5 0 l).2.2 a b = if 0 < a then 0 else (scF 5 0 l).2.2 := by
  unfold told
  rw [if_pos rfl, bun_ef]
  rfl
 obtain ⟨P, hP⟩ : ∃ P, P = (scF 5 0 l).1 := ⟨_, rfl⟩
 obtain ⟨G, hG⟩ : ∃ G, G = (scF 5 0 l).2.2 := ⟨_, rfl⟩
 obtain ⟨U, hU⟩ : ∃ U, U = told 5 (scF 5 0 l).2.1 (scF 5 0 l).2.2 a b := ⟨_, rfl⟩
 rw [← hU, ← hG] at htold
 rw [← hP] at hp hpl hfew hasc hfin hfin2 ⊢
 rw [← hG] at hh
 rw [← hU]
 obtain ⟨Q, hQ⟩ : ∃ Q, Q = Tm.btw a b P := ⟨_, rfl⟩
 have hR : rdP P a b = Tm.all Q := by rw [hQ]; rfl
 rw [← hQ] at hfin hfin2
 rw [hR]
 obtain ⟨w0, hw0⟩ : ∃ w0, w0 = W.alloc (.cells #[.int .i64 (a : Int), .int .i64 (b : Int), .bool t] 64) := ⟨_, rfl⟩
 have b0 : Below W.heap.size W w0 := by rw [hw0]; exact ej _ _
 have x0 : Bx w0 W.heap.size (.int .i64 (a : Int)) (.int .i64 (b : Int)) (.bool t) := by rw [hw0]; exact Bx.made _ _ _ _ _
 have hg0 : w0.cell? ⟨g, 0,none⟩ = some (.slice A n c) := (b0.cell (p := ⟨g, 0,none⟩) (World.block_lt_of_cell? W _ hg)).trans hg
 have hst : Stays W w0 (fun x => B ≤ x ∧ x < Z) (fun x => B ≤ x ∧ x < Z) := ⟨fun _ h => h, fun p hp => b0.cell (p := p) (by have := hp.2; omega)⟩
 have Hw := within_c A n c l.length a b t P _ w0 (hp.keep hst) (fun x hx => by have := hx.2; have := b0.size; omega) (by omega) hasc hab
 rw [← hQ] at Hw
 have Hw := ek Hw
 have W0 := ek hw0; have B0 := ek b0; have X0 := ek x0; have Hh := ek hh; have Ht := ek htold; have Hfin := ek hfin; have Hfin2 := ek hfin2
 have hlx := x0.lt
 have hhb := World.block_lt_of_cell? W _ hh
 have hhb : h < W.heap.size := hhb
 obtain ⟨c0, c1, c2, -, -, -, -⟩ := x0
 clear hp hpl hfew hasc hfin hfin2 htold hh hg hst hw0 b0 hP hG hU hQ hR
 go_enter Tryz.func84, Tryz.ntmps84
 go_wp2_with (rw [← W0.out])
 refine Hw.out.mono ?_
 rintro e w1 ⟨D, d, rfl, h1, b1⟩
 have z0 := B0.out.size
 have z1 := b1.size
 have Hc := ek (collectN_c D Q.length d Q B Z W w1 (by omega) hB h1 (by omega) Hfin2.out Hfin.out)
 have X1 := ek (X0.out.below b1 hlx); have B1 := ek (B0.out.trans (b1.mono z0))
 clear h1 b1 c0 c1 c2 hg0
 go_wp2_with fail
 refine Hc.out.mono ?_
 rintro e w2 ⟨E, kd, rfl, h2, b2⟩
 have B2 := ek (B1.out.trans (b2.mono (by omega)))
 have H2 := ek h2
 obtain ⟨c0, c1, c2, -, -, -, -⟩ := X1.out.below b2 X1.out.lt
 have hh2 : w2.cell? ⟨h, 0,none⟩ = some (.int .i64 (G : Int)) := (B2.out.cell (p := ⟨h, 0,none⟩) hhb).trans Hh.out
 clear h2 b2
 by_cases ha : 0 < a
 ·have d1 : decide ((0 : Int) < (a : Int)) = true := by simpa using ha
  have d2 : decide (0 < a) = true := by simpa using ha
  obtain rfl : U = 0 := by rw [Ht.out, if_pos ha]
  clear Ht ha
  go_wp2
  go_ret2
  exact ⟨E, kd, rfl, H2.out, B2.out⟩
 ·have d1 : decide ((0 : Int) < (a : Int)) = false := by simpa using ha
  have d2 : decide (0 < a) = false := by simpa using ha
  obtain rfl : U = G := by rw [Ht.out, if_neg ha]
  clear Ht ha
  go_wp2_with fail
  go_quiet (fail)
  go_wp2
  go_ret2
  exact ⟨E, kd, rfl, RLS.keep H2.out ⟨fun _ h => h, fun _ _ => rfl⟩, below_drewN B2.out _⟩
theorem St.rb {B0 B Z : Nat} {w w' : World} {A : Option Addr} {n c : Nat} {l : List UInt8} (h : St B0 B Z w w') (hr : Rb w B0 A n c l) (hB : B0 ≤ w'.heap.size) : Rb w' w'.heap.size A n c l := (hr.keep fun p hp => h.cell p (.inl hp)).more hB
theorem St.mx {B0 B Z : Nat} {w w' : World} (h : St B0 B Z w w') (hx : Sq.Mx w) (hB : 0 < B0) (hs : 0 < w'.heap.size) : Sq.Mx w' := by
 obtain ⟨⟨m, hm⟩, _⟩ := hx
 exact ⟨⟨m, (h.cell ⟨0, 0,none⟩ (.inl hB)).trans hm⟩, hs⟩
theorem chestReader_c (A : Option Addr) (n c : Nat) (l : List UInt8) (G : Int) (w : World) (hr : Rb w w.heap.size A n c l) (hn : n ≤ 90000) :
  Calls Tryz.prog 54 #[.slice A n c, .int .i64 G] w fun e w' => ∃ (g h : Nat) (A1 : Option Addr) (c1 : Nat), e = .returned (fv 77 #[.pointer (some ⟨g, 0,none⟩), .pointer (some ⟨h, 0,none⟩)]) ∧
   w'.cell? ⟨g, 0,none⟩ = some (.slice A1 (scF 3 0 l).1.length c1) ∧ w'.cell? ⟨h, 0,none⟩ = some (.int .i64 G) ∧ w.heap.size ≤ g ∧ w.heap.size ≤ h ∧ PLS w' (Fr w.heap.size w') A1 (scF 3 0 l).1.length c1 (scF 3 0 l).1 ∧ Below w.heap.size w w' := by
 obtain ⟨w0, hw0⟩ : ∃ w0, w0 = w.alloc (.cells #[.int .i64 G] 3) := ⟨_, rfl⟩
 have b0 : Below w.heap.size w w0 := by rw [hw0]; exact ej _ _
 have z0 : w0.heap.size = w.heap.size + 1 := by rw [hw0]; simp
 have k0 : w0.cell? ⟨w.heap.size, 0,none⟩ = some (.int .i64 G) := by rw [hw0]; simp
 have hc := Cht.scan_c A n c l w0 ((hr.below b0).more b0.size) (by omega)
 unfold Cht.RetSc at hc
 obtain ⟨P, hP⟩ : ∃ P, P = (Cht.Hm.scS l).1 := ⟨_, rfl⟩
 have hP2 : (scF 3 0 l).1 = P := by rw [hP]; rfl
 rw [hP2]
 rw [← hP] at hc
 have Hc := ek hc
 have W0 := ek hw0; have B0 := ek b0; have K0 := ek k0; have Z0 := ek z0
 clear hr hc hw0 b0 z0 k0 hP hP2
 go_enter Tryz.func54, Tryz.ntmps54
 go_wp2_with (rw [← W0.out])
 refine Hc.out.mono ?_
 rintro e w1 ⟨A1, c1, rfl, h1, b1⟩
 have z1 := b1.size
 obtain ⟨w2, hw2⟩ : ∃ w2, w2 = w1.alloc (.cells #[.slice A1 P.length c1] 67) := ⟨_, rfl⟩
 have b2 : Below w1.heap.size w1 w2 := by rw [hw2]; exact ej _ _
 have k2 : w2.cell? ⟨w1.heap.size, 0,none⟩ = some (.slice A1 P.length c1) := by rw [hw2]; simp
 have hf : PLS w2 (Fr w.heap.size w2) A1 P.length c1 P := h1.keep ⟨fun b hb => ⟨by have := hb.1; have := B0.out.size; omega, by have := hb.2; have := b2.size; omega⟩, fun p hp => b2.cell (p := p) hp.2⟩
 have hk : w2.cell? ⟨w.heap.size, 0,none⟩ = some (.int .i64 G) := (b2.cell (p := ⟨w.heap.size, 0,none⟩) (by show w.heap.size < _; have := Z0.out; omega)).trans ((b1.cell (p := ⟨w.heap.size, 0,none⟩) (by show w.heap.size < _; have := Z0.out; omega)).trans K0.out)
 have bb := B0.out.trans ((b1.trans (b2.mono z1)).mono B0.out.size)
 have Hf := ek hf; have K2 := ek k2; have Hk := ek hk; have BB := ek bb; have W2 := ek hw2
 have hz := B0.out.size
 clear h1 b1 b2 k2 hf hk bb hw2
 go_wp2
 rw [← W2.out]
 go_ret
 exact ⟨w1.heap.size, w.heap.size, A1, c1, rfl, K2.out, Hk.out, by omega, Nat.le_refl _, Hf.out, BB.out⟩
theorem bundleReader_c (A : Option Addr) (n c : Nat) (l : List UInt8) (w : World) (hr : Rb w w.heap.size A n c l) (hn : n ≤ 90000) :
  Calls Tryz.prog 57 #[.slice A n c] w fun e w' => ∃ (g h : Nat) (A1 : Option Addr) (c1 : Nat), e = .returned (fv 84 #[.pointer (some ⟨g, 0,none⟩), .pointer (some ⟨h, 0,none⟩)]) ∧
   w'.cell? ⟨g, 0,none⟩ = some (.slice A1 (scF 5 0 l).1.length c1) ∧ w'.cell? ⟨h, 0,none⟩ = some (.int .i64 ((scF 5 0 l).2.2 : Int)) ∧ w.heap.size ≤ g ∧ w.heap.size ≤ h ∧ PLS w' (Fr w.heap.size w') A1 (scF 5 0 l).1.length c1 (scF 5 0 l).1 ∧ Below w.heap.size w w' := by
 have hc := Bun.scan_c A n c l w hr (by omega)
 unfold Bun.RetSc at hc
 obtain ⟨P, hP⟩ : ∃ P, P = (Bun.Bm.scS l).1 := ⟨_, rfl⟩
 have hP2 : (scF 5 0 l).1 = P := by rw [hP]; rfl
 obtain ⟨X, hX⟩ : ∃ X, X = (Bun.Bm.scS l).2.2 := ⟨_, rfl⟩
 have hX2 : (scF 5 0 l).2.2 = X := by rw [hX]; rfl
 rw [hP2, hX2]
 rw [← hP, ← hX] at hc
 have Hc := ek hc
 clear hr hc hP hP2 hX hX2
 go_enter Tryz.func57, Tryz.ntmps57
 go_wp2_with fail
 refine Hc.out.mono ?_
 rintro e w1 ⟨A1, c1, rfl, h1, b1⟩
 have z1 := b1.size
 obtain ⟨w2, hw2⟩ : ∃ w2, w2 = w1.alloc (.cells #[.slice A1 P.length c1] 67) := ⟨_, rfl⟩
 have b2 : Below w1.heap.size w1 w2 := by rw [hw2]; exact ej _ _
 have z2 : w2.heap.size = w1.heap.size + 1 := by rw [hw2]; simp
 have k2 : w2.cell? ⟨w1.heap.size, 0,none⟩ = some (.slice A1 P.length c1) := by rw [hw2]; simp
 obtain ⟨w3, hw3⟩ : ∃ w3, w3 = w2.alloc (.cells #[.int .i64 (X : Int)] 31) := ⟨_, rfl⟩
 have b3 : Below w2.heap.size w2 w3 := by rw [hw3]; exact ej _ _
 have k3 : w3.cell? ⟨w2.heap.size, 0,none⟩ = some (.int .i64 (X : Int)) := by rw [hw3]; simp
 have k23 : w3.cell? ⟨w1.heap.size, 0,none⟩ = some (.slice A1 P.length c1) := (b3.cell (p := ⟨w1.heap.size, 0,none⟩) (by show w1.heap.size < _; omega)).trans k2
 have b13 := b2.trans (b3.mono b2.size)
 have hf : PLS w3 (Fr w.heap.size w3) A1 P.length c1 P := h1.keep ⟨fun b hb => ⟨hb.1, by have := hb.2; have := b13.size; omega⟩, fun p hp => b13.cell (p := p) hp.2⟩
 have bb := b1.trans (b13.mono z1)
 rw [z2] at k3
 have Hf := ek hf; have K2 := ek k23; have K3 := ek k3; have BB := ek bb; have W2 := ek hw2; have W3 := ek hw3
 clear h1 b1 b2 b3 k2 k3 k23 z2 hf bb b13 hw2 hw3
 go_wp2
 rw [← W2.out, ← W3.out]
 go_ret
 exact ⟨w1.heap.size, w1.heap.size + 1, A1, c1, rfl, K2.out, K3.out, z1, by omega, Hf.out, BB.out⟩
theorem isF_cases {f k : Int} (hF : isF f k = true) : (f = 0 ∧ k = 0) ∨ (f = 1 ∧ k = 0) ∨ (f = 2 ∧ k = 0) ∨ (f = 3 ∧ k = 0) ∨ (f = 4 ∧ 1 ≤ k ∧ k ≤ 1000) ∨ (f = 5 ∧ k = 0) := by
 unfold isF at hF
 split at hF
 ·simp only [Bool.and_eq_true, decide_eq_true_eq] at hF
  omega
 ·unfold isU at hF
  simp only [Bool.and_eq_true, decide_eq_true_eq, beq_iff_eq] at hF
  omega
theorem readerOf_c (f k : Int) (A : Option Addr) (n c : Nat) (l : List UInt8) (B0 : Nat) (w : World) (hr : Rb w B0 A n c l) (hB : B0 ≤ w.heap.size) (hB0 : 0 < B0) (hn : n ≤ 90000) (hF : isF f k = true) (hx : Sq.Mx w) :
  Calls Tryz.prog 27 #[flv f k A n c, .int .i64 ((scF f k l).2.1 : Int)] w fun e w' => ∃ v, e = .returned v ∧ Rdr f k l n B0 w.heap.size w' v ∧ Below w.heap.size w w' := by
 have hl := hr.len
 obtain ⟨w0, hw0⟩ : ∃ w0, w0 = w.alloc (.cells #[.int .i64 f, .int .i64 k, .slice A n c] 24) := ⟨_, rfl⟩
 have z0 : w0.heap.size = w.heap.size + 1 := by rw [hw0]; simp
 have b0 : Below w.heap.size w w0 := by rw [hw0]; exact ej _ _
 have x0 : Bx w0 w.heap.size (.int .i64 f) (.int .i64 k) (.slice A n c) := by rw [hw0]; exact Bx.made _ _ _ _ _
 obtain ⟨G, hG⟩ : ∃ G, G = (scF f k l).2.1 := ⟨_, rfl⟩
 obtain ⟨w1, hw1⟩ : ∃ w1, w1 = w0.alloc (.cells #[.int .i64 (G : Int)] 3) := ⟨_, rfl⟩
 have z1 : w1.heap.size = w.heap.size + 2 := by rw [hw1]; simp [z0]
 have b01 : Below w0.heap.size w0 w1 := by rw [hw1]; exact ej _ _
 have k1 : w1.cell? ⟨w.heap.size + 1, 0,none⟩ = some (.int .i64 (G : Int)) := by rw [hw1, ← z0]; simp
 have x1 := x0.below b01 x0.lt
 have b1 := b0.trans (b01.mono (by omega))
 have hrW : ∀ W Z, St B0 w.heap.size Z w1 W → w1.heap.size ≤ Z → Rb W W.heap.size A n c l := fun W Z h hz => St.rb h ((hr.keep fun p hp => b1.cell (p := p) (by omega))) (by have := h.1; omega)
 have hxW : ∀ W Z, St B0 w.heap.size Z w1 W → w1.heap.size ≤ Z → Sq.Mx W := fun W Z h hz => St.mx h (hx.below' b1) hB0 (by have := h.1; omega)
 have hr1 : Rb w1 w1.heap.size A n c l := (hr.keep fun p hp => b1.cell (p := p) (by omega)).more (by omega)
 rw [← hG]
 have W0 := ek hw0; have W1 := ek hw1; have X1 := ek x1; have K1 := ek k1; have B1 := ek b1; have HrW := ek hrW; have HxW := ek hxW; have Z0 := ek z0; have HG := ek hG; have Hr1 := ek hr1
 obtain ⟨c0, c1, c2, -, -, -, hlt⟩ := x1
 clear hr hw0 z0 b0 x0 hG hw1 b01 b1 hrW hxW hr1 hx
 rcases isF_cases hF with ⟨rfl,rfl⟩ | ⟨rfl,rfl⟩ | ⟨rfl,rfl⟩ | ⟨rfl,rfl⟩ | ⟨rfl, hk1, hk2⟩ | ⟨rfl,rfl⟩
 ·go_enter Tryz.func27, Tryz.ntmps27
  go_wp2_with (first | rw [← W0.out, ← W1.out, Z0.out] | rw [← W0.out, ← W1.out])
  go_ret
  refine ⟨_, rfl, ⟨_, _, rfl, ent_of Tryz.func48 (by kernel_rfl) rfl, fun W h x y hxy hy => ?_⟩, B1.out⟩
  exact rd1_c A n c l x y w.heap.size w1.heap.size W (HrW.out W _ h (Nat.le_refl _)) hn (Nat.le_of_lt hxy) hy (HxW.out W _ h (Nat.le_refl _)) (by have := h.1; omega) _ w.heap.size ((h.cell ⟨w.heap.size, 2,none⟩ (.inr ⟨Nat.le_refl _, hlt⟩)).trans X1.out.c2)
 ·go_enter Tryz.func27, Tryz.ntmps27
  go_wp2_with (first | rw [← W0.out, ← W1.out, Z0.out] | rw [← W0.out, ← W1.out])
  go_ret
  refine ⟨_, rfl, ⟨_, _, rfl, ent_of Tryz.func50 (by kernel_rfl) rfl, fun W h x y hxy hy => ?_⟩, B1.out⟩
  exact rd2_c A n c l x y w.heap.size w1.heap.size W (HrW.out W _ h (Nat.le_refl _)) hn (Nat.le_of_lt hxy) hy (HxW.out W _ h (Nat.le_refl _)) (by have := h.1; omega) w.heap.size (w.heap.size + 1) ((h.cell ⟨w.heap.size, 2,none⟩ (.inr ⟨Nat.le_refl _, hlt⟩)).trans X1.out.c2) (by rw [← HG.out]; exact (h.cell ⟨w.heap.size + 1, 0,none⟩ (.inr ⟨by show _ ≤ w.heap.size + 1; omega, by show w.heap.size + 1 < _; omega⟩)).trans K1.out)
 ·go_enter Tryz.func27, Tryz.ntmps27
  go_wp2_with (first | rw [← W0.out, ← W1.out, Z0.out] | rw [← W0.out, ← W1.out])
  go_ret
  refine ⟨_, rfl, ⟨_, _, rfl, ent_of Tryz.func52 (by kernel_rfl) rfl, fun W h x y hxy hy => ?_⟩, B1.out⟩
  exact rd3_c A n c l x y w.heap.size w1.heap.size W (HrW.out W _ h (Nat.le_refl _)) hn (Nat.le_of_lt hxy) hy (HxW.out W _ h (Nat.le_refl _)) (by have := h.1; omega) _ w.heap.size (w.heap.size + 1) ((h.cell ⟨w.heap.size, 2,none⟩ (.inr ⟨Nat.le_refl _, hlt⟩)).trans X1.out.c2) (by rw [← HG.out]; exact (h.cell ⟨w.heap.size + 1, 0,none⟩ (.inr ⟨by show _ ≤ w.heap.size + 1; omega, by show w.heap.size + 1 < _; omega⟩)).trans K1.out)
 ·have Hc := ek (chestReader_c A n c l (G : Int) w1 Hr1.out hn)
  go_enter Tryz.func27, Tryz.ntmps27
  go_wp2_with (first | rw [← W0.out, ← W1.out, Z0.out] | rw [← W0.out, ← W1.out])
  refine Hc.out.mono ?_
  rintro e w2 ⟨g, h, A1, c1', rfl, g1, g2, g3, g4, g5, b2⟩
  have B2 := ek (B1.out.trans (b2.mono (by omega)))
  have G5 := ek g5; have G1 := ek g1; have G2 := ek g2
  have hz2 := b2.size
  have hgl : g < w2.heap.size := World.block_lt_of_cell? w2 _ g1
  have hhl : h < w2.heap.size := World.block_lt_of_cell? w2 _ g2
  clear g5 g1 g2 b2
  go_wp2
  go_ret
  refine ⟨_, rfl, ⟨_, _, rfl, ent_of Tryz.func77 (by kernel_rfl) rfl, fun W hS x y hxy hy => ?_⟩, B2.out⟩
  refine chest1_c A1 _ c1' l x y w.heap.size w2.heap.size _ W g h (by omega) ((hS.cell ⟨g, 0,none⟩ (.inr ⟨by show _ ≤ g; omega, hgl⟩)).trans G1.out) (by rw [← HG.out]; exact (hS.cell ⟨h, 0,none⟩ (.inr ⟨by show _ ≤ h; omega, hhl⟩)).trans G2.out) (G5.out.keep ⟨fun b hb => ⟨by have := hb.1; omega, hb.2⟩, fun p hp => hS.cell p (.inr ⟨by have := hp.1; omega, hp.2⟩)⟩) hS.1 (by have := hS.1; omega) (Nat.le_of_lt hxy) (by omega)
 ·go_enter Tryz.func27, Tryz.ntmps27
  go_wp2_with (first | rw [← W0.out, ← W1.out, Z0.out] | rw [← W0.out, ← W1.out])
  go_ret
  refine ⟨_, rfl, ⟨_, _, rfl, ent_of Tryz.func55 (by kernel_rfl) rfl, fun W h x y hxy hy => ?_⟩, B1.out⟩
  exact rd4_c A n c l x y w.heap.size w1.heap.size W (HrW.out W _ h (Nat.le_refl _)) hn (Nat.le_of_lt hxy) hy (by have := h.1; omega) k hk1 hk2 _ w.heap.size ((h.cell ⟨w.heap.size, 1,none⟩ (.inr ⟨Nat.le_refl _, hlt⟩)).trans X1.out.c1) ((h.cell ⟨w.heap.size, 2,none⟩ (.inr ⟨Nat.le_refl _, hlt⟩)).trans X1.out.c2)
 ·have Hc := ek (bundleReader_c A n c l w1 Hr1.out hn)
  go_enter Tryz.func27, Tryz.ntmps27
  go_wp2_with (first | rw [← W0.out, ← W1.out, Z0.out] | rw [← W0.out, ← W1.out])
  refine Hc.out.mono ?_
  rintro e w2 ⟨g, h, A1, c1', rfl, g1, g2, g3, g4, g5, b2⟩
  have B2 := ek (B1.out.trans (b2.mono (by omega)))
  have G5 := ek g5; have G1 := ek g1; have G2 := ek g2
  have hz2 := b2.size
  have hgl : g < w2.heap.size := World.block_lt_of_cell? w2 _ g1
  have hhl : h < w2.heap.size := World.block_lt_of_cell? w2 _ g2
  clear g5 g1 g2 b2
  go_wp2
  go_ret
  refine ⟨_, rfl, ⟨_, _, rfl, ent_of Tryz.func84 (by kernel_rfl) rfl, fun W hS x y hxy hy => ?_⟩, B2.out⟩
  refine bundle1_c A1 _ c1' l x y w.heap.size w2.heap.size _ W g h (by omega) ((hS.cell ⟨g, 0,none⟩ (.inr ⟨by show _ ≤ g; omega, hgl⟩)).trans G1.out) ((hS.cell ⟨h, 0,none⟩ (.inr ⟨by show _ ≤ h; omega, hhl⟩)).trans G2.out) (G5.out.keep ⟨fun b hb => ⟨by have := hb.1; omega, hb.2⟩, fun p hp => hS.cell p (.inr ⟨by have := hp.1; omega, hp.2⟩)⟩) hS.1 (by have := hS.1; omega) (Nat.le_of_lt hxy)
end Go.Proofs.YtkekmokdlgocaaaGreatDoor.Pl
