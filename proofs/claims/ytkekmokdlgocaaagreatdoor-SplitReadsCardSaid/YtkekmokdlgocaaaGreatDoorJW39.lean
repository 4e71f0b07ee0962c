import Derived.Test.YtkekmokdlgocaaaGreatDoorJW38
import Derived.Test.YtkekmokdlgocaaaGreatDoorJW36
set_option maxRecDepth 100000
set_option maxHeartbeats 4000000
namespace Go.Proofs.YtkekmokdlgocaaaGreatDoor.Pl
open Go.RowKit
theorem F3.insides {W0 : World} {f k : Int} {s r i : Value} (h : F3 W0 f k s r i) (w : World) (A : Option Addr) (n c : Nat) (l : List UInt8) (E : Option Addr) (m d : Nat) (C : List Nat) (hr : Rb w w.heap.size A n c l) (hn : n ≤ 90000) (hc : Rc 1 w w.heap.size E m d (ivs (ic C))) (hC : Cu n C) :
  Calls Tryz.prog 46 #[.agg #[s, r, i], .slice A n c, .slice E m d] w (RetB w (insF f l C)) := by
 rcases h with ⟨_, rfl, h⟩ | ⟨rfl, h1, h2, g, hg, hlt, rfl, rfl, rfl⟩
 ·rcases h with ⟨rfl, -, -, rfl⟩ | ⟨rfl, -, -, rfl⟩ | ⟨rfl, -, -, rfl⟩ | ⟨rfl, -, -, rfl⟩ | ⟨rfl, -, -, rfl⟩
  ·exact insides_out A n c l E m d C s r _ (by omega) w hr hn hc hC
  ·exact insides_csv A n c l E m d C s r _ rfl w hr hn hc hC
  ·exact insides_out A n c l E m d C s r _ (by omega) w hr hn hc hC
  ·exact insides_out A n c l E m d C s r _ (by omega) w hr hn hc hC
  ·exact insides_out A n c l E m d C s r _ (by omega) w hr hn hc hC
 ·exact insides_out A n c l E m d C _ _ _ (by omega) w hr hn hc hC
def pv0 : Value := .agg #[.slice none 0 0, .slice none 0 0, .int .i64 0]
theorem make_err (f k : Int) (A : Option Addr) (n c : Nat) (E : Option Addr) (m d : Nat) (L : List Int) (w : World) (hn : n ≤ 9223372036854775807) (hc : Rc 1 w w.heap.size E m d (ivs L)) (h : (isF f k && decide (n ≤ 100000)) = false ∨ ¬ IsC n L) :
  Calls Tryz.prog 25 #[flv f k A n c, .slice E m d] w fun e w' => e = .returned (.tuple #[pv0, .int .i64 1]) ∧ Below w.heap.size w w' := by
 obtain ⟨w0, hw0⟩ : ∃ w0, w0 = w.alloc (.cells #[.int .i64 f, .int .i64 k, .slice A n c] 24) := ⟨_, rfl⟩
 have z0 : w0.heap.size = w.heap.size + 1 := by rw [hw0]; simp
 have b0 : Below w.heap.size w w0 := by rw [hw0]; exact ej _ _
 have x0 : Bx w0 w.heap.size (.int .i64 f) (.int .i64 k) (.slice A n c) := by rw [hw0]; exact Bx.made _ _ _ _ _
 obtain ⟨w1, hw1⟩ : ∃ w1, w1 = w0.alloc (.cells #[.slice none 0 0, .slice none 0 0, .int .i64 0] 28) := ⟨_, rfl⟩
 have z1 : w1.heap.size = w.heap.size + 2 := by rw [hw1]; simp [z0]
 have b01 : Below w0.heap.size w0 w1 := by rw [hw1]; exact ej _ _
 have x1 := x0.below b01 (by omega)
 have y1 : Bx w1 w0.heap.size (.slice none 0 0) (.slice none 0 0) (.int .i64 0) := by rw [hw1]; exact Bx.made _ _ _ _ _
 rw [z0] at y1
 have b1 := b0.trans (b01.mono (by omega))
 obtain ⟨o, ho⟩ : ∃ o, o = (isF f k && decide (n ≤ 100000)) := ⟨_, rfl⟩
 have Hc := ek (functionsOf_c f k A n c o ho hn w1)
 rw [← ho] at h
 have W0 := ek hw0; have W1 := ek hw1; have Hcu := ek hc; have H := ek h; have X1 := ek x1; have Z0 := ek z0
 obtain ⟨c0, c1, c2, -, -, -, hlt⟩ := x1
 clear hw0 hw1 ho b0 x0 b01 h hc z0
 go_enter Tryz.func25, Tryz.ntmps25
 go_wp2_with (rw [← W0.out, ← W1.out])
 refine Hc.out.mono ?_
 rintro e w2 ⟨s, r, i, rfl, -, hfv, b2⟩
 have z2 := b2.size
 have bb := b1.trans (b2.mono (by omega))
 have x2 := X1.out.below b2 hlt
 have y2 := y1.below b2 (by omega)
 clear c0 c1 c2
 have fin : ∀ (K : Act) (W : World), Bx W (w.heap.size + 1) (.slice none 0 0) (.slice none 0 0) (.int .i64 0) → Below w.heap.size w W → K.tmps[4]? = some (.pointer (some ⟨w.heap.size + 1, 0,none⟩)) → K.tmps[5]? = some (.int .i64 1) → K.defers = [] →
   bodyPost Tryz.prog Tryz.f25 (fun e w' => e = .returned (.tuple #[pv0, .int .i64 1]) ∧ Below w.heap.size w w') Exit.ret K W := by
  intro K W hx hb h4 h5 hd
  obtain ⟨y0, y1, y2, -, -, -, -⟩ := hx
  refine bodyPost_ret (v := .tuple #[pv0, .int .i64 1]) ?_ hd ⟨rfl, hb⟩
  simp [results, Tryz.results25, go_sem, y0, y1, y2, h4, h5, pv0]
 have Fin := ek fin
 clear fin
 cases o with
 | false =>
  obtain ⟨w3, hw3⟩ : ∃ w3, w3 = put3 w2 (w.heap.size + 1) (.slice none 0 0) (.slice none 0 0) (.int .i64 0) := ⟨_, rfl⟩
  obtain ⟨w4, hw4⟩ : ∃ w4, w4 = w3.alloc (.cells #[s, r, i] 89) := ⟨_, rfl⟩
  have x3 := put3_box y2 (.slice none 0 0) (.slice none 0 0) (.int .i64 0)
  rw [← hw3] at x3
  have b23 := put3_below w2 (w.heap.size + 1) (.slice none 0 0) (.slice none 0 0) (.int .i64 0)
  rw [← hw3] at b23
  have b34 : Below w3.heap.size w3 w4 := by rw [hw4]; exact ej _ _
  have x4 := x3.below b34 x3.lt
  have b4 := (bb.trans (b23.mono (by omega))).trans (b34.mono (by have := b23.size; omega))
  have X4 := ek x4; have B4 := ek b4; have W3 := ek hw3; have W4 := ek hw4
  obtain ⟨c0, c1, c2, f0, f1, f2, hlt2⟩ := y2
  have hlt3 : w.heap.size + 1 < w2.heap.size := by omega
  clear b23 b34 x3 hw3 hw4 x4 b4 x2 bb y1 b1 b2
  rcases hfv with ⟨a, b, c', ca, cb, cc, rfl, rfl, rfl⟩ | ⟨rfl, rfl, rfl⟩
  all_goals
   go_wp2
   have h1 := X4.out
   have h2 := B4.out
   rw [W4.out, W3.out] at h1 h2
   exact Fin.out _ _ h1 h2 rfl rfl rfl
 | true =>
  have hno := H.out.resolve_left (by simp)
  obtain ⟨w3, hw3⟩ : ∃ w3, w3 = w2.alloc (.cells #[s, r, i] 89) := ⟨_, rfl⟩
  have b23 : Below w2.heap.size w2 w3 := by rw [hw3]; exact ej _ _
  have z3 := b23.size
  have x3 := x2.below b23 x2.lt
  have y3 := y2.below b23 y2.lt
  have b3 := bb.trans (b23.mono (by omega))
  have Hac := ek (areCuts_c E m d n L w3 ((Hcu.out.below b3).more (by omega)) false (by simp [hno]))
  have W3 := ek hw3; have Y3 := ek y3
  obtain ⟨c0, c1, c2, -, -, -, hlt2⟩ := x2
  have hlt4 : w.heap.size < w2.heap.size := by omega
  clear b23 hw3 y3 bb y1 b1 b2 y2 x3 hno
  rcases hfv with ⟨a, b, c', ca, cb, cc, rfl, rfl, rfl⟩ | ⟨rfl, rfl, rfl⟩
  all_goals
   go_wp2_with fail
   rw [← W3.out]
   refine Hac.out.mono ?_
   rintro e w4 ⟨rfl, b4⟩
   have y4 := Y3.out.below b4 Y3.out.lt
   have bb4 := b3.trans (b4.mono (by omega))
   have x5 := put3_box y4 (.slice none 0 0) (.slice none 0 0) (.int .i64 0)
   have b5 := bb4.trans ((put3_below w4 (w.heap.size + 1) (.slice none 0 0) (.slice none 0 0) (.int .i64 0)).mono (by omega))
   have X5 := ek x5; have B5 := ek b5
   obtain ⟨e0, e1, e2, f0, f1, f2, hlt5⟩ := y4
   clear x5 b5 c0 c1 c2
   go_wp2
   exact Fin.out _ _ X5.out B5.out rfl rfl rfl
def Ex (g B : Nat) (w w' : World) : Prop := ∀ p : Addr, p.block ≠ g → p.block < B → w'.cell? p = w.cell? p
theorem Ex.refl {g B : Nat} (w : World) : Ex g B w w := fun _ _ _ => rfl
theorem Ex.trans {g B : Nat} (a b c : World) (h : Ex g B a b) (h2 : Ex g B b c) : Ex g B a c := fun p h1 h3 => (h2 p h1 h3).trans (h p h1 h3)
theorem Ex.of {g B B' : Nat} {w w' : World} (h : Below B' w w') (hB : B ≤ B') : Ex g B w w' := fun _ _ h2 => h.cell (Nat.lt_of_lt_of_le h2 hB)
theorem ex_put3 (w : World) (g B : Nat) (v0 v1 v2 : Value) : Ex g B w (put3 w g v0 v1 v2) := fun p h1 _ => by
 obtain ⟨b, j, pa⟩ := p
 have hne : ∀ k, (⟨g, k,none⟩ : Addr) ≠ ⟨b, j, pa⟩ := fun k q => h1 (by injection q with q; exact q.symm)
 unfold put3
 rw [World.cell?_setCell_other _ _ _ _ (hne 2), World.cell?_setCell_other _ _ _ _ (hne 1), World.cell?_setCell_other _ _ _ _ (hne 0)]
theorem asc_len {hi : Nat} : ∀ {l : List Nat} {lo : Nat}, Asc lo hi l → lo + l.length ≤ hi ∨ l = []
 | [], _, _ => .inr rfl
 | x :: l, lo, h => by
  left
  have h1 := h.1
  have h2 := h.2.1
  rcases asc_len h.2.2 with h3 | h3
  ·simp only [List.length_cons]; omega
  ·subst h3; simp only [List.length_cons, List.length_nil]; omega
theorem cu_len {n : Nat} {C : List Nat} (h : Cu n C) : C.length ≤ n + 1 := by
 rcases asc_len (cu_get h) with h1 | h1
 ·omega
 ·rw [h1]; simp
def RetPl (w : World) (C : List Nat) (I : List Bool) (g : Nat) (e : Ending) (w' : World) : Prop :=
 ∃ A c D d, e = .returned (.tuple #[.agg #[.slice A C.length c, .slice D I.length d, .int .i64 (g : Int)], .int .i64 0]) ∧ RcS 1 w' (Fr w.heap.size w') A C.length c (ivs (ic C)) ∧ RcS 1 w' (Fr w.heap.size w') D I.length d (lvb I) ∧ Below w.heap.size w w'
theorem make_ok (f k : Int) (A : Option Addr) (n c : Nat) (l : List UInt8) (E : Option Addr) (m d : Nat) (C : List Nat) (w : World) (hr : Rb w w.heap.size A n c l) (hn : n ≤ 90000) (hc : Rc 1 w w.heap.size E m d (ivs (ic C))) (hC : Cu n C) (hF : isF f k = true) (hx : Sq.Mx w) :
  Calls Tryz.prog 25 #[flv f k A n c, .slice E m d] w (RetPl w C (insF f l C) (scF f k l).2.1) := by
 have hCl : C.length = m := by have := hc.len1; rw [ivs_length, ic_len] at this; exact this
 have hm1 := (cu_pos hC).1
 have hm2 := cu_len hC
 obtain ⟨w0, hw0⟩ : ∃ w0, w0 = w.alloc (.cells #[.int .i64 f, .int .i64 k, .slice A n c] 24) := ⟨_, rfl⟩
 have z0 : w0.heap.size = w.heap.size + 1 := by rw [hw0]; simp
 have b0 : Below w.heap.size w w0 := by rw [hw0]; exact ej _ _
 have x0 : Bx w0 w.heap.size (.int .i64 f) (.int .i64 k) (.slice A n c) := by rw [hw0]; exact Bx.made _ _ _ _ _
 obtain ⟨w1, hw1⟩ : ∃ w1, w1 = w0.alloc (.cells #[.slice none 0 0, .slice none 0 0, .int .i64 0] 28) := ⟨_, rfl⟩
 have z1 : w1.heap.size = w.heap.size + 2 := by rw [hw1]; simp [z0]
 have b01 : Below w0.heap.size w0 w1 := by rw [hw1]; exact ej _ _
 have x1 := x0.below b01 (by omega)
 have y1 : Bx w1 w0.heap.size (.slice none 0 0) (.slice none 0 0) (.int .i64 0) := by rw [hw1]; exact Bx.made _ _ _ _ _
 rw [z0] at y1
 have b1 := b0.trans (b01.mono (by omega))
 have Hc := ek (functionsOf_c f k A n c true (by rw [hF]; simp; omega) (by omega) w1)
 have W0 := ek hw0; have W1 := ek hw1; have Hcu := ek hc; have X1 := ek x1; have Z0 := ek z0; have Hr := ek hr; have Hx := ek hx; have HC := ek hC; have HCl := ek hCl
 obtain ⟨c0, c1, c2, -, -, -, hlt⟩ := x1
 clear hw0 hw1 b0 x0 b01 hc z0 hr hx hF hCl hC
 go_enter Tryz.func25, Tryz.ntmps25
 go_wp2_with (rw [← W0.out, ← W1.out])
 refine Hc.out.mono ?_
 rintro e w2 ⟨s, r, i, rfl, hf3, hfv, b2⟩
 have hf3 := hf3 rfl
 have z2 := b2.size
 have bb := b1.trans (b2.mono (by omega))
 have x2 := X1.out.below b2 hlt
 have y2 := y1.below b2 (by omega)
 clear c0 c1 c2
 obtain ⟨w3, hw3⟩ : ∃ w3, w3 = w2.alloc (.cells #[s, r, i] 89) := ⟨_, rfl⟩
 have b23 : Below w2.heap.size w2 w3 := by rw [hw3]; exact ej _ _
 have z3 := b23.size
 have x3 := x2.below b23 x2.lt
 have y3 := y2.below b23 y2.lt
 have v3 : Bx w3 w2.heap.size s r i := by rw [hw3]; exact Bx.made _ _ _ _ _
 have b3 := bb.trans (b23.mono (by omega))
 have Hac := ek (areCuts_c E m d n (ic C) w3 ((Hcu.out.below b3).more (by omega)) true (by simp [cu_isC HC.out]))
 have hf3' := hf3.below b23 (Nat.le_refl _)
 obtain ⟨a, ca, rfl, hent, hsc⟩ := hf3'.scan
 have W3 := ek hw3; have Y3 := ek y3; have X3 := ek x3; have V3 := ek v3; have F3' := ek hf3'; have Hsc := ek hsc; have B3 := ek b3
 obtain ⟨c0, c1, c2, -, -, -, hlt2⟩ := x2
 have hlt4 : w.heap.size < w2.heap.size := by omega
 clear b23 hw3 y3 bb y1 b1 b2 y2 x3 v3 hf3 hf3' hsc b3
 rcases hfv with ⟨a', b, c', ca', cb, cc, h1, rfl, rfl⟩ | ⟨h1, _⟩
 ·clear h1
  go_wp2_with fail
  rw [← W3.out]
  refine Hac.out.mono ?_
  rintro e w4 ⟨rfl, b4⟩
  have z4 := b4.size
  have y4 := Y3.out.below b4 Y3.out.lt
  have x4 := X3.out.below b4 X3.out.lt
  have v4 := V3.out.below b4 V3.out.lt
  have bb4 := B3.out.trans (b4.mono (by omega))
  have Hs2 := ek (Hsc.out w4 A n c l b4 ((Hr.out.below bb4).more (by omega)) hn (Hx.out.below bb4 Hx.out.2))
  have F4 := ek (F3'.out.below b4 (Nat.le_refl _))
  have X4 := ek x4; have Y4 := ek y4; have V4 := ek v4; have BB4 := ek bb4
  clear c0 c1 c2
  obtain ⟨c0, c1, c2, -, -, -, hlt6⟩ := x4
  obtain ⟨v0, v1, v2, -, -, -, hlt7⟩ := v4
  clear y4 bb4 b4
  go_wp2_with fail
  rw [hent, Oper.upon_enter]
  refine Hs2.out.mono ?_
  rintro e w5 ⟨A3, c3, rfl, -, b5⟩
  have z5 := b5.size
  have x5 := X4.out.below b5 X4.out.lt
  have y5 := Y4.out.below b5 Y4.out.lt
  have v5 := V4.out.below b5 V4.out.lt
  have bb5 := BB4.out.trans (b5.mono (by omega))
  have F5 := ek (F4.out.below b5 (Nat.le_refl _))
  have Y5 := ek y5; have BB5 := ek bb5
  clear c0 c1 c2 v0 v1 v2
  obtain ⟨c0, c1, c2, -, -, -, hlt8⟩ := x5
  obtain ⟨v0, v1, v2, -, -, -, hlt9⟩ := v5
  obtain ⟨gd, hgd⟩ : ∃ gd, gd = (scF f k l).2.1 := ⟨_, rfl⟩
  rw [← hgd]
  have Hgd := ek hgd
  have HB := ek (Nat.le_refl w5.heap.size)
  have Hcl := fun W (h : Below w5.heap.size w5 W) => clone_c E m d C W (((Hcu.out.below BB5.out).below (B := w.heap.size) (h.mono (by omega))).more (by have := h.size; omega)) (by have := HCl.out; omega) (by have := HCl.out; omega)
  have Hin := fun W (h : Below w5.heap.size w5 W) => F5.out.insides W A n c l E m d C (((Hr.out.below BB5.out).below (B := w.heap.size) (h.mono (by omega))).more (by have := h.size; omega)) hn (((Hcu.out.below BB5.out).below (B := w.heap.size) (h.mono (by omega))).more (by have := h.size; omega)) HC.out
  have Hcl := ek Hcl; have Hin := ek Hin
  clear hgd y5 bb5 b5
  go_wp2_with fail
  refine wp_region_schedR (Ex (w.heap.size + 1) w5.heap.size) Ex.refl Ex.trans [(false, 0), (false, 2), (false, 3), (false, 4), (false, 5), (false, 7), (true, 1), (true, 6), (false, 8), (true, 9), (false, 10)] (by kernel_rfl) (by kernel_rfl) (by kernel_rfl) (by kernel_rfl) (fun _ _ d _ _ h => by cases d <;> exact h) ?_
  refine wpR_read (o := ⟨some 36, .move (.tmp 1), 25, "plan.go:54", #[],none⟩) (v := .slice E m d) rfl (by rfl) ?_ ?_
  ·intro w' _; go_simp
  try simp only [Act.put, ep, eh, ei]
  refine wpR_read (o := ⟨some 38, .load 89 (.tmp 6), 89, "plan.go:54", #[],none⟩) (v := .agg #[fv a ca, fv b cb, fv c' cc]) rfl (by rfl) ?_ ?_
  ·intro w' hw'; have q0 := (hw' ⟨w2.heap.size, 0,none⟩ (by show w2.heap.size ≠ _; omega) (by show w2.heap.size < _; omega)).trans v0; have q1 := (hw' ⟨w2.heap.size, 1,none⟩ (by show w2.heap.size ≠ _; omega) (by show w2.heap.size < _; omega)).trans v1; have q2 := (hw' ⟨w2.heap.size, 2,none⟩ (by show w2.heap.size ≠ _; omega) (by show w2.heap.size < _; omega)).trans v2; go_simp
  try simp only [Act.put, ep, eh, ei]
  refine wpR_read (o := ⟨some 39, .fieldAddr 24 (.tmp 2) 2, 0, "plan.go:54", #[],none⟩) (v := .pointer (some ⟨w.heap.size, 2,none⟩)) rfl (by rfl) ?_ ?_
  ·intro w' _; go_simp
  try simp only [Act.put, ep, eh, ei]
  refine wpR_read (o := ⟨some 40, .load 22 (.tmp 39), 22, "plan.go:54", #[⟨3, .data⟩],none⟩) (v := .slice A n c) rfl (by rfl) ?_ ?_
  ·intro w' hw'; have q2 := (hw' ⟨w.heap.size, 2,none⟩ (by show w.heap.size ≠ _; omega) (by show w.heap.size < _; omega)).trans c2; go_simp
  try simp only [Act.put, ep, eh, ei]
  refine wpR_read (o := ⟨some 41, .move (.tmp 1), 25, "plan.go:54", #[],none⟩) (v := .slice E m d) rfl (by rfl) ?_ ?_
  ·intro w' _; go_simp
  try simp only [Act.put, ep, eh, ei]
  refine wpR_read (o := ⟨some 43, .move (.tmp 9), 3, "plan.go:54", #[],none⟩) (v := .int .i64 (gd : Int)) rfl (by rfl) ?_ ?_
  ·intro w' _; go_simp
  try simp only [Act.put, ep, eh, ei]
  refine wpR_call (o := ⟨some 37, .call { callee := .value (.func 45), args := #[.tmp 36], argTypes := #[25] }, 25, "plan.go:54", #[⟨0, .data⟩],none⟩) rfl (by rfl) (fun K hK => ?_)
  go_simp
  go_at_call 45
  with_reducible refine (Hcl.out w5.drew (show Below w5.heap.size w5 w5.drew from below_drewN (Below.refl _ _) 1)).mono ?_
  rintro e w6 ⟨A6, c6, rfl, h6, b6⟩
  have b6' : Below w5.heap.size w5 w6 := ⟨b6.os, b6.tape, b6.output, b6.size, b6.block⟩
  have z6 := b6'.size
  have H6 := ek h6; have B6 := ek b6'
  refine hK.out _ _ (Ex.of b6 (by show _ ≤ w5.heap.size; omega)) ?_
  clear hK K h6 b6 b6'
  try simp only [Act.put, ep, eh, ei]
  refine wpR_call (o := ⟨some 42, .call { callee := .value (.func 46), args := #[.tmp 38, .tmp 40, .tmp 41], argTypes := #[89, 22, 25] }, 26, "plan.go:54", #[⟨2, .data⟩,⟨4, .data⟩,⟨5, .data⟩,⟨1, .chain⟩],none⟩) rfl (by rfl) (fun K hK => ?_)
  go_simp
  go_at_call 46
  with_reducible refine (Hin.out _ B6.out).mono ?_
  rintro e w7 ⟨A7, c7, rfl, h7, b7⟩
  have z7 := b7.size
  have H7 := ek h7; have B7 := ek b7
  refine hK.out _ _ (Ex.of b7 (by omega)) ?_
  clear hK K h7 b7
  try simp only [Act.put, ep, eh, ei]
  refine wpR_read (o := ⟨some 44, .build 28 #[(0, .tmp 37), (1, .tmp 42), (2, .tmp 43)], 28, "plan.go:54", #[⟨1, .data⟩,⟨6, .data⟩,⟨7, .data⟩],none⟩) (v := .agg #[.slice A6 m c6, .slice A7 (insF f l C).length c7, .int .i64 (gd : Int)]) rfl (by rfl) ?_ ?_
  ·intro w' _; go_simp
  try simp only [Act.put, ep, eh, ei]
  refine wpR_call (o := ⟨none, .store 28 (.tmp 4) (.tmp 44), 0, "plan.go:54", #[⟨8, .data⟩,⟨6, .chain⟩,⟨0, .phase⟩,⟨1, .phase⟩,⟨2, .phase⟩,⟨3, .phase⟩,⟨4, .phase⟩,⟨5, .phase⟩,⟨6, .phase⟩,⟨7, .phase⟩,⟨8, .phase⟩],none⟩) rfl (by rfl) (fun K hK => ?_)
  have y7 := (Y5.out.below B6.out (by omega)).below B7.out (by omega)
  obtain ⟨w8, hw8⟩ : ∃ w8, w8 = put3 w7 (w.heap.size + 1) (.slice A6 m c6) (.slice A7 (insF f l C).length c7) (.int .i64 (gd : Int)) := ⟨_, rfl⟩
  have x8 := put3_box y7 (.slice A6 m c6) (.slice A7 (insF f l C).length c7) (.int .i64 (gd : Int))
  have q8 := put3_below w7 (w.heap.size + 1) (.slice A6 m c6) (.slice A7 (insF f l C).length c7) (.int .i64 (gd : Int))
  rw [← hw8] at x8 q8
  have X8 := ek x8; have Q8 := ek q8; have W8 := ek hw8
  obtain ⟨o0, o1, o2, o3, o4, o5, o6⟩ := y7
  clear x8 q8 hw8
  go_simp
  change K _ (put3 w7 (w.heap.size + 1) _ _ _)
  rw [← W8.out]
  refine hK.out _ _ (by rw [W8.out]; exact ex_put3 _ _ _ _ _ _) ?_
  clear hK K o0 o1 o2 o3 o4 o5 o6
  try simp only [Act.put, ep, eh, ei]
  refine wpR_read (o := ⟨some 5, .assign (.const (.int .i64 0)), 31, "plan.go:54", #[⟨9, .chain⟩,⟨0, .phase⟩,⟨1, .phase⟩,⟨2, .phase⟩,⟨3, .phase⟩,⟨4, .phase⟩,⟨5, .phase⟩,⟨6, .phase⟩,⟨7, .phase⟩,⟨8, .phase⟩,⟨9, .phase⟩],none⟩) (v := .int .i64 0) rfl (by rfl) ?_ ?_
  ·intro w' _; go_simp
  try simp only [Act.put, ep, eh, ei]
  refine wpR_done ?_
  have h6 := H6.out.keep B7.out
  have z78 := Q8.out.size
  have z7' : w6.heap.size ≤ w7.heap.size := z7
  have h68 := h6.rcS.keep (show Stays w7 w8 (Fr w5.drew.heap.size w7) (Fr w.heap.size w8) from ⟨fun b hb => ⟨by have h : w5.heap.size ≤ b := hb.1; omega, by have := hb.2; omega⟩, fun p hp => by
   have h : w5.heap.size ≤ p.block := hp.1
   rw [W8.out]
   exact ex_put3 _ _ (p.block + 1) _ _ _ p (by omega) (by omega)⟩)
  have h78 := H7.out.keep (show Stays w7 w8 (Fr w6.heap.size w7) (Fr w.heap.size w8) from ⟨fun b hb => ⟨by have h : w6.heap.size ≤ b := hb.1; omega, by have := hb.2; omega⟩, fun p hp => by
   have h : w6.heap.size ≤ p.block := hp.1
   rw [W8.out]
   exact ex_put3 _ _ (p.block + 1) _ _ _ p (by omega) (by omega)⟩)
  have bb8 := ((BB5.out.trans (B6.out.mono (by omega))).trans (B7.out.mono (by omega))).trans (Q8.out.mono (by omega))
  have x8 := X8.out
  obtain ⟨y0, y1, y2, -, -, -, -⟩ := x8
  have hCm := HCl.out
  go_wp2
  refine bodyPost_ret (v := .tuple #[.agg #[.slice A6 m c6, .slice A7 (insF f l C).length c7, .int .i64 (gd : Int)], .int .i64 0]) ?_ rfl ⟨A6, c6, A7, c7, by rw [Hgd.out, hCm], by rw [hCm]; exact h68, h78, bb8⟩
  simp [results, Tryz.results25, go_sem, y0, y1, y2]
 ·cases h1
def RetRw (w : World) (L : List (List (List UInt8))) (h : Nat) (e : Ending) (w' : World) : Prop :=
 ∃ A c, e = .returned (.tuple #[.slice A L.length c, .int .i64 (h : Int)]) ∧ RLS w' (Fr w.heap.size w') A L.length c L ∧ Below w.heap.size w w'
theorem bun_err (l : List UInt8) : (Bun.Bm.scS l).2.2 = 0 ∨ (Bun.Bm.scS l).2.2 = 3 := by
 unfold Bun.Bm.scS
 split
 ·exact .inr rfl
 ·split
  ·exact .inr rfl
  ·split
   ·exact .inr rfl
   ·exact .inl rfl
theorem bun_ef (k : Int) (l : List UInt8) : ef 5 (scF 5 k l).2.2 = (Bun.Bm.scS l).2.2 := by
 show ef 5 (Bun.Bm.scS l).2.2 = _
 rcases bun_err l with h | h <;> rw [h] <;> rfl
theorem bunp_one : ∀ (D : List Bun.Bm.F) (V : List (List UInt8)), ∀ p ∈ Bun.Bm.pcs D V, p.2.length ≤ 1
 | [], _ => fun p hp => by unfold Bun.Bm.pcs at hp; rw [List.zipWith_nil_left] at hp; cases hp
 | _ :: _, [] => fun p hp => by unfold Bun.Bm.pcs at hp; rw [List.zipWith_nil_right] at hp; cases hp
 | f :: D, x :: V => fun p hp => by
  unfold Bun.Bm.pcs at hp
  rw [List.zipWith_cons_cons] at hp
  rcases List.mem_cons.1 hp with rfl | hp
  ·simp
  ·exact bunp_one D V p hp
theorem bun_one (l : List UInt8) : ∀ p ∈ (Bun.Bm.scS l).1, p.2.length ≤ 1 := by
 unfold Bun.Bm.scS
 split
 ·intro p hp; cases hp
 ·split
  ·exact bunp_one _ _
  ·split <;> exact bunp_one _ _
theorem all_one : ∀ (P : List (Nat × List (List (List UInt8)))), (∀ p ∈ P, p.2.length ≤ 1) → (Tm.all P).length ≤ P.length
 | [], _ => by simp [Tm.all]
 | p :: P, h => by
  have ih := all_one P fun q hq => h q (List.mem_cons_of_mem _ hq)
  have h1 := h p (List.mem_cons_self ..)
  have e : Tm.all (p :: P) = p.2 ++ Tm.all P := rfl
  rw [e, List.length_append, List.length_cons]
  omega
theorem is_c (f k : Int) (o : Bool) (ho : o = isF f k) (w : World) : Calls Tryz.prog 40 #[.int .i64 f, .int .i64 k] w fun e w' => e = .returned (.bool o) ∧ w = w' := by
 unfold isF isU at ho
 by_cases h4 : f = 4
 ·subst h4
  rw [if_pos rfl] at ho
  obtain ⟨p, hp⟩ : ∃ p, p = decide (1 ≤ k) := ⟨_, rfl⟩
  obtain ⟨q, hq⟩ : ∃ q, q = decide (k ≤ 1000) := ⟨_, rfl⟩
  rw [← hp, ← hq] at ho
  have d1 := hp.symm
  have d2 := hq.symm
  have Ho := ek ho
  clear ho hp hq
  go_enter Tryz.func40, Tryz.ntmps40
  cases p <;> cases q
  all_goals
   go_wp2
   go_ret
   exact ⟨by rw [Ho.out]; rfl, rfl⟩
 ·rw [if_neg h4] at ho
  have d4 : (f == 4) = false := beq_eq_false_iff_ne.2 h4
  rw [show decide (f ≠ 4) = true by simpa using h4, Bool.and_true] at ho
  obtain ⟨p, hp⟩ : ∃ p, p = decide (0 ≤ f) := ⟨_, rfl⟩
  obtain ⟨q, hq⟩ : ∃ q, q = decide (f ≤ 5) := ⟨_, rfl⟩
  obtain ⟨r, hr⟩ : ∃ r, r = (k == 0) := ⟨_, rfl⟩
  rw [← hp, ← hq, ← hr] at ho
  have d1 := hp.symm
  have d2 := hq.symm
  have d3 := hr.symm
  have Ho := ek ho
  clear ho hp hq hr h4
  go_enter Tryz.func40, Tryz.ntmps40
  cases p <;> cases q <;> cases r
  all_goals
   go_wp2
   go_ret
   exact ⟨by rw [Ho.out]; rfl, rfl⟩
theorem rmay_c (f k : Int) (A : Option Addr) (n c : Nat) (o : Bool) (ho : o = (isF f k && decide (n ≤ 100000))) (w : World) : Calls Tryz.prog 20 #[flv f k A n c] w fun e w' => e = .returned (.bool o) ∧ Below w.heap.size w w' := by
 obtain ⟨w0, hw0⟩ : ∃ w0, w0 = w.alloc (.cells #[.int .i64 f, .int .i64 k, .slice A n c] 35) := ⟨_, rfl⟩
 have b0 : Below w.heap.size w w0 := by rw [hw0]; exact ej _ _
 have x0 : Bx w0 w.heap.size (.int .i64 f) (.int .i64 k) (.slice A n c) := by rw [hw0]; exact Bx.made _ _ _ _ _
 obtain ⟨p, hp⟩ : ∃ p, p = isF f k := ⟨_, rfl⟩
 obtain ⟨q, hq⟩ : ∃ q, q = decide (n ≤ 100000) := ⟨_, rfl⟩
 have Hc := ek (is_c f k p hp w0)
 rw [← hp, ← hq] at ho
 have d1 : decide ((n : Int) ≤ 100000) = q := by rw [hq]; simp; omega
 have W0 := ek hw0; have Ho := ek ho
 obtain ⟨c0, c1, c2, -, -, -, -⟩ := x0
 clear hw0 ho hp hq
 go_enter Tryz.func20, Tryz.ntmps20
 go_wp2_with (rw [← W0.out])
 refine Hc.out.mono ?_
 rintro e w1 ⟨rfl,rfl⟩
 cases p <;> cases q
 all_goals
  go_wp2
  go_ret
  exact ⟨by rw [Ho.out]; rfl, b0⟩
theorem rscans (k : Int) (A : Option Addr) (n c : Nat) (l : List UInt8) (w : World) (hr : Rb w w.heap.size A n c l) (hn : n ≤ 90000) :
  Calls Tryz.prog 60 #[.slice A n c] w (RetS w (scF 0 k l)) ∧ Calls Tryz.prog 61 #[.slice A n c] w (RetS w (scF 1 k l)) ∧ Calls Tryz.prog 62 #[.slice A n c] w (RetS w (scF 2 k l)) ∧
  Calls Tryz.prog 63 #[.slice A n c] w (RetS w (scF 3 k l)) ∧ Calls Tryz.prog 65 #[.slice A n c] w (RetS w (scF 5 k l)) := by
 refine ⟨(Txt.rscan_c A n c l w hr (by omega)).mono fun e w' ⟨A1, c1, h0, h1, h2⟩ => ?_, (Csv.scanD_c A n c l w hr (by omega)).mono fun e w' ⟨A1, c1, h0, h1, h2⟩ => ?_, (Sq.rscan_c A n c l w hr (by omega)).mono fun e w' ⟨A1, c1, h0, h1, h2⟩ => ?_, (Cht.rscan_c A n c l w hr (by omega)).mono fun e w' ⟨A1, c1, h0, h1, h2⟩ => ?_, (Bun.rscan_c A n c l w hr (by omega)).mono fun e w' ⟨A1, c1, h0, h1, h2⟩ => ?_⟩
 ·rw [scF_txt]
  exact ⟨A1, c1, by rw [List.length_map]; exact h0, by rw [List.length_map]; exact h1, h2⟩
 ·rw [scF_csv]
  exact ⟨A1, c1, by rw [List.length_map]; exact h0, by rw [List.length_map]; exact h1, h2⟩
 ·rw [scF_seq]
  exact ⟨A1, c1, h0, h1, h2⟩
 ·rw [scF_cht]
  exact ⟨A1, c1, h0, h1, h2⟩
 ·rw [scF_bun]
  exact ⟨A1, c1, h0, h1, h2⟩
theorem rfixed (k : Int) (A : Option Addr) (n c : Nat) (l : List UInt8) (w : World) (hr : Rb w w.heap.size A n c l) (hn : n ≤ 90000) (hk : 1 ≤ k) (hk2 : k ≤ 1000) :
  Calls Tryz.prog 64 #[.slice A n c, .int .i64 k] w (RetS w (scF 4 k l)) := by
 have e : ((k.toNat : Nat) : Int) = k := by omega
 have h := Fix.rscan_c A n c k.toNat l w hr (by omega) (by omega) (by omega)
 rw [e] at h
 refine h.mono fun e w' ⟨A1, c1, h0, h1, h2⟩ => ?_
 rw [scF_fix]
 exact ⟨A1, c1, by rw [List.length_map]; exact h0, by rw [List.length_map]; exact h1, h2⟩
theorem rscan_ok (f k : Int) (A : Option Addr) (n c : Nat) (l : List UInt8) (w : World) (hr : Rb w w.heap.size A n c l) (hn : n ≤ 90000) (hF : isF f k = true) :
  Calls Tryz.prog 30 #[flv f k A n c] w (RetS w (scF f k l)) := by
 obtain ⟨w0, hw0⟩ : ∃ w0, w0 = w.alloc (.cells #[.int .i64 f, .int .i64 k, .slice A n c] 35) := ⟨_, rfl⟩
 have b0 : Below w.heap.size w w0 := by rw [hw0]; exact ej _ _
 have z0 : w0.heap.size = w.heap.size + 1 := by rw [hw0]; simp
 have x0 : Bx w0 w.heap.size (.int .i64 f) (.int .i64 k) (.slice A n c) := by rw [hw0]; exact Bx.made _ _ _ _ _
 have Hc := ek (rmay_c f k A n c true (by rw [hF]; simp; omega) w0)
 have Hr := ek hr
 have W0 := ek hw0; have X0 := ek x0
 have hlt := x0.lt
 obtain ⟨c0, c1, c2, -, -, -, -⟩ := x0
 unfold flv at Hc
 clear hw0 hr
 go_enter Tryz.func30, Tryz.ntmps30
 go_wp2_with (rw [← W0.out])
 refine Hc.out.mono ?_
 rintro e w1 ⟨rfl, b1⟩
 have z1 := b1.size
 have bb := b0.trans (b1.mono (by omega))
 have hr1 := (Hr.out.below bb).more (B' := w1.heap.size) (by omega)
 obtain ⟨y0, y1, y2, -, -, -, -⟩ := X0.out.below b1 hlt
 have hfin : ∀ (w2 : World) (e : Ending), RetS w1 (scF f k l) e w2 → RetS w (scF f k l) e w2 := fun w2 e ⟨A1, c1, h0, h1, h2⟩ => ⟨A1, c1, h0, h1.keep (stays_weak fun b hb => ⟨by have := hb.1; omega, hb.2⟩), bb.trans (h2.mono (by omega))⟩
 obtain ⟨r0, r1, r2, r3, r5⟩ := rscans k A n c l w1 hr1 hn
 have r4 := rfixed k A n c l w1 hr1 hn
 have Hfin := ek hfin
 clear hfin c0 c1 c2 hr1
 unfold isF at hF
 by_cases h4 : f = 4
 ·subst h4
  rw [if_pos rfl] at hF
  simp only [Bool.and_eq_true, decide_eq_true_eq] at hF
  have r4 := r4 hF.1 hF.2
  have R := ek r4
  clear r0 r1 r2 r3 r4 r5
  go_wp2_with fail
  refine R.out.mono ?_
  rintro e w2 h
  have h := Hfin.out w2 e h
  obtain ⟨A1, c1, rfl, h1, h2⟩ := h
  have H1 := ek h1
  clear h1
  go_wp2
  go_ret3
  exact ⟨A1, c1, rfl, H1.out, h2⟩
 ·rw [if_neg h4] at hF
  unfold isU at hF
  simp only [Bool.and_eq_true, decide_eq_true_eq, beq_iff_eq] at hF
  obtain ⟨⟨⟨g1, g2⟩, g3⟩, rfl⟩ := hF
  have hc : f = 0 ∨ f = 1 ∨ f = 2 ∨ f = 3 ∨ f = 5 := by omega
  clear r4 g1 g2 g3 h4
  rcases hc with rfl | rfl | rfl | rfl | rfl
  ·have R := ek r0
   clear r0 r1 r2 r3 r5
   go_wp2_with fail
   refine R.out.mono ?_
   rintro e w2 h
   have h := Hfin.out w2 e h
   obtain ⟨A1, c1, rfl, h1, h2⟩ := h
   have H1 := ek h1
   clear h1
   go_wp2
   go_ret3
   exact ⟨A1, c1, rfl, H1.out, h2⟩
  ·have R := ek r1
   clear r0 r1 r2 r3 r5
   go_wp2_with fail
   refine R.out.mono ?_
   rintro e w2 h
   have h := Hfin.out w2 e h
   obtain ⟨A1, c1, rfl, h1, h2⟩ := h
   have H1 := ek h1
   clear h1
   go_wp2
   go_ret3
   exact ⟨A1, c1, rfl, H1.out, h2⟩
  ·have R := ek r2
   clear r0 r1 r2 r3 r5
   go_wp2_with fail
   refine R.out.mono ?_
   rintro e w2 h
   have h := Hfin.out w2 e h
   obtain ⟨A1, c1, rfl, h1, h2⟩ := h
   have H1 := ek h1
   clear h1
   go_wp2
   go_ret3
   exact ⟨A1, c1, rfl, H1.out, h2⟩
  ·have R := ek r3
   clear r0 r1 r2 r3 r5
   go_wp2_with fail
   refine R.out.mono ?_
   rintro e w2 h
   have h := Hfin.out w2 e h
   obtain ⟨A1, c1, rfl, h1, h2⟩ := h
   have H1 := ek h1
   clear h1
   go_wp2
   go_ret3
   exact ⟨A1, c1, rfl, H1.out, h2⟩
  ·have R := ek r5
   clear r0 r1 r2 r3 r5
   go_wp2_with fail
   refine R.out.mono ?_
   rintro e w2 h
   have h := Hfin.out w2 e h
   obtain ⟨A1, c1, rfl, h1, h2⟩ := h
   have H1 := ek h1
   clear h1
   go_wp2
   go_ret3
   exact ⟨A1, c1, rfl, H1.out, h2⟩
theorem rmake_err (f k : Int) (A : Option Addr) (n c : Nat) (E : Option Addr) (m d : Nat) (L : List Int) (w : World) (hc : Rc 1 w w.heap.size E m d (ivs L)) (h : (isF f k && decide (n ≤ 100000)) = false ∨ ¬ IsC n L) :
  Calls Tryz.prog 58 #[flv f k A n c, .slice E m d] w fun e w' => e = .returned (.tuple #[pv0, .int .i64 1]) ∧ Below w.heap.size w w' := by
 obtain ⟨w0, hw0⟩ : ∃ w0, w0 = w.alloc (.cells #[.int .i64 f, .int .i64 k, .slice A n c] 35) := ⟨_, rfl⟩
 have z0 : w0.heap.size = w.heap.size + 1 := by rw [hw0]; simp
 have b0 : Below w.heap.size w w0 := by rw [hw0]; exact ej _ _
 have x0 : Bx w0 w.heap.size (.int .i64 f) (.int .i64 k) (.slice A n c) := by rw [hw0]; exact Bx.made _ _ _ _ _
 obtain ⟨w1, hw1⟩ : ∃ w1, w1 = w0.alloc (.cells #[.slice none 0 0, .slice none 0 0, .int .i64 0] 37) := ⟨_, rfl⟩
 have z1 : w1.heap.size = w.heap.size + 2 := by rw [hw1]; simp [z0]
 have b01 : Below w0.heap.size w0 w1 := by rw [hw1]; exact ej _ _
 have x1 := x0.below b01 (by omega)
 have y1 : Bx w1 w0.heap.size (.slice none 0 0) (.slice none 0 0) (.int .i64 0) := by rw [hw1]; exact Bx.made _ _ _ _ _
 rw [z0] at y1
 have b1 := b0.trans (b01.mono (by omega))
 obtain ⟨o, ho⟩ : ∃ o, o = (isF f k && decide (n ≤ 100000)) := ⟨_, rfl⟩
 have hm := rmay_c f k A n c o ho w1
 unfold flv at hm
 have Hc := ek hm
 rw [← ho] at h
 have fin : ∀ (K : Act) (W : World), Bx W (w.heap.size + 1) (.slice none 0 0) (.slice none 0 0) (.int .i64 0) → Below w.heap.size w W → K.tmps[4]? = some (.pointer (some ⟨w.heap.size + 1, 0,none⟩)) → K.tmps[5]? = some (.int .i64 1) → K.defers = [] →
   bodyPost Tryz.prog Tryz.f58 (fun e w' => e = .returned (.tuple #[pv0, .int .i64 1]) ∧ Below w.heap.size w w') Exit.ret K W := by
  intro K W hx hb h4 h5 hd
  obtain ⟨y0, y1, y2, -, -, -, -⟩ := hx
  refine bodyPost_ret (v := .tuple #[pv0, .int .i64 1]) ?_ hd ⟨rfl, hb⟩
  simp [results, Tryz.results58, go_sem, y0, y1, y2, h4, h5, pv0]
 have W0 := ek hw0; have W1 := ek hw1; have Hcu := ek hc; have H := ek h; have X1 := ek x1; have Z0 := ek z0; have Fin := ek fin; have Y1 := ek y1
 obtain ⟨c0, c1, c2, -, -, -, hlt⟩ := x1
 have hly := y1.lt
 clear hw0 hw1 ho b0 x0 b01 h hc z0 fin hm y1
 go_enter Tryz.func58, Tryz.ntmps58
 go_wp2_with (rw [← W0.out, ← W1.out])
 refine Hc.out.mono ?_
 rintro e w2 ⟨rfl, b2⟩
 have z2 := b2.size
 have bb := b1.trans (b2.mono (by omega))
 have X2 := ek (X1.out.below b2 hlt)
 have Y2 := ek (Y1.out.below b2 hly)
 clear c0 c1 c2
 cases o with
 | false =>
  have y3 := put3_box Y2.out (.slice none 0 0) (.slice none 0 0) (.int .i64 0)
  have b3 := bb.trans ((put3_below w2 (w.heap.size + 1) (.slice none 0 0) (.slice none 0 0) (.int .i64 0)).mono (by omega))
  have Y3 := ek y3; have B3 := ek b3
  obtain ⟨o0, o1, o2, q0, q1, q2, -⟩ := Y2.out
  clear y3 b3
  go_wp2
  exact Fin.out _ _ Y3.out B3.out rfl rfl rfl
 | true =>
  have hno := H.out.resolve_left (by simp)
  have Hac := ek (rcuts_c E m d n L w2 ((Hcu.out.below bb).more (by omega)) false (by simp [hno]))
  have hl2 : w.heap.size < w2.heap.size := by omega
  have hl3 : w.heap.size + 1 < w2.heap.size := by omega
  obtain ⟨c0, c1, c2, -, -, -, -⟩ := X2.out
  clear hno
  go_wp2_with fail
  refine Hac.out.mono ?_
  rintro e w4 ⟨rfl, b4⟩
  have Y4 := ek (Y2.out.below b4 hl3)
  have bb4 := bb.trans (b4.mono (by omega))
  have z4 := b4.size
  have y3 := put3_box Y4.out (.slice none 0 0) (.slice none 0 0) (.int .i64 0)
  have b3 := bb4.trans ((put3_below w4 (w.heap.size + 1) (.slice none 0 0) (.slice none 0 0) (.int .i64 0)).mono (by omega))
  have Y3 := ek y3; have B3 := ek b3
  clear c0 c1 c2 y3 b3
  obtain ⟨o0, o1, o2, q0, q1, q2, -⟩ := Y4.out
  go_wp2
  exact Fin.out _ _ Y3.out B3.out rfl rfl rfl
def MkRel (g9 m : Nat) (w7 : World) (A6 : Option Addr) (c6 gd : Nat) (f : Int) (l : List UInt8) (C : List Nat) (i : Value) (wr : World) : Prop :=
 ∃ D d, ∃ J : Nat, i = .int .i64 (J : Int) ∧ J ≤ m ∧ Bx wr g9 (.slice A6 m c6) (.slice D J d) (.int .i64 (gd : Int)) ∧ Oc 1 wr 4 w7.heap.size D J d (lvb (insF f l (C.take J))) ∧ Below g9 w7 wr
def Ye (A : Option Addr) (g B : Nat) (w w' : World) : Prop := ∀ p : Addr, some p.block ≠ ob A → p.block ≠ g → p.block < B → w'.cell? p = w.cell? p
theorem Ye.refl {A : Option Addr} {g B : Nat} (w : World) : Ye A g B w w := fun _ _ _ _ => rfl
theorem Ye.trans {A : Option Addr} {g B : Nat} (a b c : World) (h : Ye A g B a b) (h2 : Ye A g B b c) : Ye A g B a c := fun x h1 h3 h4 => (h2 x h1 h3 h4).trans (h x h1 h3 h4)
theorem Ye.of {A : Option Addr} {g B B' : Nat} {w w' : World} (h : Below B' w w') (hB : B ≤ B') : Ye A g B w w' := fun _ _ _ h2 => h.cell (Nat.lt_of_lt_of_le h2 hB)
theorem Ye.grows {A A' : Option Addr} {g B : Nat} {w w' : World} (h : Grows w w' A A') (hB : B ≤ w.heap.size) : Ye A g B w w' := fun x h1 _ h2 => h.cell x (Nat.lt_of_lt_of_le h2 hB) h1
theorem Ye.cell {A : Option Addr} {g B : Nat} {w w' : World} (h : Ye A g B w w') (p : Addr) (h1 : some p.block ≠ ob A) (h0 : p.block ≠ g) (h2 : p.block < B) : w'.cell? p = w.cell? p := h p h1 h0 h2
theorem Ye.set (A : Option Addr) (g B : Nat) (w : World) (j : Nat) (v : Value) : Ye A g B w (w.setCell ⟨g, j,none⟩ v) := fun p _ h0 _ => World.cell?_setCell_other w _ _ _ (fun e => h0 (by rw [← e]))
theorem Bx.set1 {w : World} {g : Nat} {v0 v1 v2 : Value} (h : Bx w g v0 v1 v2) (v : Value) : Bx (w.setCell ⟨g, 1,none⟩ v) g v0 v v2 := by
 have o : ∀ j, j ≠ 1 → (w.setCell ⟨g, 1,none⟩ v).cell? ⟨g, j,none⟩ = w.cell? ⟨g, j,none⟩ := fun j hj => World.cell?_setCell_other w _ _ _ (by simp)
 have f : ∀ j, (w.setCell ⟨g, 1,none⟩ v).frozen? ⟨g, j,none⟩ = w.frozen? ⟨g, j,none⟩ := fun j => by simp
 exact ⟨(o 0 (by omega)).trans h.c0, World.cell?_setCell_same w _ _ h.c1, (o 2 (by omega)).trans h.c2, (f 0).trans h.f0, (f 1).trans h.f1, (f 2).trans h.f2, by simp; exact h.lt⟩
theorem insF_snoc {f : Int} {l : List UInt8} {C : List Nat} {J v : Nat} (h : C[J]? = some v) : lvb (insF f l (C.take (J + 1))) = lvb (insF f l (C.take J)) ++ [.bool (inF f l (v : Int))] := by
 unfold lvb insF
 rw [List.take_add_one, h]
 simp
theorem rmake_ok (f k : Int) (A : Option Addr) (n c : Nat) (l : List UInt8) (E : Option Addr) (m d : Nat) (C : List Nat) (w : World) (hr : Rb w w.heap.size A n c l) (hn : n ≤ 90000) (hc : Rc 1 w w.heap.size E m d (ivs (ic C))) (hC : Cu n C) (hF : isF f k = true) :
  Calls Tryz.prog 58 #[flv f k A n c, .slice E m d] w (RetPl w C (insF f l C) (scF f k l).2.1) := by
 have hCl : C.length = m := by have := hc.len1; rw [ivs_length, ic_len] at this; exact this
 have hm2 := cu_len hC
 rw [hCl] at hm2
 obtain ⟨w0, hw0⟩ : ∃ w0, w0 = w.alloc (.cells #[.int .i64 f, .int .i64 k, .slice A n c] 35) := ⟨_, rfl⟩
 have z0 : w0.heap.size = w.heap.size + 1 := by rw [hw0]; simp
 have b0 : Below w.heap.size w w0 := by rw [hw0]; exact ej _ _
 have x0 : Bx w0 w.heap.size (.int .i64 f) (.int .i64 k) (.slice A n c) := by rw [hw0]; exact Bx.made _ _ _ _ _
 obtain ⟨w1, hw1⟩ : ∃ w1, w1 = w0.alloc (.cells #[.slice none 0 0, .slice none 0 0, .int .i64 0] 37) := ⟨_, rfl⟩
 have z1 : w1.heap.size = w.heap.size + 2 := by rw [hw1]; simp [z0]
 have b01 : Below w0.heap.size w0 w1 := by rw [hw1]; exact ej _ _
 have x1 := x0.below b01 (by omega)
 have y1 : Bx w1 w0.heap.size (.slice none 0 0) (.slice none 0 0) (.int .i64 0) := by rw [hw1]; exact Bx.made _ _ _ _ _
 rw [z0] at y1
 have b1 := b0.trans (b01.mono (by omega))
 have hm := rmay_c f k A n c true (by rw [hF]; simp; omega) w1
 unfold flv at hm
 have Hc := ek hm
 have W0 := ek hw0; have W1 := ek hw1; have Hcu := ek hc; have X1 := ek x1; have Y1 := ek y1; have Hr := ek hr; have HC := ek hC; have HCl := ek hCl; have HF := ek hF
 obtain ⟨c0, c1, c2, -, -, -, hlt⟩ := x1
 have hly := y1.lt
 clear hw0 hw1 b0 x0 b01 hc z0 hm y1 hr hC hCl hF
 go_enter Tryz.func58, Tryz.ntmps58
 go_wp2_with (rw [← W0.out, ← W1.out])
 refine Hc.out.mono ?_
 rintro e w2 ⟨rfl, b2⟩
 have z2 := b2.size
 have bb2 := b1.trans (b2.mono (by omega))
 have X2 := ek (X1.out.below b2 hlt)
 have Y2 := ek (Y1.out.below b2 hly)
 have hl2 : w.heap.size < w2.heap.size := by omega
 have hl2' : w.heap.size + 1 < w2.heap.size := by omega
 have Hac := ek (rcuts_c E m d n (ic C) w2 ((Hcu.out.below bb2).more (by omega)) true (by simp [cu_isC HC.out]))
 clear c0 c1 c2
 obtain ⟨c0, c1, c2, -, -, -, -⟩ := X2.out
 go_wp2_with fail
 refine Hac.out.mono ?_
 rintro e w3 ⟨rfl, b3⟩
 have z3 := b3.size
 have bb3 := bb2.trans (b3.mono (by omega))
 have X3 := ek (X2.out.below b3 hl2)
 have Y3 := ek (Y2.out.below b3 hl2')
 have hsc := rscan_ok f k A n c l w3 ((Hr.out.below bb3).more (by omega)) hn HF.out
 unfold flv at hsc
 unfold RetS at hsc
 obtain ⟨gd, hgd⟩ : ∃ gd, gd = (scF f k l).2.1 := ⟨_, rfl⟩
 rw [← hgd] at hsc ⊢
 have Hsc := ek hsc; have Hgd := ek hgd
 clear c0 c1 c2 hsc hgd
 obtain ⟨c0, c1, c2, -, -, -, -⟩ := X3.out
 have hl3 : w.heap.size < w3.heap.size := by omega
 have hl3' : w.heap.size + 1 < w3.heap.size := by omega
 go_wp2_with fail
 refine Hsc.out.mono ?_
 rintro e w4 ⟨A4, c4, rfl, -, b4⟩
 have z4 := b4.size
 have bb4 := bb3.trans (b4.mono (by omega))
 have X4 := ek (X3.out.below b4 hl3)
 have Y4 := ek (Y3.out.below b4 hl3')
 obtain ⟨w5, hw5⟩ : ∃ w5, w5 = w4.alloc (.cells #[] 3) := ⟨_, rfl⟩
 have b45 : Below w4.heap.size w4 w5 := by rw [hw5]; exact ej _ _
 have z5 : w5.heap.size = w4.heap.size + 1 := by rw [hw5]; simp
 have hown5 : Oc 1 w5 3 w4.heap.size (some ⟨w4.heap.size, 0,none⟩) 0 0 [] := by rw [hw5]; exact Oc.made0 1 _ _
 have hcu5 := (Hcu.out.below (bb4.trans (b45.mono (by omega)))).more (B' := w5.heap.size) (by omega)
 have H5 := ek hw5; have Hown5 := ek hown5; have Hcu5 := ek hcu5; have BB4 := ek bb4; have B45 := ek b45
 clear c0 c1 c2 hw5 hown5 hcu5 b45 bb4
 go_wp2_with (at_builtin; rw [← H5.out]; go_must (refine Sl.wpAppAt ity rfl (.tmp 29) (.tmp 30) rfl (n := 0) (m := m) (N := m) (ws := ivs (ic C)) rfl rfl Hown5.out Hcu5.out ?hs1 (by omega) rfl ?hs4 ?hs5 ?hs6 ?_))
 case hs1 =>
  intro v hv
  unfold ivs at hv
  obtain ⟨a, -, rfl⟩ := List.mem_map.1 hv
  rfl
 case hs4 => omega
 case hs5 => omega
 case hs6 => omega
 intro A6 c6 w6 hown6 hg6
 have bx := hg6.belowC Hown5.out (by omega)
 have z6 : w5.heap.size ≤ w6.heap.size := hg6.size
 obtain ⟨g9, hg9⟩ : ∃ g9, g9 = w6.heap.size := ⟨_, rfl⟩
 obtain ⟨w7, hw7⟩ : ∃ w7, w7 = w6.alloc (.cells #[.slice A6 m c6, .slice none 0 0, .int .i64 (gd : Int)] 37) := ⟨_, rfl⟩
 have b67 : Below w6.heap.size w6 w7 := by rw [hw7]; exact ej _ _
 have z7 : w7.heap.size = w6.heap.size + 1 := by rw [hw7]; simp
 have x7 : Bx w7 g9 (.slice A6 m c6) (.slice none 0 0) (.int .i64 (gd : Int)) := by rw [hw7, hg9]; exact Bx.made _ _ _ _ _
 have b47 : Below w4.heap.size w4 w7 := (B45.out.trans bx).trans (b67.mono (by omega))
 have hown7 : RcS 1 w7 (Fr w4.heap.size w6) A6 m c6 (ivs (ic C)) := hown6.rcS.keep ⟨fun _ h => h, fun p hp => b67.cell hp.2⟩
 have Hg9 := ek hg9; have W7 := ek hw7; have B47 := ek b47; have X7 := ek x7; have Hown7 := ek hown7
 have hg9l : g9 < w7.heap.size := by omega
 have hg9w : w4.heap.size < g9 := by omega
 clear hown6 hg6 bx hg9 hw7 b67 b47 x7 hown7
 go_wp2_with (rw [← W7.out, ← Hg9.out])
 go_loopw [10] (fun i wr => MkRel g9 m w7 A6 c6 gd f l C i wr) (fun i _ => m - (intOf i).toNat)
 case atStart => exact ⟨none, 0, 0, rfl, Nat.zero_le _, X7.out, Oc.nil _ _ _ _, Below.refl _ _⟩
 case round =>
  obtain ⟨D, dd, J, rfl, hJ, hx, hown, hbel⟩ := hrel
  rename World => wr
  have zr := hbel.size
  have b4r : Below w4.heap.size w4 wr := B47.out.trans (hbel.mono (by omega))
  have bWr := BB4.out.trans (b4r.mono (by omega))
  have B4r := ek b4r; have BWr := ek bWr; have Hown := ek hown; have Hx := ek hx
  have hgr : g9 < wr.heap.size := by omega
  clear hown b4r bWr
  by_cases hlt : J < m
  ·obtain ⟨eb, eo, x, rfl, heb, hcx, hxx⟩ := (Hcu.out.below BWr.out).int (k := J) hlt
   obtain ⟨v, hv, rfl⟩ := ic_inv hxx
   have hsn := insF_snoc (f := f) (l := l) hv
   have hv9 : v ≤ 90000 := by
    have h1 := Asc.mem (cu_get HC.out) v (List.mem_of_getElem? hv)
    omega
   obtain ⟨q, hq⟩ : ∃ q, q = inF f l (v : Int) := ⟨_, rfl⟩
   rw [← hq] at hsn
   obtain ⟨vs, hvs⟩ : ∃ vs, vs = lvb (insF f l (C.take J)) := ⟨_, rfl⟩
   have hown := Hown.out
   rw [← hvs] at hsn hown
   have hDl : ∀ g, ob D = some g → w7.heap.size ≤ g := fun g hg => (oc_ob hown g hg).1
   obtain ⟨c0, c1, c2, -, -, -, -⟩ := X4.out.below B4r.out (by omega)
   obtain ⟨w8, h8⟩ : ∃ w8, w8 = wr.alloc (.cells #[.bool q] 4) := ⟨_, rfl⟩
   have b8 : Below wr.heap.size wr w8 := by rw [h8]; exact ej _ _
   have hlit : Rc 1 w8 (wr.heap.size + 1) (some ⟨wr.heap.size, 0,none⟩) 1 1 [.bool q] := by rw [h8]; exact Rc.lit (z := 1) wr _ #[.bool q] 1 rfl (by simp [maxLen])
   have hlit : Rc 1 w8 w8.heap.size (some ⟨wr.heap.size, 0,none⟩) 1 1 [.bool q] := hlit.more (by rw [h8]; simp)
   have own8 := hown.keep b8
   have hz8c : wr.heap.size ≤ (w8.drewN 1).heap.size := b8.size
   have hz8 : w7.heap.size ≤ (w8.drewN 1).heap.size := Nat.le_trans zr b8.size
   have hy8 : Ye D g9 wr.heap.size wr.drew (w8.drewN 1) := Ye.of ⟨b8.os, b8.tape, b8.output, b8.size, b8.block⟩ (Nat.le_refl _)
   have hend : ∀ A9 c9 w9, Oc 1 w9 4 w7.heap.size A9 (J + 1) c9 (vs ++ [.bool q]) → Grows (w8.drewN 1) w9 D A9 → Bx w9 g9 (.slice A6 m c6) (.slice D J dd) (.int .i64 (gd : Int)) ∧ g9 < w9.heap.size ∧ wr.heap.size ≤ w9.heap.size ∧
     MkRel g9 m w7 A6 c6 gd f l C (.int .i64 ((J : Int) + 1)) (w9.setCell ⟨g9, 1,none⟩ (.slice A9 (J + 1) c9)) := by
    intro A9 c9 w9 ho hg
    have hne : some g9 ≠ ob D := fun e => by have := hDl g9 e.symm; omega
    have e1 : w9.heap[g9]? = (w8.drewN 1).heap[g9]? := hg.heap g9 (Nat.lt_of_lt_of_le hgr hz8c) hne
    have e2 : (w8.drewN 1).heap[g9]? = wr.heap[g9]? := b8.block g9 hgr
    have hs : wr.heap.size ≤ w9.heap.size := Nat.le_trans hz8c hg.size
    have hb := Hx.out.keep hs (e1.trans e2)
    refine ⟨hb, hb.lt, hs, A9, c9, J + 1, by go_num, by omega, hb.set1 _, ?_, ?_⟩
    ·rw [hsn]
     exact Bun.oc_setLow ho hg9l _
    ·have h1 : Below g9 wr w9 := (b8.mono (by omega)).trans ((show Below g9 w8 (w8.drewN 1) from ⟨rfl, rfl, rfl, Nat.le_refl _, fun _ _ => rfl⟩).trans ((hg.belowC (own8.drewN 1) hz8).mono (by omega)))
     exact (hbel.trans h1).trans (Bun.below_set _ (Nat.le_refl _) _)
   have Hend := ek hend; have H8 := ek h8; have Hown8 := ek own8; have Hlit := ek hlit; have Hq := ek hq
   have nwD : some w.heap.size ≠ ob D := fun e => by have := hDl _ e.symm; omega
   have nw9 : w.heap.size ≠ g9 := by omega
   have nwl : w.heap.size < wr.heap.size := by omega
   have neD : some eb ≠ ob D := fun e => by have := hDl _ e.symm; omega
   have ne9 : eb ≠ g9 := by omega
   have nel : eb < wr.heap.size := by omega
   have c0d : wr.drew.cell? ⟨w.heap.size, 0,none⟩ = some (.int .i64 f) := c0
   have c2d : wr.drew.cell? ⟨w.heap.size, 2,none⟩ = some (.slice A n c) := c2
   have hcd : wr.drew.cell? ⟨eb, eo + J,none⟩ = some (.int .i64 (v : Int)) := hcx
   have g1d : wr.drew.cell? ⟨g9, 1,none⟩ = some (.slice D J dd) := hx.c1
   have g8d : (w8.drewN 1).cell? ⟨g9, 1,none⟩ = some (.slice D J dd) := (b8.cell (p := ⟨g9, 1,none⟩) hgr).trans hx.c1
   have hJ9 : J ≤ 90001 := by omega
   by_cases hf1 : f = 1
   ·subst hf1
    have hi := Csv.insideD_c A n c w.heap.size l (v : Int) (by constructor <;> omega) wr.drew ((Hr.out.below BWr.out).drewN 1) (by omega)
    have hq2 : Csv.Cv.odd (l.take ((v : Int)).toNat) = q := by rw [hq]; rfl
    rw [hq2] at hi
    have Hin := ek hi
    clear hi hq2 hend h8 own8 hlit hq hown hsn hvs hv hxx hDl b8 hx hcx
    go_upto_region 8 with fail
    refine wp_region_tree (Ye D g9 wr.heap.size) Ye.refl Ye.trans (.read 0 (.read 2 (.read 3 (.read 4 (.read 5 (.read 6 (.read 7 (.read 8 (.read 9 (.read 10 (.read 11 (.two 1 12 (.alone 12 (.read 13 (.alone 14 (.alone 15 (.alone 16 (.alone 17 .done)))))) (.read 13 (.two 1 14 (.alone 14 (.alone 15 (.alone 16 (.alone 17 .done)))) (.alone 1 (.alone 15 (.alone 16 (.alone 17 .done)))))))))))))))))) (by kernel_rfl) (by kernel_rfl) (by kernel_rfl) (by kernel_rfl) (fun _ _ d _ _ h => by cases d <;> exact h) ?_
    refine wpS_read (o := ⟨some 40, .fieldAddr 37 (.tmp 9) 1, 0, "ref.go:115", #[],none⟩) (v := .pointer (some ⟨g9, 1,none⟩)) rfl (by rfl) ?_ ?_
    ·intro w' _; go_simp
    try simp only [Act.put, ep, eh, ei]
    refine wpS_read (o := ⟨some 42, .fieldAddr 35 (.tmp 2) 0, 0, "ref.go:115", #[],none⟩) (v := .pointer (some ⟨w.heap.size, 0,none⟩)) rfl (by rfl) ?_ ?_
    ·intro w' _; go_simp
    try simp only [Act.put, ep, eh, ei]
    refine wpS_read (o := ⟨some 43, .load 3 (.tmp 42), 3, "ref.go:115", #[⟨2, .data⟩],none⟩) (v := .int .i64 1) rfl (by rfl) ?_ ?_
    ·intro w' hw'; have hcl := (hw'.cell ⟨w.heap.size, 0,none⟩ nwD nw9 nwl).trans c0d; go_simp
    try simp only [Act.put, ep, eh, ei]
    refine wpS_read (o := ⟨some 44, .binOp .eql 3 (.tmp 43) (.const (.int .i64 1)) 3, 4, "ref.go:115", #[⟨3, .data⟩],none⟩) (v := .bool true) rfl (by rfl) ?_ ?_
    ·intro w' _; go_simp
    try simp only [Act.put, ep, eh, ei]
    refine wpS_read (o := ⟨some 45, .move (.tmp 44), 4, "ref.go:115", #[⟨4, .data⟩],none⟩) (v := .bool true) rfl (by rfl) ?_ ?_
    ·intro w' _; go_simp
    try simp only [Act.put, ep, eh, ei]
    refine wpS_read (o := ⟨some 46, .fieldAddr 35 (.tmp 2) 2, 0, "ref.go:115", #[⟨5, .guard⟩], some (5, true)⟩) (v := .pointer (some ⟨w.heap.size, 2,none⟩)) rfl (by rfl) ?_ ?_
    ·intro w' _; go_simp
    try simp only [Act.put, ep, eh, ei]
    refine wpS_read (o := ⟨some 47, .load 22 (.tmp 46), 22, "ref.go:115", #[⟨6, .data⟩,⟨5, .guard⟩], some (5, true)⟩) (v := .slice A n c) rfl (by rfl) ?_ ?_
    ·intro w' hw'; have hcl := (hw'.cell ⟨w.heap.size, 2,none⟩ nwD nw9 nwl).trans c2d; go_simp
    try simp only [Act.put, ep, eh, ei]
    refine wpS_read (o := ⟨some 48, .move (.tmp 1), 25, "ref.go:115", #[⟨5, .guard⟩], some (5, true)⟩) (v := .slice (some ⟨eb, eo,none⟩) m d) rfl (by rfl) ?_ ?_
    ·intro w' _; go_simp
    try simp only [Act.put, ep, eh, ei]
    refine wpS_read (o := ⟨some 49, .move (.tmp 10), 3, "ref.go:115", #[⟨5, .guard⟩], some (5, true)⟩) (v := .int .i64 (J : Int)) rfl (by rfl) ?_ ?_
    ·intro w' _; go_simp
    try simp only [Act.put, ep, eh, ei]
    refine wpS_read (o := ⟨some 50, .indexAddr 25 (.tmp 48) (.tmp 49), 0, "ref.go:115", #[⟨8, .data⟩,⟨9, .data⟩,⟨5, .guard⟩], some (5, true)⟩) (v := .pointer (some ⟨eb, eo + J,none⟩)) rfl (by rfl) ?_ ?_
    ·intro w' _; go_simp
    try simp only [Act.put, ep, eh, ei]
    refine wpS_read (o := ⟨some 51, .load 3 (.tmp 50), 3, "ref.go:115", #[⟨10, .data⟩,⟨5, .guard⟩], some (5, true)⟩) (v := .int .i64 (v : Int)) rfl (by rfl) ?_ ?_
    ·intro w' hw'; have hcl := (hw'.cell ⟨eb, eo + J,none⟩ neD ne9 nel).trans hcd; go_simp
    try simp only [Act.put, ep, eh, ei]
    refine wpS_two ?_ ?_
    ·refine stS_value (o := ⟨some 41, .load 26 (.tmp 40), 26, "ref.go:115", #[⟨0, .data⟩],none⟩) (v := .slice D J dd) (w1 := wr.drew) rfl (by rfl) ?_ ?_ ?_
     ·have hcl := g1d; go_simp
     ·exact Ye.refl _
     try simp only [Act.put, ep, eh, ei]
     refine wpS_alone ?_
     refine stS_call (o := ⟨some 52, .call { callee := .value (.func 86), args := #[.tmp 47, .tmp 51], argTypes := #[22, 3] }, 4, "ref.go:115", #[⟨7, .data⟩,⟨11, .data⟩,⟨5, .chain⟩,⟨5, .guard⟩], some (5, true)⟩) rfl (by rfl) (fun K' hK => ?_)
     go_simp
     go_at_call 86
     with_reducible refine Hin.out.mono ?_
     rintro e w' ⟨rfl,rfl⟩
     refine hK _ _ (Ye.refl _) ?_
     clear hK K'
     try simp only [Act.put, ep, eh, ei]
     refine wpS_read (o := ⟨some 53, .pick (.tmp 45) (.tmp 52) (.const (.bool false)), 4, "ref.go:115", #[⟨5, .data⟩,⟨12, .data⟩],none⟩) (v := .bool q) rfl (by rfl) ?_ ?_
     ·intro w' _; go_simp
     try simp only [Act.put, ep, eh, ei]
     refine wpS_alone ?_
     refine stS_value (o := ⟨some 54, .buildSlice 26 1 #[(0, .tmp 53)], 26, "ref.go:115", #[⟨13, .data⟩],none⟩) (v := .slice (some ⟨wr.heap.size, 0,none⟩) 1 1) (w1 := w8.drewN 1) rfl (by rfl) ?_ ?_ ?_
     ·rw [H8.out]; go_simp; rfl
     ·exact hy8
     try simp only [Act.put, ep, eh, ei]
     refine wpS_alone ?_
     refine stS_call (o := ⟨some 55, .call { callee := .builtin .append, args := #[.tmp 41, .tmp 54], argTypes := #[26, 26] }, 26, "ref.go:115", #[⟨1, .data⟩,⟨14, .data⟩,⟨12, .chain⟩],none⟩) rfl (by rfl) (fun K' hK => ?_)
     refine Sl.opAppAt bty1 (.tmp 41) (.tmp 54) rfl (n := J) (m := 1) (N := J + 1) (ws := vs ++ [.bool q]) rfl rfl (Hown8.out.drewN 1) (Hlit.out.drewN 1) (by simp [Value.oneCell']) rfl rfl (by omega) (by omega) hz8 ?_
     intro A9 c9 w9 hown9 hgr9
     refine hK _ _ (Ye.grows hgr9 hz8c) ?_
     clear hK K'
     try simp only [Act.put, ep, eh, ei]
     have hx9 := Hend.out A9 c9 w9 hown9 hgr9
     obtain ⟨hx9, hm9', hz9, hmk⟩ := hx9
     obtain ⟨p0, p1, p2, f0, f1, f2, hl9⟩ := hx9
     have Hmk := ek hmk
     clear hown9 hgr9 hmk
     refine wpS_alone ?_
     refine stS_value (o := ⟨some 56, .fieldAddr 37 (.tmp 9) 1, 0, "ref.go:115", #[⟨0, .phase⟩,⟨1, .phase⟩,⟨2, .phase⟩,⟨3, .phase⟩,⟨4, .phase⟩,⟨5, .phase⟩,⟨6, .phase⟩,⟨7, .phase⟩,⟨8, .phase⟩,⟨9, .phase⟩,⟨10, .phase⟩,⟨11, .phase⟩,⟨12, .phase⟩,⟨13, .phase⟩,⟨14, .phase⟩,⟨15, .phase⟩],none⟩) (v := .pointer (some ⟨g9, 1,none⟩)) (w1 := w9) rfl (by rfl) ?_ ?_ ?_
     ·go_simp
     ·exact Ye.refl _
     try simp only [Act.put, ep, eh, ei]
     refine wpS_alone ?_
     refine stS_call (o := ⟨none, .store 26 (.tmp 56) (.tmp 55), 0, "ref.go:115", #[⟨16, .data⟩,⟨15, .data⟩,⟨15, .chain⟩,⟨0, .phase⟩,⟨1, .phase⟩,⟨2, .phase⟩,⟨3, .phase⟩,⟨4, .phase⟩,⟨5, .phase⟩,⟨6, .phase⟩,⟨7, .phase⟩,⟨8, .phase⟩,⟨9, .phase⟩,⟨10, .phase⟩,⟨11, .phase⟩,⟨12, .phase⟩,⟨13, .phase⟩,⟨14, .phase⟩,⟨15, .phase⟩],none⟩) rfl (by rfl) (fun K' hK => ?_)
     go_simp
     refine hK _ _ (Ye.set _ _ _ _ _ _) ?_
     clear hK K'
     try simp only [Act.put, ep, eh, ei]
     refine wpS_done ?_
     clear p0 p1 p2 f0 f1 f2 c0 c1 c2 c0d c2d hcd g1d g8d
     go_wp2
     go_roundw
     case rel => exact Hmk.out
     case measure => simp [intOf]; omega
    ·refine stS_call (o := ⟨some 52, .call { callee := .value (.func 86), args := #[.tmp 47, .tmp 51], argTypes := #[22, 3] }, 4, "ref.go:115", #[⟨7, .data⟩,⟨11, .data⟩,⟨5, .chain⟩,⟨5, .guard⟩], some (5, true)⟩) rfl (by rfl) (fun K' hK => ?_)
     go_simp
     go_at_call 86
     with_reducible refine Hin.out.mono ?_
     rintro e w' ⟨rfl,rfl⟩
     refine hK _ _ (Ye.refl _) ?_
     clear hK K'
     try simp only [Act.put, ep, eh, ei]
     refine wpS_read (o := ⟨some 53, .pick (.tmp 45) (.tmp 52) (.const (.bool false)), 4, "ref.go:115", #[⟨5, .data⟩,⟨12, .data⟩],none⟩) (v := .bool q) rfl (by rfl) ?_ ?_
     ·intro w' _; go_simp
     try simp only [Act.put, ep, eh, ei]
     refine wpS_two ?_ ?_
     ·refine stS_value (o := ⟨some 41, .load 26 (.tmp 40), 26, "ref.go:115", #[⟨0, .data⟩],none⟩) (v := .slice D J dd) (w1 := wr.drew) rfl (by rfl) ?_ ?_ ?_
      ·have hcl := g1d; go_simp
      ·exact Ye.refl _
      try simp only [Act.put, ep, eh, ei]
      refine wpS_alone ?_
      refine stS_value (o := ⟨some 54, .buildSlice 26 1 #[(0, .tmp 53)], 26, "ref.go:115", #[⟨13, .data⟩],none⟩) (v := .slice (some ⟨wr.heap.size, 0,none⟩) 1 1) (w1 := w8.drewN 1) rfl (by rfl) ?_ ?_ ?_
      ·rw [H8.out]; go_simp; rfl
      ·exact hy8
      try simp only [Act.put, ep, eh, ei]
      refine wpS_alone ?_
      refine stS_call (o := ⟨some 55, .call { callee := .builtin .append, args := #[.tmp 41, .tmp 54], argTypes := #[26, 26] }, 26, "ref.go:115", #[⟨1, .data⟩,⟨14, .data⟩,⟨12, .chain⟩],none⟩) rfl (by rfl) (fun K' hK => ?_)
      refine Sl.opAppAt bty1 (.tmp 41) (.tmp 54) rfl (n := J) (m := 1) (N := J + 1) (ws := vs ++ [.bool q]) rfl rfl (Hown8.out.drewN 1) (Hlit.out.drewN 1) (by simp [Value.oneCell']) rfl rfl (by omega) (by omega) hz8 ?_
      intro A9 c9 w9 hown9 hgr9
      refine hK _ _ (Ye.grows hgr9 hz8c) ?_
      clear hK K'
      try simp only [Act.put, ep, eh, ei]
      have hx9 := Hend.out A9 c9 w9 hown9 hgr9
      obtain ⟨hx9, hm9', hz9, hmk⟩ := hx9
      obtain ⟨p0, p1, p2, f0, f1, f2, hl9⟩ := hx9
      have Hmk := ek hmk
      clear hown9 hgr9 hmk
      refine wpS_alone ?_
      refine stS_value (o := ⟨some 56, .fieldAddr 37 (.tmp 9) 1, 0, "ref.go:115", #[⟨0, .phase⟩,⟨1, .phase⟩,⟨2, .phase⟩,⟨3, .phase⟩,⟨4, .phase⟩,⟨5, .phase⟩,⟨6, .phase⟩,⟨7, .phase⟩,⟨8, .phase⟩,⟨9, .phase⟩,⟨10, .phase⟩,⟨11, .phase⟩,⟨12, .phase⟩,⟨13, .phase⟩,⟨14, .phase⟩,⟨15, .phase⟩],none⟩) (v := .pointer (some ⟨g9, 1,none⟩)) (w1 := w9) rfl (by rfl) ?_ ?_ ?_
      ·go_simp
      ·exact Ye.refl _
      try simp only [Act.put, ep, eh, ei]
      refine wpS_alone ?_
      refine stS_call (o := ⟨none, .store 26 (.tmp 56) (.tmp 55), 0, "ref.go:115", #[⟨16, .data⟩,⟨15, .data⟩,⟨15, .chain⟩,⟨0, .phase⟩,⟨1, .phase⟩,⟨2, .phase⟩,⟨3, .phase⟩,⟨4, .phase⟩,⟨5, .phase⟩,⟨6, .phase⟩,⟨7, .phase⟩,⟨8, .phase⟩,⟨9, .phase⟩,⟨10, .phase⟩,⟨11, .phase⟩,⟨12, .phase⟩,⟨13, .phase⟩,⟨14, .phase⟩,⟨15, .phase⟩],none⟩) rfl (by rfl) (fun K' hK => ?_)
      go_simp
      refine hK _ _ (Ye.set _ _ _ _ _ _) ?_
      clear hK K'
      try simp only [Act.put, ep, eh, ei]
      refine wpS_done ?_
      clear p0 p1 p2 f0 f1 f2 c0 c1 c2 c0d c2d hcd g1d g8d
      go_wp2
      go_roundw
      case rel => exact Hmk.out
      case measure => simp [intOf]; omega
     ·refine stS_value (o := ⟨some 54, .buildSlice 26 1 #[(0, .tmp 53)], 26, "ref.go:115", #[⟨13, .data⟩],none⟩) (v := .slice (some ⟨wr.heap.size, 0,none⟩) 1 1) (w1 := w8.drewN 1) rfl (by rfl) ?_ ?_ ?_
      ·rw [H8.out]; go_simp; rfl
      ·exact hy8
      try simp only [Act.put, ep, eh, ei]
      refine wpS_alone ?_
      refine stS_value (o := ⟨some 41, .load 26 (.tmp 40), 26, "ref.go:115", #[⟨0, .data⟩],none⟩) (v := .slice D J dd) (w1 := w8.drewN 1) rfl (by rfl) ?_ ?_ ?_
      ·have hcl := g8d; go_simp
      ·exact Ye.refl _
      try simp only [Act.put, ep, eh, ei]
      refine wpS_alone ?_
      refine stS_call (o := ⟨some 55, .call { callee := .builtin .append, args := #[.tmp 41, .tmp 54], argTypes := #[26, 26] }, 26, "ref.go:115", #[⟨1, .data⟩,⟨14, .data⟩,⟨12, .chain⟩],none⟩) rfl (by rfl) (fun K' hK => ?_)
      refine Sl.opAppAt bty1 (.tmp 41) (.tmp 54) rfl (n := J) (m := 1) (N := J + 1) (ws := vs ++ [.bool q]) rfl rfl (Hown8.out.drewN 1) (Hlit.out.drewN 1) (by simp [Value.oneCell']) rfl rfl (by omega) (by omega) hz8 ?_
      intro A9 c9 w9 hown9 hgr9
      refine hK _ _ (Ye.grows hgr9 hz8c) ?_
      clear hK K'
      try simp only [Act.put, ep, eh, ei]
      have hx9 := Hend.out A9 c9 w9 hown9 hgr9
      obtain ⟨hx9, hm9', hz9, hmk⟩ := hx9
      obtain ⟨p0, p1, p2, f0, f1, f2, hl9⟩ := hx9
      have Hmk := ek hmk
      clear hown9 hgr9 hmk
      refine wpS_alone ?_
      refine stS_value (o := ⟨some 56, .fieldAddr 37 (.tmp 9) 1, 0, "ref.go:115", #[⟨0, .phase⟩,⟨1, .phase⟩,⟨2, .phase⟩,⟨3, .phase⟩,⟨4, .phase⟩,⟨5, .phase⟩,⟨6, .phase⟩,⟨7, .phase⟩,⟨8, .phase⟩,⟨9, .phase⟩,⟨10, .phase⟩,⟨11, .phase⟩,⟨12, .phase⟩,⟨13, .phase⟩,⟨14, .phase⟩,⟨15, .phase⟩],none⟩) (v := .pointer (some ⟨g9, 1,none⟩)) (w1 := w9) rfl (by rfl) ?_ ?_ ?_
      ·go_simp
      ·exact Ye.refl _
      try simp only [Act.put, ep, eh, ei]
      refine wpS_alone ?_
      refine stS_call (o := ⟨none, .store 26 (.tmp 56) (.tmp 55), 0, "ref.go:115", #[⟨16, .data⟩,⟨15, .data⟩,⟨15, .chain⟩,⟨0, .phase⟩,⟨1, .phase⟩,⟨2, .phase⟩,⟨3, .phase⟩,⟨4, .phase⟩,⟨5, .phase⟩,⟨6, .phase⟩,⟨7, .phase⟩,⟨8, .phase⟩,⟨9, .phase⟩,⟨10, .phase⟩,⟨11, .phase⟩,⟨12, .phase⟩,⟨13, .phase⟩,⟨14, .phase⟩,⟨15, .phase⟩],none⟩) rfl (by rfl) (fun K' hK => ?_)
      go_simp
      refine hK _ _ (Ye.set _ _ _ _ _ _) ?_
      clear hK K'
      try simp only [Act.put, ep, eh, ei]
      refine wpS_done ?_
      clear p0 p1 p2 f0 f1 f2 c0 c1 c2 c0d c2d hcd g1d g8d
      go_wp2
      go_roundw
      case rel => exact Hmk.out
      case measure => simp [intOf]; omega
   ·have hqf : q = false := by rw [hq]; unfold inF; rw [beq_eq_false_iff_ne.2 hf1]; rfl
    subst hqf
    have d1 : (f == 1) = false := beq_eq_false_iff_ne.2 hf1
    clear hend h8 own8 hlit hq hown hsn hvs hv hxx hDl b8 hx hcx hf1
    go_upto_region 8 with fail
    refine wp_region_tree (Ye D g9 wr.heap.size) Ye.refl Ye.trans (.read 0 (.read 2 (.read 3 (.read 4 (.read 5 (.read 6 (.read 7 (.read 8 (.read 9 (.read 10 (.read 11 (.read 12 (.read 13 (.two 1 14 (.alone 14 (.alone 15 (.alone 16 (.alone 17 .done)))) (.alone 1 (.alone 15 (.alone 16 (.alone 17 .done)))))))))))))))))) (by kernel_rfl) (by kernel_rfl) (by kernel_rfl) (by kernel_rfl) (fun _ _ d _ _ h => by cases d <;> exact h) ?_
    refine wpS_read (o := ⟨some 40, .fieldAddr 37 (.tmp 9) 1, 0, "ref.go:115", #[],none⟩) (v := .pointer (some ⟨g9, 1,none⟩)) rfl (by rfl) ?_ ?_
    ·intro w' _; go_simp
    try simp only [Act.put, ep, eh, ei]
    refine wpS_read (o := ⟨some 42, .fieldAddr 35 (.tmp 2) 0, 0, "ref.go:115", #[],none⟩) (v := .pointer (some ⟨w.heap.size, 0,none⟩)) rfl (by rfl) ?_ ?_
    ·intro w' _; go_simp
    try simp only [Act.put, ep, eh, ei]
    refine wpS_read (o := ⟨some 43, .load 3 (.tmp 42), 3, "ref.go:115", #[⟨2, .data⟩],none⟩) (v := .int .i64 f) rfl (by rfl) ?_ ?_
    ·intro w' hw'; have hcl := (hw'.cell ⟨w.heap.size, 0,none⟩ nwD nw9 nwl).trans c0d; go_simp
    try simp only [Act.put, ep, eh, ei]
    refine wpS_read (o := ⟨some 44, .binOp .eql 3 (.tmp 43) (.const (.int .i64 1)) 3, 4, "ref.go:115", #[⟨3, .data⟩],none⟩) (v := .bool false) rfl (by rfl) ?_ ?_
    ·intro w' _; go_simp
    try simp only [Act.put, ep, eh, ei]
    refine wpS_read (o := ⟨some 45, .move (.tmp 44), 4, "ref.go:115", #[⟨4, .data⟩],none⟩) (v := .bool false) rfl (by rfl) ?_ ?_
    ·intro w' _; go_simp
    try simp only [Act.put, ep, eh, ei]
    refine wpS_skip (o := ⟨some 46, .fieldAddr 35 (.tmp 2) 2, 0, "ref.go:115", #[⟨5, .guard⟩], some (5, true)⟩) rfl (by rfl) ?_
    try simp only [Act.put, ep, eh, ei]
    refine wpS_skip (o := ⟨some 47, .load 22 (.tmp 46), 22, "ref.go:115", #[⟨6, .data⟩,⟨5, .guard⟩], some (5, true)⟩) rfl (by rfl) ?_
    try simp only [Act.put, ep, eh, ei]
    refine wpS_skip (o := ⟨some 48, .move (.tmp 1), 25, "ref.go:115", #[⟨5, .guard⟩], some (5, true)⟩) rfl (by rfl) ?_
    try simp only [Act.put, ep, eh, ei]
    refine wpS_skip (o := ⟨some 49, .move (.tmp 10), 3, "ref.go:115", #[⟨5, .guard⟩], some (5, true)⟩) rfl (by rfl) ?_
    try simp only [Act.put, ep, eh, ei]
    refine wpS_skip (o := ⟨some 50, .indexAddr 25 (.tmp 48) (.tmp 49), 0, "ref.go:115", #[⟨8, .data⟩,⟨9, .data⟩,⟨5, .guard⟩], some (5, true)⟩) rfl (by rfl) ?_
    try simp only [Act.put, ep, eh, ei]
    refine wpS_skip (o := ⟨some 51, .load 3 (.tmp 50), 3, "ref.go:115", #[⟨10, .data⟩,⟨5, .guard⟩], some (5, true)⟩) rfl (by rfl) ?_
    try simp only [Act.put, ep, eh, ei]
    refine wpS_skip (o := ⟨some 52, .call { callee := .value (.func 86), args := #[.tmp 47, .tmp 51], argTypes := #[22, 3] }, 4, "ref.go:115", #[⟨7, .data⟩,⟨11, .data⟩,⟨5, .chain⟩,⟨5, .guard⟩], some (5, true)⟩) rfl (by rfl) ?_
    try simp only [Act.put, ep, eh, ei]
    refine wpS_read (o := ⟨some 53, .pick (.tmp 45) (.tmp 52) (.const (.bool false)), 4, "ref.go:115", #[⟨5, .data⟩,⟨12, .data⟩],none⟩) (v := .bool false) rfl (by rfl) ?_ ?_
    ·intro w' _; go_simp
    try simp only [Act.put, ep, eh, ei]
    refine wpS_two ?_ ?_
    ·refine stS_value (o := ⟨some 41, .load 26 (.tmp 40), 26, "ref.go:115", #[⟨0, .data⟩],none⟩) (v := .slice D J dd) (w1 := wr.drew) rfl (by rfl) ?_ ?_ ?_
     ·have hcl := g1d; go_simp
     ·exact Ye.refl _
     try simp only [Act.put, ep, eh, ei]
     refine wpS_alone ?_
     refine stS_value (o := ⟨some 54, .buildSlice 26 1 #[(0, .tmp 53)], 26, "ref.go:115", #[⟨13, .data⟩],none⟩) (v := .slice (some ⟨wr.heap.size, 0,none⟩) 1 1) (w1 := w8.drewN 1) rfl (by rfl) ?_ ?_ ?_
     ·rw [H8.out]; go_simp; rfl
     ·exact hy8
     try simp only [Act.put, ep, eh, ei]
     refine wpS_alone ?_
     refine stS_call (o := ⟨some 55, .call { callee := .builtin .append, args := #[.tmp 41, .tmp 54], argTypes := #[26, 26] }, 26, "ref.go:115", #[⟨1, .data⟩,⟨14, .data⟩,⟨12, .chain⟩],none⟩) rfl (by rfl) (fun K' hK => ?_)
     refine Sl.opAppAt bty1 (.tmp 41) (.tmp 54) rfl (n := J) (m := 1) (N := J + 1) (ws := vs ++ [.bool false]) rfl rfl (Hown8.out.drewN 1) (Hlit.out.drewN 1) (by simp [Value.oneCell']) rfl rfl (by omega) (by omega) hz8 ?_
     intro A9 c9 w9 hown9 hgr9
     refine hK _ _ (Ye.grows hgr9 hz8c) ?_
     clear hK K'
     try simp only [Act.put, ep, eh, ei]
     have hx9 := Hend.out A9 c9 w9 hown9 hgr9
     obtain ⟨hx9, hm9', hz9, hmk⟩ := hx9
     obtain ⟨p0, p1, p2, f0, f1, f2, hl9⟩ := hx9
     have Hmk := ek hmk
     clear hown9 hgr9 hmk
     refine wpS_alone ?_
     refine stS_value (o := ⟨some 56, .fieldAddr 37 (.tmp 9) 1, 0, "ref.go:115", #[⟨0, .phase⟩,⟨1, .phase⟩,⟨2, .phase⟩,⟨3, .phase⟩,⟨4, .phase⟩,⟨5, .phase⟩,⟨6, .phase⟩,⟨7, .phase⟩,⟨8, .phase⟩,⟨9, .phase⟩,⟨10, .phase⟩,⟨11, .phase⟩,⟨12, .phase⟩,⟨13, .phase⟩,⟨14, .phase⟩,⟨15, .phase⟩],none⟩) (v := .pointer (some ⟨g9, 1,none⟩)) (w1 := w9) rfl (by rfl) ?_ ?_ ?_
     ·go_simp
     ·exact Ye.refl _
     try simp only [Act.put, ep, eh, ei]
     refine wpS_alone ?_
     refine stS_call (o := ⟨none, .store 26 (.tmp 56) (.tmp 55), 0, "ref.go:115", #[⟨16, .data⟩,⟨15, .data⟩,⟨15, .chain⟩,⟨0, .phase⟩,⟨1, .phase⟩,⟨2, .phase⟩,⟨3, .phase⟩,⟨4, .phase⟩,⟨5, .phase⟩,⟨6, .phase⟩,⟨7, .phase⟩,⟨8, .phase⟩,⟨9, .phase⟩,⟨10, .phase⟩,⟨11, .phase⟩,⟨12, .phase⟩,⟨13, .phase⟩,⟨14, .phase⟩,⟨15, .phase⟩],none⟩) rfl (by rfl) (fun K' hK => ?_)
     go_simp
     refine hK _ _ (Ye.set _ _ _ _ _ _) ?_
     clear hK K'
     try simp only [Act.put, ep, eh, ei]
     refine wpS_done ?_
     clear p0 p1 p2 f0 f1 f2 c0 c1 c2 c0d c2d hcd g1d g8d
     go_wp2
     go_roundw
     case rel => exact Hmk.out
     case measure => simp [intOf]; omega
    ·refine stS_value (o := ⟨some 54, .buildSlice 26 1 #[(0, .tmp 53)], 26, "ref.go:115", #[⟨13, .data⟩],none⟩) (v := .slice (some ⟨wr.heap.size, 0,none⟩) 1 1) (w1 := w8.drewN 1) rfl (by rfl) ?_ ?_ ?_
     ·rw [H8.out]; go_simp; rfl
     ·exact hy8
     try simp only [Act.put, ep, eh, ei]
     refine wpS_alone ?_
     refine stS_value (o := ⟨some 41, .load 26 (.tmp 40), 26, "ref.go:115", #[⟨0, .data⟩],none⟩) (v := .slice D J dd) (w1 := w8.drewN 1) rfl (by rfl) ?_ ?_ ?_
     ·have hcl := g8d; go_simp
     ·exact Ye.refl _
     try simp only [Act.put, ep, eh, ei]
     refine wpS_alone ?_
     refine stS_call (o := ⟨some 55, .call { callee := .builtin .append, args := #[.tmp 41, .tmp 54], argTypes := #[26, 26] }, 26, "ref.go:115", #[⟨1, .data⟩,⟨14, .data⟩,⟨12, .chain⟩],none⟩) rfl (by rfl) (fun K' hK => ?_)
     refine Sl.opAppAt bty1 (.tmp 41) (.tmp 54) rfl (n := J) (m := 1) (N := J + 1) (ws := vs ++ [.bool false]) rfl rfl (Hown8.out.drewN 1) (Hlit.out.drewN 1) (by simp [Value.oneCell']) rfl rfl (by omega) (by omega) hz8 ?_
     intro A9 c9 w9 hown9 hgr9
     refine hK _ _ (Ye.grows hgr9 hz8c) ?_
     clear hK K'
     try simp only [Act.put, ep, eh, ei]
     have hx9 := Hend.out A9 c9 w9 hown9 hgr9
     obtain ⟨hx9, hm9', hz9, hmk⟩ := hx9
     obtain ⟨p0, p1, p2, f0, f1, f2, hl9⟩ := hx9
     have Hmk := ek hmk
     clear hown9 hgr9 hmk
     refine wpS_alone ?_
     refine stS_value (o := ⟨some 56, .fieldAddr 37 (.tmp 9) 1, 0, "ref.go:115", #[⟨0, .phase⟩,⟨1, .phase⟩,⟨2, .phase⟩,⟨3, .phase⟩,⟨4, .phase⟩,⟨5, .phase⟩,⟨6, .phase⟩,⟨7, .phase⟩,⟨8, .phase⟩,⟨9, .phase⟩,⟨10, .phase⟩,⟨11, .phase⟩,⟨12, .phase⟩,⟨13, .phase⟩,⟨14, .phase⟩,⟨15, .phase⟩],none⟩) (v := .pointer (some ⟨g9, 1,none⟩)) (w1 := w9) rfl (by rfl) ?_ ?_ ?_
     ·go_simp
     ·exact Ye.refl _
     try simp only [Act.put, ep, eh, ei]
     refine wpS_alone ?_
     refine stS_call (o := ⟨none, .store 26 (.tmp 56) (.tmp 55), 0, "ref.go:115", #[⟨16, .data⟩,⟨15, .data⟩,⟨15, .chain⟩,⟨0, .phase⟩,⟨1, .phase⟩,⟨2, .phase⟩,⟨3, .phase⟩,⟨4, .phase⟩,⟨5, .phase⟩,⟨6, .phase⟩,⟨7, .phase⟩,⟨8, .phase⟩,⟨9, .phase⟩,⟨10, .phase⟩,⟨11, .phase⟩,⟨12, .phase⟩,⟨13, .phase⟩,⟨14, .phase⟩,⟨15, .phase⟩],none⟩) rfl (by rfl) (fun K' hK => ?_)
     go_simp
     refine hK _ _ (Ye.set _ _ _ _ _ _) ?_
     clear hK K'
     try simp only [Act.put, ep, eh, ei]
     refine wpS_done ?_
     clear p0 p1 p2 f0 f1 f2 c0 c1 c2 c0d c2d hcd g1d g8d
     go_wp2
     go_roundw
     case rel => exact Hmk.out
     case measure => simp [intOf]; omega
  ·have hJm : J = m := by omega
   subst hJm
   have y := Y4.out.below B4r.out (by omega)
   obtain ⟨w8, hw8⟩ : ∃ w8, w8 = put3 wr (w.heap.size + 1) (.slice A6 J c6) (.slice D J dd) (.int .i64 (gd : Int)) := ⟨_, rfl⟩
   have x8 := put3_box y (.slice A6 J c6) (.slice D J dd) (.int .i64 (gd : Int))
   have q8 := put3_below wr (w.heap.size + 1) (.slice A6 J c6) (.slice D J dd) (.int .i64 (gd : Int))
   have s8 := put3_size wr (w.heap.size + 1) (.slice A6 J c6) (.slice D J dd) (.int .i64 (gd : Int))
   rw [← hw8] at x8 q8 s8
   have hA : RcS 1 w8 (Fr w.heap.size w8) A6 J c6 (ivs (ic C)) := Hown7.out.keep (show Stays w7 w8 (Fr w4.heap.size w6) (Fr w.heap.size w8) from ⟨fun b hb => ⟨by have h : w4.heap.size ≤ b := hb.1; omega, by have := hb.2; omega⟩, fun p hp => by
    have h : w4.heap.size ≤ p.block := hp.1
    rw [hw8]
    have e1 := ex_put3 wr (w.heap.size + 1) (p.block + 1) (.slice A6 J c6) (.slice D J dd) (.int .i64 (gd : Int)) p (by omega) (by omega)
    exact e1.trans (hbel.cell (p := p) (by have h2 : p.block < w6.heap.size := hp.2; rw [Hg9.out]; exact h2))⟩)
   have hD : RcS 1 w8 (Fr w.heap.size w8) D J dd (lvb (insF f l C)) := by
    have h := Hown.out
    rw [List.take_of_length_le (by rw [HCl.out]; exact Nat.le_refl _)] at h
    exact h.rcS.keep (show Stays wr w8 (Fr w7.heap.size wr) (Fr w.heap.size w8) from ⟨fun b hb => ⟨by have h : w7.heap.size ≤ b := hb.1; omega, by have := hb.2; omega⟩, fun p hp => by
     have h : w7.heap.size ≤ p.block := hp.1
     rw [hw8]
     exact ex_put3 _ _ (p.block + 1) _ _ _ p (by omega) (by omega)⟩)
   have bb8 := BWr.out.trans (q8.mono (by omega))
   have HA := ek hA; have HD := ek hD; have BB8 := ek bb8; have W8 := ek hw8; have X8 := ek x8
   obtain ⟨o0, o1, o2, p0, p1, p2, -⟩ := y
   obtain ⟨g0, g1, g2, -, -, -, -⟩ := hx
   have hCm := HCl.out
   have HCm := ek hCm
   clear hA hD bb8 hw8 x8 q8 s8 hCm
   go_wp2
   change bodyPost _ _ _ _ _ (put3 wr (w.heap.size + 1) _ _ _)
   rw [← W8.out]
   have x8 := X8.out
   obtain ⟨y0, y1, y2, -, -, -, -⟩ := x8
   have hCm := HCm.out
   have hIm : (insF f l C).length = J := by rw [insF_len, hCm]
   refine bodyPost_ret (v := .tuple #[.agg #[.slice A6 J c6, .slice D J dd, .int .i64 (gd : Int)], .int .i64 0]) ?_ rfl ⟨A6, c6, D, dd, by rw [hCm, hIm, ← Hgd.out], by rw [hCm]; exact HA.out, by rw [hIm]; exact HD.out, BB8.out⟩
   simp [results, Tryz.results58, go_sem, y0, y1, y2]
theorem pc_small (r : List (Nat × List UInt8)) : ∀ p ∈ r.map Tm.pc, p.2.length ≤ 1000000 ∧ ∀ x ∈ p.2, x.length ≤ 1000000 := fun p hp => by
 obtain ⟨q, hq, rfl⟩ := List.mem_map.1 hp
 refine ⟨by simp [Tm.pc], fun r hr => ?_⟩
 simp [Tm.pc] at hr
 subst hr
 simp
theorem csv_small (l : List UInt8) : ∀ p ∈ (Csv.Cv.ls l).map Csv.Cv.pc, p.2.length ≤ 1000000 ∧ ∀ r ∈ p.2, r.length ≤ 1000000 := fun p hp => by
 obtain ⟨q, hq, rfl⟩ := List.mem_map.1 hp
 have := (Csv.Cv.ls_few hq).2.1
 refine ⟨by simp [Csv.Cv.pc], fun r hr => ?_⟩
 simp [Csv.Cv.pc] at hr
 rw [hr]; omega
theorem bunp_small : ∀ (D : List Bun.Bm.F) (V : List (List UInt8)), ∀ p ∈ Bun.Bm.pcs D V, p.2.length ≤ 1000000 ∧ ∀ r ∈ p.2, r.length ≤ 1000000
 | [], _ => fun p hp => by unfold Bun.Bm.pcs at hp; rw [List.zipWith_nil_left] at hp; cases hp
 | _ :: _, [] => fun p hp => by unfold Bun.Bm.pcs at hp; rw [List.zipWith_nil_right] at hp; cases hp
 | f :: D, x :: V => fun p hp => by
  unfold Bun.Bm.pcs at hp
  rw [List.zipWith_cons_cons] at hp
  rcases List.mem_cons.1 hp with rfl | hp
  ·refine ⟨by simp, fun r hr => ?_⟩
   simp at hr
   subst hr
   simp
  ·exact bunp_small D V p hp
theorem bun_small (l : List UInt8) : ∀ p ∈ (Bun.Bm.scS l).1, p.2.length ≤ 1000000 ∧ ∀ r ∈ p.2, r.length ≤ 1000000 := by
 unfold Bun.Bm.scS
 split
 ·intro p hp; cases hp
 ·split
  ·exact bunp_small _ _
  ·split <;> exact bunp_small _ _
theorem scF_small (f k : Int) (l : List UInt8) : ∀ p ∈ (scF f k l).1, p.2.length ≤ 1000000 ∧ ∀ r ∈ p.2, r.length ≤ 1000000 := by
 unfold scF
 split
 ·exact pc_small _
 split
 ·exact csv_small l
 split
 ·intro p hp
  have h := (Sq.Sm.ps_facts l).2.2.2 p hp
  exact ⟨by omega, fun r hr => by have := h.2 r hr; omega⟩
 split
 ·intro p hp
  have h := (Cht.Hm.scS_facts l).2.1 p hp
  exact ⟨by have := h.2.1; omega, fun r hr => by have := (h.2.2 r hr).1; omega⟩
 split
 ·exact pc_small _
 ·exact bun_small l
theorem insF_len' (f : Int) (l : List UInt8) (C : List Nat) : (insF f l C).length = C.length := by unfold insF; simp
def RetPu (w : World) (L : List Int) (I : List Bool) (g h : Int) (e : Ending) (w' : World) : Prop :=
 ∃ A c D d, e = .returned (.tuple #[.agg #[.slice A L.length c, .slice D I.length d, .int .i64 g], .int .i64 h]) ∧ Rc 1 w' w'.heap.size A L.length c (ivs L) ∧ Rc 1 w' w'.heap.size D I.length d (lvb I) ∧ Below w.heap.size w w'
theorem RetPl.u {w w' : World} {e : Ending} {C : List Nat} {I : List Bool} {g : Nat} (h : RetPl w C I g e w') : RetPu w (ic C) I g 0 e w' := by
 obtain ⟨A, c, D, d, rfl, h1, h2, h3⟩ := h
 refine ⟨A, c, D, d, by rw [ic_len], ?_, ?_, h3⟩
 ·rw [ic_len]; exact (h1.keep (stays_weak fr_lt)).rc
 ·exact (h2.keep (stays_weak fr_lt)).rc
theorem nil_u (z : Nat) (w : World) : Rc z w w.heap.size none 0 0 [] := (Oc.nil z w 0 w.heap.size).rc
def EqgRel {α : Type} (w : World) (l r : List α) (m : Nat) (t : Value) (wr : World) : Prop := ∃ j : Nat, t = .int .i64 (j : Int) ∧ j ≤ m ∧ l.take j = r.take j ∧ Below w.heap.size w wr
theorem lvb_at {w : World} {B m c k : Nat} {A : Option Addr} {I : List Bool} (h : Rc 1 w B A m c (lvb I)) (hk : k < m) :
  ∃ b o q, A = some ⟨b, o,none⟩ ∧ b < B ∧ w.cell? ⟨b, o + k,none⟩ = some (.bool q) ∧ I[k]? = some q := by
 obtain ⟨b, o, x, rfl, hb, hc, hx⟩ := h.at_ (k := k) hk
 unfold lvb at hx
 rw [List.getElem?_map] at hx
 obtain ⟨q, hq, rfl⟩ := Option.map_eq_some_iff.1 hx
 exact ⟨b, o, q, rfl, hb, hc, hq⟩
theorem lvb_len1 {w : World} {B m c : Nat} {A : Option Addr} {I : List Bool} (h : Rc 1 w B A m c (lvb I)) : I.length = m := by
 have := h.len1
 unfold lvb at this
 rw [List.length_map] at this
 exact this
theorem eqi_g (A A' : Option Addr) (m c n c' : Nat) (L M : List Int) (w : World) (hr : Rc 1 w w.heap.size A m c (ivs L)) (hs : Rc 1 w w.heap.size A' n c' (ivs M)) (hm : m ≤ 9000000) (o : Bool) (ho : o = decide (L = M)) :
  Calls Tryz.prog 70 #[.slice A m c, .slice A' n c'] w fun e w' => e = .returned (.bool o) ∧ Below w.heap.size w w' := by
 have hll : L.length = m := by have := hr.len1; rw [ivs_length] at this; exact this
 have hrl : M.length = n := by have := hs.len1; rw [ivs_length] at this; exact this
 have hn : n ≤ 9223372036854775807 := by have h2 := hs.2.1; have h3 := hs.2.2.1; unfold maxLen at h3; omega
 by_cases hmn : m = n
 ·subst hmn
  have HL := ek hr; have HR := ek hs; have Ho := ek ho; have Hll := ek hll; have Hrl := ek hrl
  clear hr hs ho hll hrl
  go_enter Tryz.func70, Tryz.ntmps70
  go_wp2
  go_loopw [5, 13] (fun _ t wr => EqgRel w L M m t wr) (fun _ t _ => m - (intOf t).toNat)
  case atStart => exact ⟨0, rfl, Nat.zero_le _, by simp, Below.refl _ _⟩
  case round =>
   obtain ⟨j, rfl, hj, heq, hbel⟩ := hrel
   rename World => wr
   have Heq := ek heq
   clear heq
   by_cases hlt : j < m
   ·obtain ⟨b1, o1, x, rfl, hb1, hc1, hx⟩ := (HL.out.below hbel).int (k := j) hlt
    obtain ⟨b2, o2, y, rfl, hb2, hc2, hy⟩ := (HR.out.below hbel).int (k := j) hlt
    have Hx := ek hx; have Hy := ek hy
    clear hx hy
    by_cases hxy : x = y
    ·subst hxy
     have d1 : (x != x) = false := by simp
     have hnext := ek (show L.take (j + 1) = M.take (j + 1) by rw [List.take_add_one, List.take_add_one, Hx.out, Hy.out, Heq.out])
     go_wp2_with fail
     go_quiet (fail)
     go_wp2
     go_roundw
     case rel => exact ⟨j + 1, by go_num, by omega, hnext.out, below_drewN hbel _⟩
     case measure => simp [intOf]; omega
    ·have d1 : (x != y) = true := by simpa using hxy
     have hof : o = false := by
      rw [Ho.out]
      refine decide_eq_false fun e => hxy ?_
      have h := Hx.out
      rw [e, Hy.out] at h
      injection h with h
      exact h.symm
     subst hof
     clear hxy
     go_wp2_with fail
     go_quiet (fail)
     go_wp2
     go_ret
     exact ⟨rfl, below_drewN hbel _⟩
   ·have hof : o = true := by
     rw [Ho.out]
     have h := Heq.out
     rw [List.take_of_length_le (by have := Hll.out; omega), List.take_of_length_le (by have := Hrl.out; omega)] at h
     exact decide_eq_true h
    subst hof
    go_wp2
    go_ret
    exact ⟨rfl, hbel⟩
 ·have hof : o = false := by
   rw [ho]
   exact decide_eq_false fun e => hmn (by rw [← hll, ← hrl, e])
  subst hof
  have d1 : ((m : Int) != (n : Int)) = true := by simpa using fun e => hmn (by omega)
  clear hr hs ho hll hrl hmn
  go_enter Tryz.func70, Tryz.ntmps70
  go_wp2
  go_ret
  exact ⟨rfl, Below.refl _ _⟩
theorem eqb_g (A A' : Option Addr) (m c n c' : Nat) (L M : List Bool) (w : World) (hr : Rc 1 w w.heap.size A m c (lvb L)) (hs : Rc 1 w w.heap.size A' n c' (lvb M)) (hm : m ≤ 9000000) (o : Bool) (ho : o = decide (L = M)) :
  Calls Tryz.prog 71 #[.slice A m c, .slice A' n c'] w fun e w' => e = .returned (.bool o) ∧ Below w.heap.size w w' := by
 have hll : L.length = m := lvb_len1 hr
 have hrl : M.length = n := lvb_len1 hs
 have hn : n ≤ 9223372036854775807 := by have h2 := hs.2.1; have h3 := hs.2.2.1; unfold maxLen at h3; omega
 by_cases hmn : m = n
 ·subst hmn
  have HL := ek hr; have HR := ek hs; have Ho := ek ho; have Hll := ek hll; have Hrl := ek hrl
  clear hr hs ho hll hrl
  go_enter Tryz.func71, Tryz.ntmps71
  go_wp2
  go_loopw [5, 13] (fun _ t wr => EqgRel w L M m t wr) (fun _ t _ => m - (intOf t).toNat)
  case atStart => exact ⟨0, rfl, Nat.zero_le _, by simp, Below.refl _ _⟩
  case round =>
   obtain ⟨j, rfl, hj, heq, hbel⟩ := hrel
   rename World => wr
   have Heq := ek heq
   clear heq
   by_cases hlt : j < m
   ·obtain ⟨b1, o1, x, rfl, hb1, hc1, hx⟩ := lvb_at (HL.out.below hbel) hlt
    obtain ⟨b2, o2, y, rfl, hb2, hc2, hy⟩ := lvb_at (HR.out.below hbel) hlt
    have Hx := ek hx; have Hy := ek hy
    clear hx hy
    by_cases hxy : x = y
    ·subst hxy
     have hnext := ek (show L.take (j + 1) = M.take (j + 1) by rw [List.take_add_one, List.take_add_one, Hx.out, Hy.out, Heq.out])
     cases x
     all_goals
      go_wp2_with fail
      go_quiet (fail)
      go_wp2
      go_roundw
      case rel => exact ⟨j + 1, by go_num, by omega, hnext.out, below_drewN hbel _⟩
      case measure => simp [intOf]; omega
    ·have hof : o = false := by
      rw [Ho.out]
      refine decide_eq_false fun e => hxy ?_
      have h := Hx.out
      rw [e, Hy.out] at h
      injection h with h
      exact h.symm
     subst hof
     cases x <;> cases y <;> first | exact absurd rfl hxy | skip
     all_goals
      clear hxy
      go_wp2_with fail
      go_quiet (fail)
      go_wp2
      go_ret
      exact ⟨rfl, below_drewN hbel _⟩
   ·have hof : o = true := by
     rw [Ho.out]
     have h := Heq.out
     rw [List.take_of_length_le (by have := Hll.out; omega), List.take_of_length_le (by have := Hrl.out; omega)] at h
     exact decide_eq_true h
    subst hof
    go_wp2
    go_ret
    exact ⟨rfl, hbel⟩
 ·have hof : o = false := by
   rw [ho]
   exact decide_eq_false fun e => hmn (by rw [← hll, ← hrl, e])
  subst hof
  have d1 : ((m : Int) != (n : Int)) = true := by simpa using fun e => hmn (by omega)
  clear hr hs ho hll hrl hmn
  go_enter Tryz.func71, Tryz.ntmps71
  go_wp2
  go_ret
  exact ⟨rfl, Below.refl _ _⟩
theorem same_g (A D A' D' : Option Addr) (m c k d m' c' k' d' : Nat) (g g' : Int) (L L' : List Int) (I I' : List Bool) (w : World) (hr : Rc 1 w w.heap.size A m c (ivs L)) (hi : Rc 1 w w.heap.size D k d (lvb I)) (hr' : Rc 1 w w.heap.size A' m' c' (ivs L')) (hi' : Rc 1 w w.heap.size D' k' d' (lvb I')) (hm : m ≤ 9000000) (hk : k ≤ 9000000)
  (o : Bool) (ho : o = decide (g = g' ∧ L = L' ∧ I = I')) :
  Calls Tryz.prog 47 #[.agg #[.slice A m c, .slice D k d, .int .i64 g], .agg #[.slice A' m' c', .slice D' k' d', .int .i64 g']] w fun e w' => e = .returned (.bool o) ∧ Below w.heap.size w w' := by
 obtain ⟨w1, hw1⟩ : ∃ w1, w1 = w.alloc (.cells #[.slice A m c, .slice D k d, .int .i64 g] 28) := ⟨_, rfl⟩
 have z1 : w1.heap.size = w.heap.size + 1 := by rw [hw1]; simp
 have b1 : Below w.heap.size w w1 := by rw [hw1]; exact ej _ _
 have x1 : Bx w1 w.heap.size (.slice A m c) (.slice D k d) (.int .i64 g) := by rw [hw1]; exact Bx.made _ _ _ _ _
 obtain ⟨w2, hw2⟩ : ∃ w2, w2 = w1.alloc (.cells #[.slice A' m' c', .slice D' k' d', .int .i64 g'] 28) := ⟨_, rfl⟩
 have z2 : w2.heap.size = w.heap.size + 2 := by rw [hw2]; simp [z1]
 have b12 : Below w1.heap.size w1 w2 := by rw [hw2]; exact ej _ _
 have x2 : Bx w2 w1.heap.size (.slice A' m' c') (.slice D' k' d') (.int .i64 g') := by rw [hw2]; exact Bx.made _ _ _ _ _
 rw [z1] at x2
 have y1 := x1.below b12 x1.lt
 have bb := b1.trans (b12.mono (by omega))
 obtain ⟨q, hq⟩ : ∃ q, q = decide (L = L') := ⟨_, rfl⟩
 have he := eqi_g A A' m c m' c' L L' w2 ((hr.below bb).more (by omega)) ((hr'.below bb).more (by omega)) hm q hq
 have Hi := ek hi; have Hi' := ek hi'; have W1 := ek hw1; have W2 := ek hw2; have He := ek he; have Y1 := ek y1; have X2 := ek x2; have Z1 := ek z1; have Ho := ek ho; have Hq := ek hq
 have hl2 := x2.lt
 have hl1 := y1.lt
 obtain ⟨c0, c1, c2, -, -, -, -⟩ := y1
 obtain ⟨d0, d1, d2, -, -, -, -⟩ := x2
 clear hw1 hw2 b1 b12 x1 he hr hi hr' hi' z1 ho hq
 by_cases hg : g = g'
 ·subst hg
  go_enter Tryz.func47, Tryz.ntmps47
  go_wp2_with (first | rw [← W1.out, ← W2.out, Z1.out] | rw [← W1.out, ← W2.out])
  refine He.out.mono ?_
  rintro e w3 ⟨rfl, b3⟩
  have z3 := b3.size
  have b3' := bb.trans (b3.mono (by omega))
  clear c0 c1 c2 d0 d1 d2
  cases q with
  | false =>
   have hof : o = false := by
    rw [Ho.out]
    exact decide_eq_false fun e => (decide_eq_false_iff_not.1 Hq.out.symm) e.2.1
   subst hof
   go_wp2
   go_ret
   exact ⟨rfl, b3'⟩
  | true =>
   have hL := of_decide_eq_true Hq.out.symm
   have he := eqb_g D D' k d k' d' I I' w3 ((Hi.out.below b3').more (by omega)) ((Hi'.out.below b3').more (by omega)) hk o (by rw [Ho.out, decide_eq_decide]; exact ⟨fun h => h.2.2, fun h => ⟨trivial, hL, h⟩⟩)
   have He2 := ek he
   clear he hL
   obtain ⟨c0, c1, c2, -, -, -, -⟩ := Y1.out.below b3 hl1
   obtain ⟨d0, d1, d2, -, -, -, -⟩ := X2.out.below b3 hl2
   go_wp2_with fail
   refine He2.out.mono ?_
   rintro e w4 ⟨rfl, b4⟩
   clear c0 c1 c2 d0 d1 d2 Ho He2
   cases o
   all_goals
    go_wp2
    go_ret
    exact ⟨rfl, b3'.trans (b4.mono (by omega))⟩
 ·have hof : o = false := by
   rw [Ho.out]
   exact decide_eq_false fun e => hg e.1
  have dg : (g == g') = false := beq_eq_false_iff_ne.2 hg
  clear Ho hg
  subst hof
  go_enter Tryz.func47, Tryz.ntmps47
  go_wp2_with (first | rw [← W1.out, ← W2.out, Z1.out] | rw [← W1.out, ← W2.out])
  go_ret
  exact ⟨rfl, bb⟩
theorem rsame_g (A D A' D' : Option Addr) (m c k d m' c' k' d' : Nat) (g g' : Int) (L L' : List Int) (I I' : List Bool) (w : World) (hr : Rc 1 w w.heap.size A m c (ivs L)) (hi : Rc 1 w w.heap.size D k d (lvb I)) (hr' : Rc 1 w w.heap.size A' m' c' (ivs L')) (hi' : Rc 1 w w.heap.size D' k' d' (lvb I'))
  (hk : k ≤ 9000000) (hk' : k' ≤ 9000000) (o : Bool) (ho : o = decide (g = g' ∧ L = L' ∧ I = I')) :
  Calls Tryz.prog 59 #[.agg #[.slice A m c, .slice D k d, .int .i64 g], .agg #[.slice A' m' c', .slice D' k' d', .int .i64 g']] w fun e w' => e = .returned (.bool o) ∧ Below w.heap.size w w' := by
 obtain ⟨w1, hw1⟩ : ∃ w1, w1 = w.alloc (.cells #[.slice A m c, .slice D k d, .int .i64 g] 37) := ⟨_, rfl⟩
 have z1 : w1.heap.size = w.heap.size + 1 := by rw [hw1]; simp
 have b1 : Below w.heap.size w w1 := by rw [hw1]; exact ej _ _
 have x1 : Bx w1 w.heap.size (.slice A m c) (.slice D k d) (.int .i64 g) := by rw [hw1]; exact Bx.made _ _ _ _ _
 obtain ⟨w2, hw2⟩ : ∃ w2, w2 = w1.alloc (.cells #[.slice A' m' c', .slice D' k' d', .int .i64 g'] 37) := ⟨_, rfl⟩
 have z2 : w2.heap.size = w.heap.size + 2 := by rw [hw2]; simp [z1]
 have b12 : Below w1.heap.size w1 w2 := by rw [hw2]; exact ej _ _
 have x2 : Bx w2 w1.heap.size (.slice A' m' c') (.slice D' k' d') (.int .i64 g') := by rw [hw2]; exact Bx.made _ _ _ _ _
 rw [z1] at x2
 have y1 := x1.below b12 x1.lt
 have bb := b1.trans (b12.mono (by omega))
 obtain ⟨q, hq⟩ : ∃ q, q = decide (L = L') := ⟨_, rfl⟩
 have he := ints_c A A' m c m' c' L L' w2 ((hr.below bb).more (by omega)) ((hr'.below bb).more (by omega)) q (by rw [hq]; exact decide_eq_true_iff)
 have hIl := lvb_len1 hi
 have hIl' := lvb_len1 hi'
 have Hi := ek hi; have Hi' := ek hi'; have W1 := ek hw1; have W2 := ek hw2; have He := ek he; have Y1 := ek y1; have X2 := ek x2; have Z1 := ek z1; have Ho := ek ho; have Hq := ek hq; have HIl := ek hIl; have HIl' := ek hIl'
 have hl2 := x2.lt
 have hl1 := y1.lt
 obtain ⟨c0, c1, c2, -, -, -, -⟩ := y1
 obtain ⟨d0, d1, d2, -, -, -, -⟩ := x2
 clear hw1 hw2 b1 b12 x1 he hr hi z1 hr' hi' ho hq hIl hIl'
 go_enter Tryz.func59, Tryz.ntmps59
 go_wp2_with (first | rw [← W1.out, ← W2.out, Z1.out] | rw [← W1.out, ← W2.out])
 refine He.out.mono ?_
 rintro e w3 ⟨rfl, b3⟩
 have z3 := b3.size
 have b3' := bb.trans (b3.mono (by omega))
 have Y3 := ek (Y1.out.below b3 hl1); have X3 := ek (X2.out.below b3 hl2)
 have hi3 := (Hi.out.below b3').more (B' := w3.heap.size) (by omega); have hi3' := (Hi'.out.below b3').more (B' := w3.heap.size) (by omega)
 have I3 := ek hi3; have I3' := ek hi3'
 have hl3 : w.heap.size < w3.heap.size := by omega
 have hl4 : w.heap.size + 1 < w3.heap.size := by omega
 clear c0 c1 c2 d0 d1 d2 hi3 hi3'
 obtain ⟨c0, c1, c2, -, -, -, -⟩ := Y3.out
 obtain ⟨d0, d1, d2, -, -, -, -⟩ := X3.out
 cases q with
 | false =>
  have hof : o = false := by
   rw [Ho.out]
   exact decide_eq_false fun e => (decide_eq_false_iff_not.1 Hq.out.symm) e.2.1
  subst hof
  go_wp2
  go_ret
  exact ⟨rfl, b3'⟩
 | true =>
  have HL := ek (of_decide_eq_true Hq.out.symm)
  by_cases hg : g = g'
  ·subst hg
   by_cases hkk : k = k'
   ·subst hkk
    go_wp2
    go_loopw [5] (fun t wr => EqgRel w3 I I' k t wr) (fun t _ => k - (intOf t).toNat)
    case atStart => exact ⟨0, rfl, Nat.zero_le _, by simp, Below.refl _ _⟩
    case round =>
     obtain ⟨j, rfl, hj, heq, hbel⟩ := hrel
     rename World => wr
     have Heq := ek heq
     clear c0 c1 c2 d0 d1 d2 heq
     obtain ⟨c0, c1, c2, -, -, -, -⟩ := Y3.out.below hbel hl3
     obtain ⟨d0, d1, d2, -, -, -, -⟩ := X3.out.below hbel hl4
     by_cases hlt : j < k
     ·obtain ⟨b1, o1, x, rfl, hb1, hc1, hx⟩ := lvb_at (I3.out.below hbel) hlt
      obtain ⟨b2, o2, y, rfl, hb2, hc2, hy⟩ := lvb_at (I3'.out.below hbel) hlt
      have Hx := ek hx; have Hy := ek hy
      clear hx hy
      by_cases hxy : x = y
      ·subst hxy
       have hnext := ek (show I.take (j + 1) = I'.take (j + 1) by rw [List.take_add_one, List.take_add_one, Hx.out, Hy.out, Heq.out])
       cases x
       all_goals
        go_wp2_with fail
        go_quiet (fail)
        go_wp2
        go_roundw
        case rel => exact ⟨j + 1, by go_num, by omega, hnext.out, below_drewN hbel _⟩
        case measure => simp [intOf]; omega
      ·have hof : o = false := by
        rw [Ho.out]
        refine decide_eq_false fun e => hxy ?_
        have h := Hx.out
        rw [e.2.2, Hy.out] at h
        injection h with h
        exact h.symm
       subst hof
       have bz := b3'.trans (hbel.mono (by omega))
       cases x <;> cases y <;> first | exact absurd rfl hxy | skip
       all_goals
        clear hxy
        go_wp2_with fail
        go_quiet (fail)
        go_wp2
        go_ret
        exact ⟨rfl, below_drewN bz _⟩
     ·have hof : o = true := by
       rw [Ho.out]
       have h := Heq.out
       rw [List.take_of_length_le (by have := HIl.out; omega), List.take_of_length_le (by have := HIl'.out; omega)] at h
       exact decide_eq_true ⟨trivial, HL.out, h⟩
      subst hof
      go_wp2
      go_ret
      exact ⟨rfl, b3'.trans (hbel.mono (by omega))⟩
   ·have hof : o = false := by
     rw [Ho.out]
     exact decide_eq_false fun e => hkk (by have h1 := HIl.out; have h2 := HIl'.out; rw [e.2.2] at h1; omega)
    subst hof
    have dk : ((k : Int) != (k' : Int)) = true := by simpa using fun e => hkk (by omega)
    clear hkk
    go_wp2
    go_ret
    exact ⟨rfl, b3'⟩
  ·have hof : o = false := by
    rw [Ho.out]
    exact decide_eq_false fun e => hg e.1
   subst hof
   have dg : (g != g') = true := by simpa using hg
   clear hg
   go_wp2
   go_ret
   exact ⟨rfl, b3'⟩
def Md (f k : Int) (l : List UInt8) (L : List Int) (I : List Bool) (g : Int) : Prop := ∃ C, L = ic C ∧ Cu l.length C ∧ isF f k = true ∧ g = ((scF f k l).2.1 : Int) ∧ I = insF f l C
theorem ic_inj {C D : List Nat} (h : ic C = ic D) : C = D := by
 unfold ic at h
 exact (List.map_inj_right (fun a b q => Int.ofNat_inj.1 q)).1 h
structure Mk2 (f k : Int) (A : Option Addr) (n c : Nat) (l : List UInt8) (E : Option Addr) (m d : Nat) (cs : List Int) (w : World) (L : List Int) (I : List Bool) (g h : Int) : Prop where
 err : h = 0 ∨ h = 1
 lfew : L.length ≤ 1000000
 ifew : I.length ≤ 1000000
 make : ∀ W, Below w.heap.size w W → Calls Tryz.prog 25 #[flv f k A n c, .slice E m d] W (RetPu W L I g h)
 rmake : ∀ W, Below w.heap.size w W → Calls Tryz.prog 58 #[flv f k A n c, .slice E m d] W (RetPu W L I g h)
 md : ∀ J i, (h = 0 ∧ i = g ∧ cs = L ∧ J = I) ↔ Md f k l cs J i
theorem mk2_ex (f k : Int) (A : Option Addr) (n c : Nat) (l : List UInt8) (E : Option Addr) (m d : Nat) (cs : List Int) (w : World) (hr : Rb w w.heap.size A n c l) (hn : n ≤ 90000) (hc : Rc 1 w w.heap.size E m d (ivs cs)) (hx : Sq.Mx w) :
  ∃ L I g h, Mk2 f k A n c l E m d cs w L I g h := by
 have hrW : ∀ W, Below w.heap.size w W → Rb W W.heap.size A n c l := fun W h => (hr.below h).more h.size
 have hcW : ∀ W, Below w.heap.size w W → Rc 1 W W.heap.size E m d (ivs cs) := fun W h => (hc.below h).more h.size
 have hxW : ∀ W, Below w.heap.size w W → Sq.Mx W := fun W h => hx.below h hx.2
 have hmk0 : ∀ {W w' : World} {e : Ending}, (e = .returned (.tuple #[pv0, .int .i64 1]) ∧ Below W.heap.size W w') → RetPu W [] [] 0 1 e w' := fun h => ⟨none, 0, none, 0, h.1, nil_u 1 _, nil_u 1 _, h.2⟩
 have hmax : n ≤ 9223372036854775807 := by omega
 have hl := hr.len
 cases hF : isF f k with
 | false =>
  have hg : (isF f k && decide (n ≤ 100000)) = false := by rw [hF]; rfl
  exact ⟨[], [], 0, 1, .inr rfl, by simp, by simp, fun W h => (make_err f k A n c E m d cs W hmax (hcW W h) (.inl hg)).mono fun e w' q => hmk0 q, fun W h => (rmake_err f k A n c E m d cs W (hcW W h) (.inl hg)).mono fun e w' q => hmk0 q,
   fun J i => ⟨fun h => (by cases h.1), fun ⟨C, _, _, h, _⟩ => (by rw [hF] at h; cases h)⟩⟩
 | true =>
  by_cases hC : IsC n cs
  ·obtain ⟨C, rfl, hcu⟩ := isC_cu hC
   have hCl := cu_len hcu
   exact ⟨ic C, insF f l C, (scF f k l).2.1, 0, .inl rfl, by rw [ic_len]; omega, by rw [insF_len']; omega,
    fun W h => (make_ok f k A n c l E m d C W (hrW W h) hn (hcW W h) hcu hF (hxW W h)).mono fun e w' q => q.u, fun W h => (rmake_ok f k A n c l E m d C W (hrW W h) hn (hcW W h) hcu hF).mono fun e w' q => q.u,
    fun J i => ⟨fun ⟨_, h1, _, h2⟩ => ⟨C, rfl, by rw [hl]; exact hcu, hF, h1, h2⟩, fun ⟨D, h1, _, _, h3, h4⟩ => ⟨rfl, h3, rfl, by rw [ic_inj h1]; exact h4⟩⟩⟩
  ·exact ⟨[], [], 0, 1, .inr rfl, by simp, by simp, fun W h => (make_err f k A n c E m d cs W hmax (hcW W h) (.inr hC)).mono fun e w' q => hmk0 q, fun W h => (rmake_err f k A n c E m d cs W (hcW W h) (.inr hC)).mono fun e w' q => hmk0 q,
    fun J i => ⟨fun h => (by cases h.1), fun ⟨D, h1, h2, _⟩ => absurd (by rw [h1]; rw [hl] at h2; exact cu_isC h2) hC⟩⟩
abbrev plv (E : Option Addr) (m d : Nat) (D : Option Addr) (q r : Nat) (g : Int) : Value := .agg #[.slice E m d, .slice D q r, .int .i64 g]
theorem rmade_c (f k : Int) (A : Option Addr) (n c : Nat) (l : List UInt8) (E : Option Addr) (m d : Nat) (L : List Int) (D : Option Addr) (q r : Nat) (I : List Bool) (g : Int) (w : World) (hr : Rb w w.heap.size A n c l) (hn : n ≤ 90000) (hc : Rc 1 w w.heap.size E m d (ivs L)) (hi : Rc 1 w w.heap.size D q r (lvb I)) (hq : q ≤ 9000000) (hx : Sq.Mx w) (o : Bool) (ho : o = true ↔ Md f k l L I g) :
  Calls Tryz.prog 29 #[flv f k A n c, plv E m d D q r g] w fun e w' => e = .returned (.bool o) ∧ Below w.heap.size w w' := by
 obtain ⟨w0, hw0⟩ : ∃ w0, w0 = w.alloc (.cells #[.int .i64 f, .int .i64 k, .slice A n c] 35) := ⟨_, rfl⟩
 have z0 : w0.heap.size = w.heap.size + 1 := by rw [hw0]; simp
 have b0 : Below w.heap.size w w0 := by rw [hw0]; exact ej _ _
 have x0 : Bx w0 w.heap.size (.int .i64 f) (.int .i64 k) (.slice A n c) := by rw [hw0]; exact Bx.made _ _ _ _ _
 obtain ⟨w1, hw1⟩ : ∃ w1, w1 = w0.alloc (.cells #[.slice E m d, .slice D q r, .int .i64 g] 37) := ⟨_, rfl⟩
 have z1 : w1.heap.size = w.heap.size + 2 := by rw [hw1]; simp [z0]
 have b01 : Below w0.heap.size w0 w1 := by rw [hw1]; exact ej _ _
 have y1 : Bx w1 w0.heap.size (.slice E m d) (.slice D q r) (.int .i64 g) := by rw [hw1]; exact Bx.made _ _ _ _ _
 rw [z0] at y1
 have x1 := x0.below b01 x0.lt
 have b1 := b0.trans (b01.mono (by omega))
 have hc1 := (hc.below b1).more (B' := w1.heap.size) (by omega)
 have hi1 := (hi.below b1).more (B' := w1.heap.size) (by omega)
 obtain ⟨L0, I0, g0, h0, herr, hlf, hif, -, hmk, hmd⟩ := mk2_ex f k A n c l E m d L w1 ((hr.below b1).more (by omega)) hn hc1 (hx.below b1 hx.2)
 have hmd := hmd I g
 rw [← ho] at hmd
 have W0 := ek hw0; have W1 := ek hw1; have Hmk := ek hmk; have Hmd := ek hmd; have Y1 := ek y1; have HC := ek hc1; have HI := ek hi1; have B1 := ek b1; have Z0 := ek z0; have Hif := ek hif
 have hly := y1.lt
 obtain ⟨c0, c1, c2, -, -, -, -⟩ := x1
 obtain ⟨e0, e1, e2, -, -, -, -⟩ := y1
 clear hw0 hw1 b0 x0 b01 z0 hr hc hi hx ho hmd hmk hc1 hi1 b1 hlf hif
 go_enter Tryz.func29, Tryz.ntmps29
 go_wp2_with (first | rw [← W0.out, ← W1.out, Z0.out] | rw [← W0.out, ← W1.out])
 refine (Hmk.out _ (Below.refl _ _)).mono ?_
 rintro e w2 ⟨A4, a4, D4, d4, rfl, r4, s4, b4⟩
 have z4 := b4.size
 obtain ⟨w3, hw3⟩ : ∃ w3, w3 = w2.alloc (.cells #[.slice A4 L0.length a4, .slice D4 I0.length d4, .int .i64 g0] 37) := ⟨_, rfl⟩
 have b5 : Below w2.heap.size w2 w3 := by rw [hw3]; exact ej _ _
 have z5 := b5.size
 have x3 : Bx w3 w2.heap.size (.slice A4 L0.length a4) (.slice D4 I0.length d4) (.int .i64 g0) := by rw [hw3]; exact Bx.made _ _ _ _ _
 have b45 := b4.trans (b5.mono z4)
 have y3 := Y1.out.below b45 hly
 have B3 := ek (B1.out.trans (b45.mono (by omega)))
 clear c0 c1 c2 e0 e1 e2
 rcases herr with rfl | rfl
 ·have hs := rsame_g E D A4 D4 m d q r L0.length a4 I0.length d4 g g0 L L0 I I0 w3 ((HC.out.below b45).more (by omega)) ((HI.out.below b45).more (by omega)) ((r4.below b5).more z5) ((s4.below b5).more z5) hq (by have := Hif.out; omega) o
   (by rw [Bool.eq_iff_iff, ← Hmd.out]; simp)
  have Hs := ek hs; have W3 := ek hw3
  obtain ⟨c0, c1, c2, -, -, -, -⟩ := x3
  obtain ⟨e0, e1, e2, -, -, -, -⟩ := y3
  clear hs hw3 r4 s4 b4 b5 b45
  go_wp2_with (rw [← W3.out])
  refine Hs.out.mono ?_
  rintro e w4 ⟨rfl, b⟩
  have bb := B3.out.trans (b.mono (by omega))
  clear c0 c1 c2 e0 e1 e2 Hmd Hs
  cases o
  all_goals
   go_wp2
   go_ret
   exact ⟨rfl, bb⟩
 ·have hof : o = false := by
   cases o with
   | false => rfl
   | true => have := (Hmd.out.2 rfl).1; cases this
  subst hof
  have W3 := ek hw3
  clear hw3 r4 s4 b4 b5 b45 x3 y3
  go_wp2
  rw [← W3.out]
  go_ret
  exact ⟨rfl, B3.out⟩
theorem rcount_c (E : Option Addr) (m d : Nat) (D : Option Addr) (q r : Nat) (g : Int) (w : World) (hm : m ≤ 9000000) :
  Calls Tryz.prog 17 #[plv E m d D q r g] w fun e w' => e = .returned (.int .i64 ((m - 1 : Nat) : Int)) ∧ Below w.heap.size w w' := by
 obtain ⟨w1, hw1⟩ : ∃ w1, w1 = w.alloc (.cells #[.slice E m d, .slice D q r, .int .i64 g] 37) := ⟨_, rfl⟩
 have b1 : Below w.heap.size w w1 := by rw [hw1]; exact ej _ _
 have y1 : Bx w1 w.heap.size (.slice E m d) (.slice D q r) (.int .i64 g) := by rw [hw1]; exact Bx.made _ _ _ _ _
 have q1 : IntKind.i64.wrap ((m : Int) - 1) = (m : Int) - 1 := IntWalk.i64_in _ (by omega)
 have q2 : max 0 ((m : Int) - 1) = ((m - 1 : Nat) : Int) := by omega
 have W1 := ek hw1
 obtain ⟨e0, e1, e2, -, -, -, -⟩ := y1
 clear hw1
 go_enter Tryz.func17, Tryz.ntmps17
 go_wp2_with (rw [← W1.out])
 go_ret
 exact ⟨rfl, b1⟩
def RetRu (w : World) (L : List (List (List UInt8))) (h : Nat) (e : Ending) (w' : World) : Prop :=
 ∃ A c, e = .returned (.tuple #[.slice A L.length c, .int .i64 (h : Int)]) ∧ RL w' w'.heap.size A L.length c L ∧ Below w.heap.size w w'
theorem RetRw.u {w w' : World} {e : Ending} {L : List (List (List UInt8))} {h : Nat} (q : RetRw w L h e w') : RetRu w L h e w' := by
 obtain ⟨A, c, h0, h1, h2⟩ := q
 exact ⟨A, c, h0, RLS.keep h1 (stays_weak fr_lt), h2⟩
theorem pcs_few {f k : Int} (hF : isF f k = true) {l : List UInt8} (hn : l.length ≤ 90000) : (scF f k l).1.length ≤ 1000000 := by
 have hasc := asc_F hF l
 rcases asc_len hasc with h | h
 ·rw [List.length_map] at h; omega
 ·have := congrArg List.length h; rw [List.length_map] at this; rw [this]; simp
theorem all_F {f k : Int} (hF : isF f k = true) {l : List UInt8} (hn : l.length ≤ 90000) : (Tm.all (scF f k l).1).length ≤ 50000000 := by
 have hcase : f = 0 ∨ f = 1 ∨ f = 2 ∨ f = 3 ∨ f = 4 ∨ f = 5 := by
  unfold isF at hF
  split at hF
  ·omega
  ·unfold isU at hF
   simp at hF
   omega
 have hP := pcs_few hF hn
 rcases hcase with rfl | rfl | rfl | rfl | rfl | rfl
 ·show (Tm.all ((Tm.ls l).map Tm.pc)).length ≤ _
  rw [Tm.all_pc, List.length_map]
  have := Tm.ls_len l
  omega
 ·show (Tm.all ((Csv.Cv.ls l).map Csv.Cv.pc)).length ≤ _
  rw [Csv.Cv.all_pc, List.length_map]
  have := Csv.Cv.ls_len l
  omega
 ·have := (Sq.Sm.ps_all l).1
  show (Tm.all (Sq.Sm.ps l).1).length ≤ _
  omega
 ·have := (Cht.Hm.scS_all l).1
  show (Tm.all (Cht.Hm.scS l).1).length ≤ _
  omega
 ·have h : (scF 4 k l).1.length = (Fix.Fx.ch l k.toNat).length := by
   show ((Fix.Fx.ch l k.toNat).map Tm.pc).length = _
   rw [List.length_map]
  show (Tm.all ((Fix.Fx.ch l k.toNat).map Tm.pc)).length ≤ _
  rw [Tm.all_pc, List.length_map]
  omega
 ·have h := all_one (Bun.Bm.scS l).1 (bun_one l)
  have h2 : (scF 5 k l).1 = (Bun.Bm.scS l).1 := rfl
  rw [h2] at hP ⊢
  omega
theorem cu_two {n : Nat} {C : List Nat} (h : Cu n C) {j a b : Nat} (ha : C[j]? = some a) (hb : C[j + 1]? = some b) : a < b ∧ b ≤ n := by
 have h1 := (cu_isC h).2.2 j (a : Int) (b : Int) (ic_get ha) (ic_get hb)
 have h2 := Asc.mem (cu_get h) b (List.mem_of_getElem? hb)
 exact ⟨by omega, by omega⟩
theorem rread_good (f k : Int) (A : Option Addr) (n c : Nat) (l : List UInt8) (E : Option Addr) (m d : Nat) (C : List Nat) (D : Option Addr) (q r : Nat) (I : List Bool) (g : Int) (w : World) (hr : Rb w w.heap.size A n c l) (hn : n ≤ 90000) (hc : Rc 1 w w.heap.size E m d (ivs (ic C))) (hi : Rc 1 w w.heap.size D q r (lvb I)) (hq : q ≤ 9000000) (hx : Sq.Mx w) (hM : Md f k l (ic C) I g)
  (j a b : Nat) (ha : C[j]? = some a) (hb : C[j + 1]? = some b) :
  Calls Tryz.prog 10 #[flv f k A n c, plv E m d D q r g, .int .i64 (j : Int)] w (RetRw w (rdP (scF f k l).1 a b) (told f (scF f k l).2.1 (scF f k l).2.2 a b)) := by
 have hl := hr.len
 obtain ⟨C', hC', hcu, hF, hg, hI⟩ := id hM
 have hCC := ic_inj hC'
 subst hCC
 rw [hl] at hcu
 have hab := cu_two hcu ha hb
 have hCl : C.length = m := by have := hc.len1; rw [ivs_length, ic_len] at this; exact this
 have hm2 := cu_len hcu
 rw [hCl] at hm2
 have hj : j + 1 < m := by rw [← hCl]; exact (List.getElem?_eq_some_iff.1 hb).1
 obtain ⟨w0, hw0⟩ : ∃ w0, w0 = w.alloc (.cells #[.int .i64 f, .int .i64 k, .slice A n c] 35) := ⟨_, rfl⟩
 have z0 : w0.heap.size = w.heap.size + 1 := by rw [hw0]; simp
 have b0 : Below w.heap.size w w0 := by rw [hw0]; exact ej _ _
 have x0 : Bx w0 w.heap.size (.int .i64 f) (.int .i64 k) (.slice A n c) := by rw [hw0]; exact Bx.made _ _ _ _ _
 obtain ⟨w1, hw1⟩ : ∃ w1, w1 = w0.alloc (.cells #[.slice E m d, .slice D q r, .int .i64 g] 37) := ⟨_, rfl⟩
 have z1 : w1.heap.size = w.heap.size + 2 := by rw [hw1]; simp [z0]
 have b01 : Below w0.heap.size w0 w1 := by rw [hw1]; exact ej _ _
 have y1 : Bx w1 w0.heap.size (.slice E m d) (.slice D q r) (.int .i64 g) := by rw [hw1]; exact Bx.made _ _ _ _ _
 rw [z0] at y1
 have x1 := x0.below b01 x0.lt
 have b1 := b0.trans (b01.mono (by omega))
 have hmd := rmade_c f k A n c l E m d (ic C) D q r I g w1 ((hr.below b1).more (by omega)) hn ((hc.below b1).more (by omega)) ((hi.below b1).more (by omega)) hq (hx.below b1 hx.2) true (by simp [hM])
 have hP := pcs_few hF (l := l) (by omega)
 have hA := all_F hF (l := l) (by omega)
 obtain ⟨P, hPe⟩ : ∃ P, P = (scF f k l).1 := ⟨_, rfl⟩
 obtain ⟨G, hGe⟩ : ∃ G, G = (scF f k l).2.1 := ⟨_, rfl⟩
 obtain ⟨X, hXe⟩ : ∃ X, X = (scF f k l).2.2 := ⟨_, rfl⟩
 have hsc := fun W (h : Below w.heap.size w W) => rscan_ok f k A n c l W ((hr.below h).more h.size) hn hF
 unfold RetS at hsc
 rw [← hPe, ← hGe, ← hXe] at hsc
 rw [← hPe] at hP hA
 rw [← hPe, ← hGe, ← hXe]
 obtain ⟨U, hU⟩ : ∃ U, U = told f G X a b := ⟨_, rfl⟩
 rw [← hU]
 obtain ⟨R, hR⟩ : ∃ R, R = rdP P a b := ⟨_, rfl⟩
 rw [← hR]
 have HR := ek hR
 have W0 := ek hw0; have W1 := ek hw1; have Hmd := ek hmd; have Hsc := ek hsc; have X1 := ek x1; have Y1 := ek y1; have Z0 := ek z0; have B1 := ek b1; have HU := ek hU; have Hc := ek hc; have HA := ek hA; have Ha := ek ha; have Hb := ek hb
 have hlx := x1.lt
 have hly := y1.lt
 obtain ⟨c0, c1, c2, -, -, -, -⟩ := x1
 obtain ⟨e0, e1, e2, -, -, -, -⟩ := y1
 clear hw0 hw1 b0 x0 b01 z0 hr hc hi hx hmd hsc b1 hM hC' hcu hg hI hU hR hPe hGe hXe hA ha hb hF
 have d1 : decide ((j : Int) < 0) = false := by simp
 have d2 : decide (((m - 1 : Nat) : Int) ≤ (j : Int)) = false := by simp; omega
 have d3 : decide (m - 1 ≤ j) = false := by simp; omega
 go_enter Tryz.func10, Tryz.ntmps10
 go_wp2_with (first | rw [← W0.out, ← W1.out, Z0.out] | rw [← W0.out, ← W1.out])
 refine Hmd.out.mono ?_
 rintro e w2 ⟨rfl, b2⟩
 have z2 := b2.size
 have X2 := ek (X1.out.below b2 hlx); have Y2 := ek (Y1.out.below b2 hly); have B2 := ek (B1.out.trans (b2.mono (by omega)))
 clear c0 c1 c2 e0 e1 e2 b2 Hmd
 obtain ⟨c0, c1, c2, -, -, -, -⟩ := X2.out
 obtain ⟨e0, e1, e2, -, -, -, -⟩ := Y2.out
 go_wp2_with fail
 refine (rcount_c E m d D q r g w2 (by omega)).mono ?_
 rintro e w3 ⟨rfl, b3⟩
 have z3 := b3.size
 have X3 := ek (X2.out.below b3 (by omega)); have Y3 := ek (Y2.out.below b3 (by omega)); have B3 := ek (B2.out.trans (b3.mono (by omega)))
 clear c0 c1 c2 e0 e1 e2 b3
 obtain ⟨c0, c1, c2, -, -, -, -⟩ := X3.out
 obtain ⟨e0, e1, e2, -, -, -, -⟩ := Y3.out
 go_wp2_with fail
 refine (Hsc.out _ B3.out).mono ?_
 rintro e w4 ⟨A4, c4, rfl, hp4, b4⟩
 have z4 := b4.size
 have X4 := ek (X3.out.below b4 (by omega)); have Y4 := ek (Y3.out.below b4 (by omega)); have B4 := ek (B3.out.trans (b4.mono (by omega))); have H4 := ek hp4
 clear c0 c1 c2 e0 e1 e2 b4 hp4
 obtain ⟨c0, c1, c2, -, -, -, -⟩ := X4.out
 obtain ⟨e0, e1, e2, -, -, -, -⟩ := Y4.out
 obtain ⟨eb, eo, xa, hE, heb, hca, hxa⟩ := (Hc.out.below B4.out).int (k := j) (by omega)
 obtain ⟨eb', eo', xb, hE', heb', hcb, hxb⟩ := (Hc.out.below B4.out).int (k := j + 1) (by omega)
 rw [hE] at hE'
 injection hE' with hE'
 injection hE' with h1 h2
 subst h1 h2
 obtain rfl : xa = (a : Int) := by
  rw [ic_get Ha.out] at hxa
  injection hxa with hxa
  exact hxa.symm
 obtain rfl : xb = (b : Int) := by
  rw [ic_get Hb.out] at hxb
  injection hxb with hxb
  exact hxb.symm
 subst hE
 have hcb' : w4.cell? ⟨eb, eo + (j + 1),none⟩ = some (.int .i64 (b : Int)) := hcb
 clear hxa hxb hcb
 have q1 : IntKind.i64.wrap ((j : Int) + 1) = ((j + 1 : Nat) : Int) := by rw [IntWalk.i64_in _ (by omega)]; omega
 have q2 : ((j : Int) + 1).toNat = j + 1 := by omega
 go_wp2_with fail
 go_quiet (fail)
 go_wp2_with fail
 have z34 : w3.heap.size ≤ w4.heap.size := z4
 rename Nat => nq
 refine (rofS_c w3.heap.size A4 P.length c4 P a b (w4.drewN nq) z34 (PLS.keep H4.out (show Stays w4 (w4.drewN nq) (Fr w3.heap.size w4) (Fr w3.heap.size (w4.drewN nq)) from ⟨fun _ h => h, fun _ _ => rfl⟩)) (by omega) (by have := HA.out; omega)).mono ?_
 rintro e w5 ⟨A5, c5, rfl, h5, b5⟩
 have b45 : Below w4.heap.size w4 w5 := (below_drewN (Below.refl _ _) _).trans b5
 have z5 := b45.size
 have x5 := X4.out.below b45 (by omega)
 have bb := B4.out.trans (b45.mono (by omega))
 have hR2 : Tm.all (Tm.btw a b P) = R := by rw [HR.out]; rfl
 rw [hR2] at h5 ⊢
 have H5 := ek (show RLS w5 (Fr w.heap.size w5) A5 R.length c5 R from RLS.keep h5 (stays_weak fun b hb => ⟨by have h : w3.heap.size ≤ b := hb.1; omega, hb.2⟩))
 clear c0 c1 c2 e0 e1 e2 h5 b5 b45 hR2 hca hcb' q1 q2 d1 d2 d3
 obtain ⟨c0, c1, c2, -, -, -, -⟩ := x5
 by_cases hf5 : f = 5
 ·subst hf5
  by_cases ha0 : 0 < a
  ·have d4 : decide ((0 : Int) < (a : Int)) = true := by simpa using ha0
   have d5 : decide (0 < a) = true := by simpa using ha0
   obtain rfl : U = 0 := by rw [HU.out]; unfold told; rw [if_pos rfl, if_pos ha0]
   clear HU
   go_wp2
   go_ret2
   exact ⟨A5, c5, rfl, H5.out, bb⟩
  ·have d4 : decide ((0 : Int) < (a : Int)) = false := by simpa using ha0
   have d5 : decide (0 < a) = false := by simpa using ha0
   have hU2 : U = ef 5 X := by rw [HU.out]; unfold told; rw [if_pos rfl, if_neg ha0]
   by_cases hX : X = 0
   ·subst hX
    obtain rfl : U = 0 := hU2
    clear HU
    go_wp2
    go_ret2
    exact ⟨A5, c5, rfl, H5.out, bb⟩
   ·have d6 : ((X : Int) != 0) = true := by simpa using hX
    obtain rfl : U = 3 := by rw [hU2]; unfold ef; rw [if_neg hX, if_neg (by omega)]
    clear HU hU2 hX
    go_wp2
    go_ret2
    exact ⟨A5, c5, rfl, H5.out, bb⟩
 ·have d5 : (f == 5) = false := beq_eq_false_iff_ne.2 hf5
  have d5' : (f != 5) = true := by simpa using hf5
  by_cases hbg : b ≤ G
  ·have d7 : decide ((b : Int) ≤ (G : Int)) = true := by simpa using hbg
   have d8 : decide (b ≤ G) = true := by simpa using hbg
   obtain rfl : U = 0 := by rw [HU.out]; unfold told; rw [if_neg hf5, if_pos hbg]
   clear HU hf5
   go_wp2
   go_ret2
   exact ⟨A5, c5, rfl, H5.out, bb⟩
  ·have d7 : decide ((b : Int) ≤ (G : Int)) = false := by simpa using hbg
   have d8 : decide (b ≤ G) = false := by simpa using hbg
   have hU2 : U = ef f X := by rw [HU.out]; unfold told; rw [if_neg hf5, if_neg hbg]
   by_cases hX : X = 0
   ·subst hX
    obtain rfl : U = 0 := by rw [hU2]; rfl
    clear HU hU2 hf5
    go_wp2
    go_ret2
    exact ⟨A5, c5, rfl, H5.out, bb⟩
   ·have d6 : ((X : Int) != 0) = true := by simpa using hX
    by_cases hf4 : f = 4
    ·subst hf4
     obtain rfl : U = 2 := by rw [hU2]; unfold ef; rw [if_neg hX, if_pos rfl]
     clear HU hU2 hX hf5 d5 d5'
     go_wp2
     go_ret2
     exact ⟨A5, c5, rfl, H5.out, bb⟩
    ·have d9 : (f == 4) = false := beq_eq_false_iff_ne.2 hf4
     obtain rfl : U = 3 := by rw [hU2]; unfold ef; rw [if_neg hX, if_neg hf4]
     clear HU hU2 hX hf4 hf5
     go_wp2
     go_ret2
     exact ⟨A5, c5, rfl, H5.out, bb⟩
theorem rread_bad (f k : Int) (A : Option Addr) (n c : Nat) (l : List UInt8) (E : Option Addr) (m d : Nat) (L : List Int) (D : Option Addr) (q r : Nat) (I : List Bool) (g : Int) (w : World) (hr : Rb w w.heap.size A n c l) (hn : n ≤ 90000) (hc : Rc 1 w w.heap.size E m d (ivs L)) (hi : Rc 1 w w.heap.size D q r (lvb I)) (hq : q ≤ 9000000) (hx : Sq.Mx w) (i : Int) (hm : m ≤ 9000000) (h : ¬ Md f k l L I g ∨ i < 0 ∨ ((m - 1 : Nat) : Int) ≤ i) :
  Calls Tryz.prog 10 #[flv f k A n c, plv E m d D q r g, .int .i64 i] w (RetRu w [] 1) := by
 obtain ⟨w0, hw0⟩ : ∃ w0, w0 = w.alloc (.cells #[.int .i64 f, .int .i64 k, .slice A n c] 35) := ⟨_, rfl⟩
 have z0 : w0.heap.size = w.heap.size + 1 := by rw [hw0]; simp
 have b0 : Below w.heap.size w w0 := by rw [hw0]; exact ej _ _
 have x0 : Bx w0 w.heap.size (.int .i64 f) (.int .i64 k) (.slice A n c) := by rw [hw0]; exact Bx.made _ _ _ _ _
 obtain ⟨w1, hw1⟩ : ∃ w1, w1 = w0.alloc (.cells #[.slice E m d, .slice D q r, .int .i64 g] 37) := ⟨_, rfl⟩
 have z1 : w1.heap.size = w.heap.size + 2 := by rw [hw1]; simp [z0]
 have b01 : Below w0.heap.size w0 w1 := by rw [hw1]; exact ej _ _
 have y1 : Bx w1 w0.heap.size (.slice E m d) (.slice D q r) (.int .i64 g) := by rw [hw1]; exact Bx.made _ _ _ _ _
 rw [z0] at y1
 have x1 := x0.below b01 x0.lt
 have b1 := b0.trans (b01.mono (by omega))
 by_cases hM : Md f k l L I g
 ·have hmd := rmade_c f k A n c l E m d L D q r I g w1 ((hr.below b1).more (by omega)) hn ((hc.below b1).more (by omega)) ((hi.below b1).more (by omega)) hq (hx.below b1 hx.2) true (by simp [hM])
  have W0 := ek hw0; have W1 := ek hw1; have Hmd := ek hmd; have X1 := ek x1; have Y1 := ek y1; have Z0 := ek z0; have B1 := ek b1
  have hlx := x1.lt
  have hly := y1.lt
  obtain ⟨c0, c1, c2, -, -, -, -⟩ := x1
  obtain ⟨e0, e1, e2, -, -, -, -⟩ := y1
  have h2 := h.resolve_left (fun z => z hM)
  clear h
  clear hw0 hw1 b0 x0 b01 z0 hr hc hi hx hmd b1 hM
  by_cases hi0 : i < 0
  ·have d1 : decide (i < 0) = true := decide_eq_true hi0
   clear h2
   go_enter Tryz.func10, Tryz.ntmps10
   go_wp2_with (first | rw [← W0.out, ← W1.out, Z0.out] | rw [← W0.out, ← W1.out])
   refine Hmd.out.mono ?_
   rintro e w2 ⟨rfl, b2⟩
   have z2 := b2.size
   have bb := B1.out.trans (b2.mono (by omega))
   clear c0 c1 c2 e0 e1 e2
   go_wp2
   go_ret2
   exact ⟨none, 0, rfl, RLS.nil, bb⟩
  ·have d1 : decide (i < 0) = false := decide_eq_false hi0
   have hmi := h2.resolve_left hi0
   have d2 : decide (((m - 1 : Nat) : Int) ≤ i) = true := decide_eq_true hmi
   clear h2 hmi
   go_enter Tryz.func10, Tryz.ntmps10
   go_wp2_with (first | rw [← W0.out, ← W1.out, Z0.out] | rw [← W0.out, ← W1.out])
   refine Hmd.out.mono ?_
   rintro e w2 ⟨rfl, b2⟩
   have z2 := b2.size
   have X2 := ek (X1.out.below b2 hlx); have Y2 := ek (Y1.out.below b2 hly); have B2 := ek (B1.out.trans (b2.mono (by omega)))
   clear c0 c1 c2 e0 e1 e2 b2 Hmd
   obtain ⟨c0, c1, c2, -, -, -, -⟩ := X2.out
   obtain ⟨e0, e1, e2, -, -, -, -⟩ := Y2.out
   go_wp2_with fail
   refine (rcount_c E m d D q r g w2 (by omega)).mono ?_
   rintro e w3 ⟨rfl, b3⟩
   have bb := B2.out.trans (b3.mono (by omega))
   clear c0 c1 c2 e0 e1 e2
   go_wp2
   go_ret2
   exact ⟨none, 0, rfl, RLS.nil, bb⟩
 ·have hmd := rmade_c f k A n c l E m d L D q r I g w1 ((hr.below b1).more (by omega)) hn ((hc.below b1).more (by omega)) ((hi.below b1).more (by omega)) hq (hx.below b1 hx.2) false (by simp [hM])
  have W0 := ek hw0; have W1 := ek hw1; have Hmd := ek hmd; have X1 := ek x1; have Y1 := ek y1; have Z0 := ek z0; have B1 := ek b1
  have hlx := x1.lt
  have hly := y1.lt
  obtain ⟨c0, c1, c2, -, -, -, -⟩ := x1
  obtain ⟨e0, e1, e2, -, -, -, -⟩ := y1
  clear hw0 hw1 b0 x0 b01 z0 hr hc hi hx hmd b1 hM h
  go_enter Tryz.func10, Tryz.ntmps10
  go_wp2_with (first | rw [← W0.out, ← W1.out, Z0.out] | rw [← W0.out, ← W1.out])
  refine Hmd.out.mono ?_
  rintro e w2 ⟨rfl, b2⟩
  have z2 := b2.size
  have bb := B1.out.trans (b2.mono (by omega))
  clear c0 c1 c2 e0 e1 e2
  go_wp2
  go_ret2
  exact ⟨none, 0, rfl, RLS.nil, bb⟩
def WhRel (w2 : World) (f : Int) (G X : Nat) (P : List (Nat × List (List (List UInt8)))) (C : List Nat) (o t i : Value) (wr : World) : Prop :=
 ∃ A c vs, ∃ j a : Nat, o = .slice A (rdP P 0 a).length c ∧ t = .int .i64 (toldW f G X j a : Int) ∧ i = .int .i64 (j : Int) ∧ C[j]? = some a ∧ Oc 1 wr 77 w2.heap.size A (rdP P 0 a).length c vs ∧ RrsS wr (Sf w2.heap.size wr A) vs (rdP P 0 a) ∧ Below w2.heap.size w2 wr
theorem cu_at {n : Nat} {C : List Nat} (h : Cu n C) {j a : Nat} (ha : C[j]? = some a) : (j = 0 ↔ a = 0) ∧ (j + 1 = C.length → a = n) := by
 obtain ⟨h1, h2⟩ := cu_pos h
 refine ⟨⟨fun q => ?_, fun q => ?_⟩, fun q => ?_⟩
 ·subst q; rw [h2] at ha; injection ha with ha; exact ha.symm
 ·subst q
  cases j with
  | zero => rfl
  | succ j =>
   have hj : j < C.length := by have := (List.getElem?_eq_some_iff.1 ha).1; omega
   have := (cu_two h (List.getElem?_eq_getElem hj) ha).1
   omega
 ·have hl := (cu_isC h).2.1
  rw [List.getLast?_eq_getElem?, ic_len, show C.length - 1 = j from by omega, ic_get ha] at hl
  injection hl with hl
  omega
theorem rwhole_bad (f k : Int) (A : Option Addr) (n c : Nat) (l : List UInt8) (E : Option Addr) (m d : Nat) (L : List Int) (D : Option Addr) (q r : Nat) (I : List Bool) (g : Int) (w : World) (hr : Rb w w.heap.size A n c l) (hn : n ≤ 90000) (hc : Rc 1 w w.heap.size E m d (ivs L)) (hi : Rc 1 w w.heap.size D q r (lvb I)) (hq : q ≤ 9000000) (hx : Sq.Mx w) (hM : ¬ Md f k l L I g) :
  Calls Tryz.prog 14 #[flv f k A n c, plv E m d D q r g] w (RetRu w [] 1) := by
 obtain ⟨w0, hw0⟩ : ∃ w0, w0 = w.alloc (.cells #[.int .i64 f, .int .i64 k, .slice A n c] 35) := ⟨_, rfl⟩
 have z0 : w0.heap.size = w.heap.size + 1 := by rw [hw0]; simp
 have b0 : Below w.heap.size w w0 := by rw [hw0]; exact ej _ _
 have x0 : Bx w0 w.heap.size (.int .i64 f) (.int .i64 k) (.slice A n c) := by rw [hw0]; exact Bx.made _ _ _ _ _
 obtain ⟨w1, hw1⟩ : ∃ w1, w1 = w0.alloc (.cells #[.slice E m d, .slice D q r, .int .i64 g] 37) := ⟨_, rfl⟩
 have z1 : w1.heap.size = w.heap.size + 2 := by rw [hw1]; simp [z0]
 have b01 : Below w0.heap.size w0 w1 := by rw [hw1]; exact ej _ _
 have y1 : Bx w1 w0.heap.size (.slice E m d) (.slice D q r) (.int .i64 g) := by rw [hw1]; exact Bx.made _ _ _ _ _
 rw [z0] at y1
 have x1 := x0.below b01 x0.lt
 have b1 := b0.trans (b01.mono (by omega))
 have hmd := rmade_c f k A n c l E m d L D q r I g w1 ((hr.below b1).more (by omega)) hn ((hc.below b1).more (by omega)) ((hi.below b1).more (by omega)) hq (hx.below b1 hx.2) false (by simp [hM])
 have W0 := ek hw0; have W1 := ek hw1; have Hmd := ek hmd; have X1 := ek x1; have Y1 := ek y1; have Z0 := ek z0; have B1 := ek b1
 have hlx := x1.lt
 have hly := y1.lt
 obtain ⟨c0, c1, c2, -, -, -, -⟩ := x1
 obtain ⟨e0, e1, e2, -, -, -, -⟩ := y1
 clear hw0 hw1 b0 x0 b01 z0 hr hc hi hx hmd b1 hM
 go_enter Tryz.func14, Tryz.ntmps14
 go_wp2_with (first | rw [← W0.out, ← W1.out, Z0.out] | rw [← W0.out, ← W1.out])
 refine Hmd.out.mono ?_
 rintro e w2 ⟨rfl, b2⟩
 have z2 := b2.size
 have bb := B1.out.trans (b2.mono (by omega))
 clear c0 c1 c2 e0 e1 e2
 go_wp2
 go_ret2
 exact ⟨none, 0, rfl, RLS.nil, bb⟩
theorem rwhole_good (f k : Int) (A : Option Addr) (n c : Nat) (l : List UInt8) (E : Option Addr) (m d : Nat) (C : List Nat) (D : Option Addr) (q r : Nat) (I : List Bool) (g : Int) (w : World) (hr : Rb w w.heap.size A n c l) (hn : n ≤ 90000) (hc : Rc 1 w w.heap.size E m d (ivs (ic C))) (hi : Rc 1 w w.heap.size D q r (lvb I)) (hq : q ≤ 9000000) (hx : Sq.Mx w) (hM : Md f k l (ic C) I g) :
  Calls Tryz.prog 14 #[flv f k A n c, plv E m d D q r g] w (RetRu w (Tm.all (scF f k l).1) (toldW f (scF f k l).2.1 (scF f k l).2.2 (m - 1) n)) := by
 have hl := hr.len
 obtain ⟨C', hC', hcu, hF, hg, hI⟩ := id hM
 have hCC := ic_inj hC'
 subst hCC
 rw [hl] at hcu
 have hCl : C.length = m := by have := hc.len1; rw [ivs_length, ic_len] at this; exact this
 have hm2 := cu_len hcu
 rw [hCl] at hm2
 have hpos := cu_pos hcu
 rw [hCl] at hpos
 obtain ⟨w0, hw0⟩ : ∃ w0, w0 = w.alloc (.cells #[.int .i64 f, .int .i64 k, .slice A n c] 35) := ⟨_, rfl⟩
 have z0 : w0.heap.size = w.heap.size + 1 := by rw [hw0]; simp
 have b0 : Below w.heap.size w w0 := by rw [hw0]; exact ej _ _
 have x0 : Bx w0 w.heap.size (.int .i64 f) (.int .i64 k) (.slice A n c) := by rw [hw0]; exact Bx.made _ _ _ _ _
 obtain ⟨w1, hw1⟩ : ∃ w1, w1 = w0.alloc (.cells #[.slice E m d, .slice D q r, .int .i64 g] 37) := ⟨_, rfl⟩
 have z1 : w1.heap.size = w.heap.size + 2 := by rw [hw1]; simp [z0]
 have b01 : Below w0.heap.size w0 w1 := by rw [hw1]; exact ej _ _
 have y1 : Bx w1 w0.heap.size (.slice E m d) (.slice D q r) (.int .i64 g) := by rw [hw1]; exact Bx.made _ _ _ _ _
 rw [z0] at y1
 have x1 := x0.below b01 x0.lt
 have b1 := b0.trans (b01.mono (by omega))
 have hmd := rmade_c f k A n c l E m d (ic C) D q r I g w1 ((hr.below b1).more (by omega)) hn ((hc.below b1).more (by omega)) ((hi.below b1).more (by omega)) hq (hx.below b1 hx.2) true (by simp [hM])
 have hA := all_F hF (l := l) (by omega)
 have hasc := asc_F hF l
 rw [hl] at hasc
 have hrd := fun (W : World) (h : Below w1.heap.size w1 W) (j a b : Nat) (ha : C[j]? = some a) (hb : C[j + 1]? = some b) => rread_good f k A n c l E m d C D q r I g W ((hr.below (b1.trans (h.mono (by omega)))).more (by have := h.size; omega)) hn ((hc.below (b1.trans (h.mono (by omega)))).more (by have := h.size; omega)) ((hi.below (b1.trans (h.mono (by omega)))).more (by have := h.size; omega)) hq (hx.below (b1.trans (h.mono (by omega))) hx.2) hM j a b ha hb
 obtain ⟨P, hPe⟩ : ∃ P, P = (scF f k l).1 := ⟨_, rfl⟩
 obtain ⟨G, hGe⟩ : ∃ G, G = (scF f k l).2.1 := ⟨_, rfl⟩
 obtain ⟨X, hXe⟩ : ∃ X, X = (scF f k l).2.2 := ⟨_, rfl⟩
 rw [← hPe, ← hGe, ← hXe] at hrd
 rw [← hPe] at hA hasc
 rw [← hPe, ← hGe, ← hXe]
 obtain ⟨U, hU⟩ : ∃ U, U = toldW f G X (m - 1) n := ⟨_, rfl⟩
 obtain ⟨R, hR⟩ : ∃ R, R = Tm.all P := ⟨_, rfl⟩
 rw [← hU, ← hR]
 have W0 := ek hw0; have W1 := ek hw1; have Hmd := ek hmd; have X1 := ek x1; have Y1 := ek y1; have Z0 := ek z0; have B1 := ek b1
 have hlx := x1.lt
 have hly := y1.lt
 obtain ⟨c0, c1, c2, -, -, -, -⟩ := x1
 obtain ⟨e0, e1, e2, -, -, -, -⟩ := y1
 have HU := ek hU; have HR := ek hR; have Hrd := ek hrd; have HA := ek hA; have Hasc := ek hasc; have Hcu := ek hcu; have HCl := ek hCl; have Hpos := ek hpos
 clear hw0 hw1 b0 x0 b01 z0 hr hc hi hx hmd b1 hM hU hR hrd hA hasc hcu hCl hPe hGe hXe hC' hg hI hF hpos
 go_enter Tryz.func14, Tryz.ntmps14
 go_wp2_with (first | rw [← W0.out, ← W1.out, Z0.out] | rw [← W0.out, ← W1.out])
 refine Hmd.out.mono ?_
 rintro e w2 ⟨rfl, b2⟩
 have z2 := b2.size
 have X2 := ek (X1.out.below b2 hlx); have Y2 := ek (Y1.out.below b2 hly); have B12 := ek b2
 have hlx2 : w.heap.size < w2.heap.size := by omega
 have hly2 : w.heap.size + 1 < w2.heap.size := by omega
 clear c0 c1 c2 e0 e1 e2 b2 Hmd
 obtain ⟨w3, hw3⟩ : ∃ w3, w3 = w2.alloc (.cells #[] 77) := ⟨_, rfl⟩
 have b3 : Below w2.heap.size w2 w3 := by rw [hw3]; exact ej _ _
 have own3 : Oc 1 w3 77 w2.heap.size (some ⟨w2.heap.size, 0,none⟩) 0 0 [] := by rw [hw3]; exact Oc.made0 1 _ _
 have W3 := ek hw3; have Own3 := ek own3; have B23 := ek b3
 clear hw3 own3 b3
 go_wp2_with (rw [← W3.out])
 go_loopw [6, 7, 8, 9, 10] (fun o t i _ _ wr => WhRel w2 f G X P C o t i wr) (fun _ _ i _ _ _ => m - (intOf i).toNat)
 case atStart => exact ⟨some ⟨w2.heap.size, 0,none⟩, 0, [], 0, 0, by rw [rdP_none]; rfl, by rw [toldW_first]; rfl, rfl, Hpos.out.2, by rw [rdP_none]; exact Own3.out, by rw [rdP_none]; exact RrsS.nil, B23.out⟩
 case round =>
  obtain ⟨A3, c3, vs, j, a, rfl, rfl, rfl, hja, hown, hps, hbel⟩ := hrel
  rename World => wr
  have z3 := hbel.size
  have hjm : j < m := by rw [← HCl.out]; exact (List.getElem?_eq_some_iff.1 hja).1
  have X3 := ek (X2.out.below hbel hlx2); have Y3 := ek (Y2.out.below hbel hly2); have Hja := ek hja; have Hown := ek hown; have Hps := ek hps
  have hlx3 : w.heap.size < wr.heap.size := by omega
  have hly3 : w.heap.size + 1 < wr.heap.size := by omega
  clear hja hown hps
  obtain ⟨c0, c1, c2, -, -, -, -⟩ := X3.out
  obtain ⟨e0, e1, e2, -, -, -, -⟩ := Y3.out
  go_wp2_with fail
  refine (rcount_c E m d D q r g wr (by omega)).mono ?_
  rintro e w4 ⟨rfl, b4⟩
  have z4 := b4.size
  have hbel4 := hbel.trans (b4.mono z3)
  have X4 := ek (X3.out.below b4 hlx3); have Y4 := ek (Y3.out.below b4 hly3)
  have hown4 := Hown.out.keep b4
  have hps4 := Hps.out.keep (sf_below b4)
  clear c0 c1 c2 e0 e1 e2 b4
  obtain ⟨c0, c1, c2, -, -, -, -⟩ := X4.out
  obtain ⟨e0, e1, e2, -, -, -, -⟩ := Y4.out
  by_cases hlt : j + 1 < m
  ·have d1 : decide ((j : Int) < ((m - 1 : Nat) : Int)) = true := by simp; omega
   have d2 : decide (j < m - 1) = true := by simp; omega
   obtain ⟨b, hb⟩ : ∃ b, C[j + 1]? = some b := ⟨_, List.getElem?_eq_getElem (by rw [HCl.out]; exact hlt)⟩
   have hab := cu_two Hcu.out Hja.out hb
   have hrd := Hrd.out w4 (B12.out.trans (hbel4.mono z2)) j a b Hja.out hb
   have hnx := rdP_next Hasc.out 0 a b (Nat.zero_le _) (by omega)
   have htn := toldW_next f G X j a b (cu_at Hcu.out Hja.out).1 (by omega)
   have hln : (rdP P 0 b).length ≤ 50000000 := Nat.le_trans (rdP_len P 0 b) HA.out
   rw [hnx, List.length_append] at hln
   obtain ⟨T, hT⟩ : ∃ T, T = told f G X a b := ⟨_, rfl⟩
   obtain ⟨V, hV⟩ : ∃ V, V = toldW f G X j a := ⟨_, rfl⟩
   obtain ⟨L, hL⟩ : ∃ L, L = rdP P 0 a := ⟨_, rfl⟩
   obtain ⟨K, hK⟩ : ∃ K, K = rdP P a b := ⟨_, rfl⟩
   rw [← hT, ← hK] at hrd
   rw [← hT, ← hV] at htn
   rw [← hL, ← hK] at hnx hln
   rw [← hL] at hown4 hps4 ⊢
   rw [← hV]
   have Hrd2 := ek hrd; have Hnx := ek hnx; have Htn := ek htn; have Hb := ek hb; have Hown4 := ek hown4; have Hps4 := ek hps4; have HB4 := ek hbel4
   clear hrd hnx htn hb hown4 hps4 hbel4 hT hV hL hK
   go_wp2_with fail
   refine Hrd2.out.mono ?_
   rintro e w5 ⟨A5, c5, rfl, ⟨us, hu1, hu2⟩, b5⟩
   have z5 := b5.size
   have hbel5 := HB4.out.trans (b5.mono (by omega))
   have hown5 := Hown4.out.keep b5
   have hps5 := Hps4.out.keep (sf_below b5)
   have hlow : ∀ g, ob A3 = some g → g < w4.heap.size := fun g hg => (oc_ob Hown4.out g hg).2
   have hps6 := hps5.append (hu2.keep (stays_weak (S' := Sf w2.heap.size w5 A3) fun q hq => ⟨by have h : w4.heap.size ≤ q := hq.1; omega, hq.2, fun e => by have h : w4.heap.size ≤ q := hq.1; have := hlow q e.symm; omega⟩))
   have h1 := rrs_one' hu2
   have hKl : K.length = K.length := rfl
   have Hown5 := ek hown5; have Hps6 := ek hps6; have H1 := ek h1; have Hu := ek (show Rc 1 w5 w5.heap.size A5 K.length c5 us from (hu1.keep (stays_weak fr_lt)).rc); have HB5 := ek hbel5
   clear hown5 hps5 hps6 h1 hu1 hu2 hbel5 hlow hKl b5 c0 c1 c2 e0 e1 e2
   go_wp2_with (at_builtin; go_must (refine Sl.wpAppAt rty rfl (.tmp 29) (.tmp 30) rfl (n := L.length) (m := K.length) (N := L.length + K.length) (ws := vs ++ us) rfl rfl Hown5.out Hu.out H1.out rfl rfl ?hs4 ?hs5 ?hs6 ?_))
   case hs4 => omega
   case hs5 => omega
   case hs6 => have := HB5.out.size; omega
   intro A8 c8 w8 hown8 hg8
   have b8 := hg8.belowC Hown5.out (by have := HB5.out.size; omega)
   have bw8 := HB5.out.trans b8
   have hps8 := Hps6.out.keep (sf_grow hg8)
   have Hown8 := ek hown8; have Hps8 := ek hps8
   clear hown8 hps8 hg8
   by_cases hV0 : V = 0
   ·subst hV0
    rw [if_pos rfl] at Htn
    go_wp2
    go_roundw
    case rel => exact ⟨A8, c8, vs ++ us, j + 1, b, by rw [Hnx.out, List.length_append], by rw [Htn.out], by go_num, Hb.out, by rw [Hnx.out, List.length_append]; exact Hown8.out, by rw [Hnx.out]; exact Hps8.out, bw8⟩
    case measure => simp [intOf]; omega
   ·have d3 : ((V : Int) == 0) = false := by rw [beq_eq_false_iff_ne]; omega
    rw [if_neg hV0] at Htn
    clear hV0
    go_wp2
    go_roundw
    case rel => exact ⟨A8, c8, vs ++ us, j + 1, b, by rw [Hnx.out, List.length_append], by rw [Htn.out], by go_num, Hb.out, by rw [Hnx.out, List.length_append]; exact Hown8.out, by rw [Hnx.out]; exact Hps8.out, bw8⟩
    case measure => simp [intOf]; omega
  ·have hje : j = m - 1 := by omega
   have d1 : decide ((j : Int) < ((m - 1 : Nat) : Int)) = false := by simp; omega
   have d2 : decide (j < m - 1) = false := by simp; omega
   have han : a = n := (cu_at Hcu.out Hja.out).2 (by rw [HCl.out]; omega)
   subst han
   have hV : toldW f G X j a = U := by rw [HU.out, hje]
   have hRd : rdP P 0 a = R := by rw [HR.out]; exact rdP_all Hasc.out
   rw [hRd] at hown4 hps4 ⊢
   rw [hV]
   have hfin : RL w4 w4.heap.size A3 R.length c3 R := ⟨vs, hown4.rc, hps4.keep (stays_weak fun q hq => hq.2.1)⟩
   have bb := B1.out.trans ((B12.out.trans (hbel4.mono z2)).mono (by omega))
   have Hfin := ek hfin
   clear hown4 hps4 hfin c0 c1 c2 e0 e1 e2 hV hRd hje hlt
   go_wp2
   go_ret2
   exact ⟨A3, c3, rfl, Hfin.out, bb⟩
theorem recordsOf_c (x : Int) (D : Option Addr) (m d : Nat) (w : World) : Calls Tryz.prog 38 #[.agg #[.int .i64 x, .slice D m d]] w fun e w' => e = .returned (.slice D m d) ∧ Below w.heap.size w w' := by
 go_enter Tryz.func38, Tryz.ntmps38
 go_wp2
 go_ret
 exact ⟨rfl, ej _ _⟩
def CoRel (n : Nat) (w : World) (S : Nat → Prop) (L : Nat → List (List (List UInt8))) (o i : Value) (wr : World) : Prop :=
 ∃ A c vs, ∃ k : Nat, o = .slice A (L k).length c ∧ i = .int .i64 (k : Int) ∧ k ≤ n ∧ Oc 1 wr 77 w.heap.size A (L k).length c vs ∧ RrsS wr S vs (L k) ∧ Below w.heap.size w wr
theorem all_snoc (P : List (Nat × List (List (List UInt8)))) (k : Nat) (p : Nat × List (List (List UInt8))) (h : P[k]? = some p) : Tm.all (P.take (k + 1)) = Tm.all (P.take k) ++ p.2 := by
 rw [List.take_add_one, h, Tm.all_app]
 simp [Tm.all]
theorem collectP_c (A : Option Addr) (n c : Nat) (P : List (Nat × List (List (List UInt8)))) (S : Nat → Prop) (w : World) (hp : PLS w S A n c P) (hS : ∀ x, S x → x < w.heap.size) (hn : n ≤ 1000000) (hall : (Tm.all P).length ≤ 50000000) :
  Calls Tryz.prog 37 #[.slice A n c, .func (.func 38) #[] #[]] w fun e w' =>
   ∃ A' c' vs, e = .returned (.slice A' (Tm.all P).length c') ∧ Oc 1 w' 77 w.heap.size A' (Tm.all P).length c' vs ∧ RrsS w' S vs (Tm.all P) ∧ Below w.heap.size w w' := by
 have hPl := hp.len
 have hallk : ∀ k, (Tm.all (P.take k)).length ≤ 50000000 := fun k => Nat.le_trans (Tm.all_take P k) hall
 have Hp := ek hp; have Hall := ek hallk; have HS := ek hS; have HPl := ek hPl
 clear hp hall hallk hS hPl
 go_enter Tryz.func37, Tryz.ntmps37
 go_wp2
 go_loopw [5, 7, 10] (fun o _ i wr => CoRel n w S (fun k => Tm.all (P.take k)) o i wr) (fun _ _ i _ => n - (intOf i).toNat)
 case atStart => exact ⟨none, 0, [], 0, rfl, rfl, Nat.zero_le _, Oc.nil _ _ _ _, RrsS.nil, Below.refl _ _⟩
 case round =>
  obtain ⟨A3, c3, vs, k, rfl, rfl, hk, hown, hps, hbel⟩ := hrel
  dsimp only at hown hps ⊢
  have z3 := hbel.size
  rename World => wr
  by_cases hlt : k < n
  ·obtain ⟨pb, po, p, D, m, d, rfl, hpb, hc1, hc2, hp, us, hu1, hu2⟩ := (PLS.keep Hp.out (show Stays w wr S S from ⟨fun _ h => h, fun q hq => hbel.cell (p := q) (HS.out _ hq)⟩)).at_ (k := k) hlt
   have hm : p.2.length = m := RLS.len ⟨us, hu1, hu2⟩
   have hsn := all_snoc P k p hp
   have hl1 := Hall.out (k + 1)
   obtain ⟨L, hL⟩ : ∃ L, L = Tm.all (P.take k) := ⟨_, rfl⟩
   rw [← hL] at hown hps hsn ⊢
   have hL1 : L.length ≤ 50000000 := by rw [hL]; exact Hall.out k
   have hlen2 : L.length + m ≤ 50000000 := by
    rw [hsn, List.length_append, hm] at hl1
    exact hl1
   obtain ⟨w5, hw5⟩ : ∃ w5, w5 = wr.alloc (.cells #[.int .i64 (p.1 : Int), .slice D m d] 81) := ⟨_, rfl⟩
   have k0 : w5.cell? ⟨wr.heap.size, 0,none⟩ = some (.int .i64 (p.1 : Int)) := by rw [hw5]; simp
   have k1 : w5.cell? ⟨wr.heap.size, 1,none⟩ = some (.slice D m d) := by rw [hw5]; simp
   have b5 : Below wr.heap.size wr w5 := by rw [hw5]; exact ej _ _
   have W5 := ek hw5; have B5 := ek b5; have Hown := ek hown; have Hps := ek hps; have Hu1 := ek hu1; have Hu2 := ek hu2; have Hsn := ek hsn; have Hm := ek hm
   have hpl : pb < wr.heap.size := by have := HS.out _ hpb; omega
   clear hp hl1 hsn hm hown hps hu1 hu2 b5 hw5 hL
   go_wp2_with (rw [← W5.out])
   refine (recordsOf_c (p.1 : Int) D m d w5).mono ?_
   rintro e w6 ⟨rfl, b6⟩
   have b36 := B5.out.trans (b6.mono B5.out.size)
   have bw6 := hbel.trans (b36.mono z3)
   have hown6 := Hown.out.keep b36
   have hst : Stays wr w6 S S := ⟨fun _ h => h, fun q hq => b36.cell (p := q) (by have := HS.out _ hq; omega)⟩
   have hu6 : Rc 1 w6 w6.heap.size D m d us := (Hu1.out.keep (show Stays wr w6 S (· < w6.heap.size) from ⟨fun q hq => by have h1 := HS.out q hq; have h2 := bw6.size; show q < w6.heap.size; omega, hst.2⟩)).rc
   have hps2 := (Hps.out.keep hst).append (Hu2.out.keep hst)
   have h1 := rrs_one' Hu2.out
   have Hown6 := ek hown6; have Hps2 := ek hps2; have H1 := ek h1; have Hu := ek hu6; have Bw6 := ek bw6
   have hz6 := bw6.size
   clear hown6 hst hu6 hps2 h1 b36 b6 bw6 hc1 hc2 k0 k1
   go_wp2_with (at_builtin; go_must (refine Sl.wpAppAt rty rfl (.tmp 14) (.tmp 17) rfl (n := L.length) (m := m) (N := L.length + m) (ws := vs ++ us) rfl rfl Hown6.out Hu.out H1.out rfl rfl ?hs4 ?hs5 ?hs6 ?_))
   case hs4 => omega
   case hs5 => omega
   case hs6 => exact hz6
   intro A8 c8 w8 hown8 hg8
   have b8 := hg8.belowC Hown6.out hz6
   have bw8 := Bw6.out.trans b8
   have hps8 := Hps2.out.keep (show Stays w6 w8 S S from ⟨fun _ h => h, fun q hq => b8.cell (p := q) (HS.out _ hq)⟩)
   have Hown8 := ek hown8; have Hps8 := ek hps8
   clear hown8 hps8 hg8
   go_wp2
   go_roundw
   case rel => exact ⟨A8, c8, vs ++ us, k + 1, by dsimp only; rw [Hsn.out, List.length_append, Hm.out], by go_num, hlt, by dsimp only; rw [Hsn.out, List.length_append, Hm.out]; exact Hown8.out, by dsimp only; rw [Hsn.out]; exact Hps8.out, bw8⟩
   case measure => simp [intOf]; omega
  ·have e : P.take k = P := List.take_of_length_le (by rw [HPl.out]; omega)
   rw [e] at hown hps ⊢
   have Hown := ek hown; have Hps := ek hps
   clear hown hps e
   go_wp2
   go_ret
   exact ⟨A3, c3, vs, rfl, Hown.out, Hps.out, hbel⟩
theorem told_txt (k : Int) (l : List UInt8) (a b : Nat) (hb : b ≤ l.length) : told 0 (scF 0 k l).2.1 (scF 0 k l).2.2 a b = 0 := by
 show (if (0 : Int) = 5 then _ else if b ≤ l.length then 0 else _) = 0
 rw [if_neg (by omega), if_pos hb]
theorem told_3 {f k : Int} (hF : isF f k = true) {l : List UInt8} (h5 : f ≠ 5) (h4 : f ≠ 4) (a b : Nat) (hb : b ≤ l.length) : ((told f (scF f k l).2.1 (scF f k l).2.2 a b : Nat) : Int) = if (scF f k l).2.1 < b then 3 else 0 := by
 rw [told_ge hF h5 a b hb, if_neg h4]
 split <;> rfl
theorem reads (A : Option Addr) (n c : Nat) (l : List UInt8) (a b : Nat) (w : World) (hr : Rb w w.heap.size A n c l) (hn : n ≤ 90000) (hab : a ≤ b) (hb : b ≤ n) (hx : Sq.Mx w) :
  Calls Tryz.prog 49 #[.slice A n c, .int .i64 (a : Int), .int .i64 (b : Int)] w (RetRw w (rdP (scF 0 0 l).1 a b) (told 0 (scF 0 0 l).2.1 (scF 0 0 l).2.2 a b)) ∧
  Calls Tryz.prog 51 #[.slice A n c, .int .i64 (a : Int), .int .i64 (b : Int), .bool (inF 1 l (a : Int)), .int .i64 ((scF 1 0 l).2.1 : Int)] w (RetRw w (rdP (scF 1 0 l).1 a b) (told 1 (scF 1 0 l).2.1 (scF 1 0 l).2.2 a b)) ∧
  Calls Tryz.prog 53 #[.slice A n c, .int .i64 (a : Int), .int .i64 (b : Int), .int .i64 ((scF 2 0 l).2.1 : Int)] w (RetRw w (rdP (scF 2 0 l).1 a b) (told 2 (scF 2 0 l).2.1 (scF 2 0 l).2.2 a b)) := by
 have hl := hr.len
 have hbl : b ≤ l.length := by omega
 refine ⟨?_, ?_, ?_⟩
 ·refine (Txt.read_ok A n c l a b w hr (by omega) hab hb).mono fun e w' h => ?_
  obtain ⟨A1, c1, h0, h1, h2⟩ := h
  rw [← Tm.btw_pc] at h0 h1
  exact ⟨A1, c1, by rw [told_txt 0 l a b hbl]; exact h0, h1, h2⟩
 ·refine (Csv.read_ok A n c l a b w hr hab hb (by omega)).mono fun e w' h => ?_
  obtain ⟨A1, c1, h0, h1, h2⟩ := h
  rw [← Csv.Cv.btw_pc] at h0 h1
  exact ⟨A1, c1, by rw [told_3 (k := 0) rfl (by omega) (by omega) a b hbl]; exact h0, h1, h2⟩
 ·refine (Sq.read_ok A n c l a b _ w hr hab hb (by omega) hx rfl).mono fun e w' h => ?_
  obtain ⟨A1, c1, h0, h1, h2⟩ := h
  exact ⟨A1, c1, by rw [told_3 (k := 0) rfl (by omega) (by omega) a b hbl]; exact h0, h1, h2⟩
theorem fread (k : Int) (hk : 1 ≤ k) (hk2 : k ≤ 1000) (A : Option Addr) (n c : Nat) (l : List UInt8) (a b : Nat) (w : World) (hr : Rb w w.heap.size A n c l) (hn : n ≤ 90000) (hab : a ≤ b) (hb : b ≤ n) :
  Calls Tryz.prog 56 #[.slice A n c, .int .i64 (a : Int), .int .i64 (b : Int), .int .i64 k] w (RetRw w (rdP (scF 4 k l).1 a b) (told 4 (scF 4 k l).2.1 (scF 4 k l).2.2 a b)) := by
 have hl := hr.len
 have e : ((k.toNat : Nat) : Int) = k := by omega
 have hF : isF 4 k = true := by unfold isF; simp; omega
 have h := Fix.read_ok A n c k.toNat l a b w hr (by omega) (by omega) (by omega) hab hb
 rw [e] at h
 refine h.mono fun e w' h => ?_
 obtain ⟨A1, c1, h0, h1, h2⟩ := h
 rw [← Fix.Fx.all_btw l k.toNat a b (by omega)] at h0 h1
 refine ⟨A1, c1, ?_, h1, h2⟩
 rw [told_ge hF (by omega) a b (by omega), if_pos rfl, h0]
 show _ = Ending.returned (.tuple #[_, .int .i64 ((if l.length / k.toNat * k.toNat < b then 2 else 0 : Nat) : Int)])
 rw [hl]
 rfl
def Nr (B Z : Nat) (w w' : World) (x : Nat) : Prop := B ≤ x ∧ (x < Z ∨ w.heap.size ≤ x) ∧ x < w'.heap.size
def St (B0 B Z : Nat) (w w' : World) : Prop := Z ≤ w'.heap.size ∧ ∀ g, (g < B0 ∨ B ≤ g ∧ g < Z) → w'.heap[g]? = w.heap[g]?
theorem St.cell {B0 B Z : Nat} {w w' : World} (h : St B0 B Z w w') (p : Addr) (hp : p.block < B0 ∨ B ≤ p.block ∧ p.block < Z) : w'.cell? p = w.cell? p := by
 have := h.2 p.block hp
 unfold World.cell?
 rw [this]
theorem St.refl {B0 B : Nat} (w : World) : St B0 B w.heap.size w w := ⟨Nat.le_refl _, fun _ _ => rfl⟩
theorem St.step {B0 B : Nat} {w w' w2 : World} (h : St B0 B w.heap.size w w') (hB : B0 ≤ w.heap.size) (b : Below w'.heap.size w' w2) : St B0 B w.heap.size w w2 :=
 ⟨Nat.le_trans h.1 b.size, fun g hg => (b.block g (by have := h.1; omega)).trans (h.2 g hg)⟩
def RetRn (B Z : Nat) (w : World) (L : List (List (List UInt8))) (h : Nat) (e : Ending) (w' : World) : Prop :=
 ∃ A c, e = .returned (.tuple #[.slice A L.length c, .int .i64 (h : Int)]) ∧ RLS w' (Nr B Z w w') A L.length c L ∧ Below w.heap.size w w'
theorem nr_of {B Z : Nat} {w w0 w' : World} {A : Option Addr} {n c : Nat} {L : List (List (List UInt8))} (h1 : RLS w' (Fr w0.heap.size w') A n c L) (hs : w.heap.size ≤ w0.heap.size) (hB : B ≤ w.heap.size) : RLS w' (Nr B Z w w') A n c L :=
 h1.keep (stays_weak fun b hb => ⟨by have := hb.1; omega, .inr (by have := hb.1; omega), hb.2⟩)
def Rdr (f k : Int) (l : List UInt8) (n B0 B : Nat) (w0 : World) (v : Value) : Prop :=
 ∃ a ca, v = fv a ca ∧ Ent a ∧ ∀ W, St B0 B w0.heap.size w0 W → ∀ x y : Nat, x < y → y ≤ n → Calls Tryz.prog a (#[.agg #[.int .i64 (x : Int), .int .i64 (y : Int), .bool (inF f l (x : Int))]] ++ ca) W (RetRn B w0.heap.size W (rdP (scF f k l).1 x y) (told f (scF f k l).2.1 (scF f k l).2.2 x y))
theorem rd1_c (A : Option Addr) (n c : Nat) (l : List UInt8) (a b B Z : Nat) (W : World) (hr : Rb W W.heap.size A n c l) (hn : n ≤ 90000) (hab : a ≤ b) (hb : b ≤ n) (hx : Sq.Mx W) (hB : B ≤ W.heap.size) (t : Bool) (g : Nat) (hg : W.cell? ⟨g, 2,none⟩ = some (.slice A n c)) :
  Calls Tryz.prog 48 #[.agg #[.int .i64 (a : Int), .int .i64 (b : Int), .bool t], .pointer (some ⟨g, 0,none⟩)] W (RetRn B Z W (rdP (scF 0 0 l).1 a b) (told 0 (scF 0 0 l).2.1 (scF 0 0 l).2.2 a b)) := by
 obtain ⟨w0, hw0⟩ : ∃ w0, w0 = W.alloc (.cells #[.int .i64 (a : Int), .int .i64 (b : Int), .bool t] 64) := ⟨_, rfl⟩
 have b0 : Below W.heap.size W w0 := by rw [hw0]; exact ej _ _
 have x0 : Bx w0 W.heap.size (.int .i64 (a : Int)) (.int .i64 (b : Int)) (.bool t) := by rw [hw0]; exact Bx.made _ _ _ _ _
 have hg0 : w0.cell? ⟨g, 2,none⟩ = some (.slice A n c) := (b0.cell (p := ⟨g, 2,none⟩) (World.block_lt_of_cell? W _ hg)).trans hg
 have R := ek (reads A n c l a b w0 ((hr.below b0).more b0.size) hn hab hb (hx.below' b0)).1
 have W0 := ek hw0; have B0 := ek b0
 obtain ⟨c0, c1, c2, -, -, -, -⟩ := x0
 clear hr hg hx hw0 b0
 go_enter Tryz.func48, Tryz.ntmps48
 go_wp2_with (rw [← W0.out])
 refine R.out.mono ?_
 rintro e w' ⟨A1, c1, rfl, h1, h2⟩
 have H1 := ek (nr_of (Z := Z) h1 B0.out.size hB); have H2 := ek (B0.out.trans (h2.mono B0.out.size))
 clear h1 h2
 go_wp2
 go_ret2
 exact ⟨A1, c1, rfl, H1.out, H2.out⟩
theorem rd2_c (A : Option Addr) (n c : Nat) (l : List UInt8) (a b B Z : Nat) (W : World) (hr : Rb W W.heap.size A n c l) (hn : n ≤ 90000) (hab : a ≤ b) (hb : b ≤ n) (hx : Sq.Mx W) (hB : B ≤ W.heap.size) (g h : Nat) (hg : W.cell? ⟨g, 2,none⟩ = some (.slice A n c)) (hh : W.cell? ⟨h, 0,none⟩ = some (.int .i64 ((scF 1 0 l).2.1 : Int))) :
  Calls Tryz.prog 50 #[.agg #[.int .i64 (a : Int), .int .i64 (b : Int), .bool (inF 1 l (a : Int))], .pointer (some ⟨g, 0,none⟩), .pointer (some ⟨h, 0,none⟩)] W (RetRn B Z W (rdP (scF 1 0 l).1 a b) (told 1 (scF 1 0 l).2.1 (scF 1 0 l).2.2 a b)) := by
 obtain ⟨t, ht⟩ : ∃ t, t = inF 1 l (a : Int) := ⟨_, rfl⟩
 obtain ⟨G, hG⟩ : ∃ G, G = (scF 1 0 l).2.1 := ⟨_, rfl⟩
 obtain ⟨w0, hw0⟩ : ∃ w0, w0 = W.alloc (.cells #[.int .i64 (a : Int), .int .i64 (b : Int), .bool t] 64) := ⟨_, rfl⟩
 have b0 : Below W.heap.size W w0 := by rw [hw0]; exact ej _ _
 have x0 : Bx w0 W.heap.size (.int .i64 (a : Int)) (.int .i64 (b : Int)) (.bool t) := by rw [hw0]; exact Bx.made _ _ _ _ _
 have hg0 : w0.cell? ⟨g, 2,none⟩ = some (.slice A n c) := (b0.cell (p := ⟨g, 2,none⟩) (World.block_lt_of_cell? W _ hg)).trans hg
 have hh0 : w0.cell? ⟨h, 0,none⟩ = some (.int .i64 (G : Int)) := by rw [hG]; exact (b0.cell (p := ⟨h, 0,none⟩) (World.block_lt_of_cell? W _ hh)).trans hh
 have R := (reads A n c l a b w0 ((hr.below b0).more b0.size) hn hab hb (hx.below' b0)).2.1
 rw [← ht, ← hG] at R
 rw [← ht, ← hG]
 have R := ek R
 have W0 := ek hw0; have B0 := ek b0
 obtain ⟨c0, c1, c2, -, -, -, -⟩ := x0
 clear hr hg hh hx hw0 b0 ht hG
 go_enter Tryz.func50, Tryz.ntmps50
 go_wp2_with (rw [← W0.out])
 refine R.out.mono ?_
 rintro e w' ⟨A1, c1, rfl, h1, h2⟩
 have H1 := ek (nr_of (Z := Z) h1 B0.out.size hB); have H2 := ek (B0.out.trans (h2.mono B0.out.size))
 clear h1 h2
 go_wp2
 go_ret2
 exact ⟨A1, c1, rfl, H1.out, H2.out⟩
theorem rd3_c (A : Option Addr) (n c : Nat) (l : List UInt8) (a b B Z : Nat) (W : World) (hr : Rb W W.heap.size A n c l) (hn : n ≤ 90000) (hab : a ≤ b) (hb : b ≤ n) (hx : Sq.Mx W) (hB : B ≤ W.heap.size) (t : Bool) (g h : Nat) (hg : W.cell? ⟨g, 2,none⟩ = some (.slice A n c)) (hh : W.cell? ⟨h, 0,none⟩ = some (.int .i64 ((scF 2 0 l).2.1 : Int))) :
  Calls Tryz.prog 52 #[.agg #[.int .i64 (a : Int), .int .i64 (b : Int), .bool t], .pointer (some ⟨g, 0,none⟩), .pointer (some ⟨h, 0,none⟩)] W (RetRn B Z W (rdP (scF 2 0 l).1 a b) (told 2 (scF 2 0 l).2.1 (scF 2 0 l).2.2 a b)) := by
 obtain ⟨G, hG⟩ : ∃ G, G = (scF 2 0 l).2.1 := ⟨_, rfl⟩
 obtain ⟨w0, hw0⟩ : ∃ w0, w0 = W.alloc (.cells #[.int .i64 (a : Int), .int .i64 (b : Int), .bool t] 64) := ⟨_, rfl⟩
 have b0 : Below W.heap.size W w0 := by rw [hw0]; exact ej _ _
 have x0 : Bx w0 W.heap.size (.int .i64 (a : Int)) (.int .i64 (b : Int)) (.bool t) := by rw [hw0]; exact Bx.made _ _ _ _ _
 have hg0 : w0.cell? ⟨g, 2,none⟩ = some (.slice A n c) := (b0.cell (p := ⟨g, 2,none⟩) (World.block_lt_of_cell? W _ hg)).trans hg
 have hh0 : w0.cell? ⟨h, 0,none⟩ = some (.int .i64 (G : Int)) := by rw [hG]; exact (b0.cell (p := ⟨h, 0,none⟩) (World.block_lt_of_cell? W _ hh)).trans hh
 have R := (reads A n c l a b w0 ((hr.below b0).more b0.size) hn hab hb (hx.below' b0)).2.2
 rw [← hG] at R
 rw [← hG]
 have R := ek R
 have W0 := ek hw0; have B0 := ek b0
 obtain ⟨c0, c1, c2, -, -, -, -⟩ := x0
 clear hr hg hh hx hw0 b0 hG
 go_enter Tryz.func52, Tryz.ntmps52
 go_wp2_with (rw [← W0.out])
 refine R.out.mono ?_
 rintro e w' ⟨A1, c1, rfl, h1, h2⟩
 have H1 := ek (nr_of (Z := Z) h1 B0.out.size hB); have H2 := ek (B0.out.trans (h2.mono B0.out.size))
 clear h1 h2
 go_wp2
 go_ret2
 exact ⟨A1, c1, rfl, H1.out, H2.out⟩
theorem rd4_c (A : Option Addr) (n c : Nat) (l : List UInt8) (a b B Z : Nat) (W : World) (hr : Rb W W.heap.size A n c l) (hn : n ≤ 90000) (hab : a ≤ b) (hb : b ≤ n) (hB : B ≤ W.heap.size) (k : Int) (hk : 1 ≤ k) (hk2 : k ≤ 1000) (t : Bool) (g : Nat) (hg1 : W.cell? ⟨g, 1,none⟩ = some (.int .i64 k)) (hg : W.cell? ⟨g, 2,none⟩ = some (.slice A n c)) :
  Calls Tryz.prog 55 #[.agg #[.int .i64 (a : Int), .int .i64 (b : Int), .bool t], .pointer (some ⟨g, 0,none⟩)] W (RetRn B Z W (rdP (scF 4 k l).1 a b) (told 4 (scF 4 k l).2.1 (scF 4 k l).2.2 a b)) := by
 obtain ⟨w0, hw0⟩ : ∃ w0, w0 = W.alloc (.cells #[.int .i64 (a : Int), .int .i64 (b : Int), .bool t] 64) := ⟨_, rfl⟩
 have b0 : Below W.heap.size W w0 := by rw [hw0]; exact ej _ _
 have x0 : Bx w0 W.heap.size (.int .i64 (a : Int)) (.int .i64 (b : Int)) (.bool t) := by rw [hw0]; exact Bx.made _ _ _ _ _
 have hg0 : w0.cell? ⟨g, 2,none⟩ = some (.slice A n c) := (b0.cell (p := ⟨g, 2,none⟩) (World.block_lt_of_cell? W _ hg)).trans hg
 have hg10 : w0.cell? ⟨g, 1,none⟩ = some (.int .i64 k) := (b0.cell (p := ⟨g, 1,none⟩) (World.block_lt_of_cell? W _ hg1)).trans hg1
 have R := ek (fread k hk hk2 A n c l a b w0 ((hr.below b0).more b0.size) hn hab hb)
 have W0 := ek hw0; have B0 := ek b0
 obtain ⟨c0, c1, c2, -, -, -, -⟩ := x0
 clear hr hg hg1 hw0 b0
 go_enter Tryz.func55, Tryz.ntmps55
 go_wp2_with (rw [← W0.out])
 refine R.out.mono ?_
 rintro e w' ⟨A1, c1, rfl, h1, h2⟩
 have H1 := ek (nr_of (Z := Z) h1 B0.out.size hB); have H2 := ek (B0.out.trans (h2.mono B0.out.size))
 clear h1 h2
 go_wp2
 go_ret2
 exact ⟨A1, c1, rfl, H1.out, H2.out⟩
theorem collectN_c (A : Option Addr) (n c : Nat) (P : List (Nat × List (List (List UInt8)))) (B Z : Nat) (W w : World) (hW : W.heap.size ≤ w.heap.size) (hB : B ≤ W.heap.size) (hp : PLS w (fun x => B ≤ x ∧ x < Z) A n c P) (hZ : Z ≤ w.heap.size) (hn : n ≤ 1000000) (hall : (Tm.all P).length ≤ 50000000) :
  Calls Tryz.prog 37 #[.slice A n c, .func (.func 38) #[] #[]] w fun e w' =>
   ∃ A' c', e = .returned (.slice A' (Tm.all P).length c') ∧ RLS w' (Nr B Z W w') A' (Tm.all P).length c' (Tm.all P) ∧ Below w.heap.size w w' :=
 (collectP_c A n c P _ w hp (fun x hx => Nat.lt_of_lt_of_le hx.2 hZ) hn hall).mono fun e w' ⟨A', c', vs, h0, h1, h2, h3⟩ =>
  ⟨A', c', h0, ⟨vs, h1.rcS.keep (stays_weak fun b hb => ⟨by have := hb.1; omega, .inr (by have := hb.1; omega), hb.2⟩), h2.keep (stays_weak fun b hb => ⟨hb.1, .inl hb.2, by have := h3.size; have := hb.2; omega⟩)⟩, h3⟩
theorem rdP_fin {f k : Int} (hF : isF f k = true) {l : List UInt8} (hl : l.length ≤ 90000) (a b : Nat) : (Tm.all (Tm.btw a b (scF f k l).1)).length ≤ 50000000 ∧ (Tm.btw a b (scF f k l).1).length ≤ 1000000 :=
 ⟨Nat.le_trans (Tm.btw_len a b _) (all_F hF hl), Nat.le_trans (List.length_filter_le _ _) (pcs_few hF hl)⟩
theorem chest1_c (A : Option Addr) (n c : Nat) (l : List UInt8) (a b B Z : Nat) (t : Bool) (W : World) (g h : Nat) (hl : l.length ≤ 90000) (hg : W.cell? ⟨g, 0,none⟩ = some (.slice A n c)) (hh : W.cell? ⟨h, 0,none⟩ = some (.int .i64 ((scF 3 0 l).2.1 : Int)))
  (hp : PLS W (fun x => B ≤ x ∧ x < Z) A n c (scF 3 0 l).1) (hZ : Z ≤ W.heap.size) (hB : B ≤ W.heap.size) (hab : a ≤ b) (hb : b ≤ l.length) :
  Calls Tryz.prog 77 #[.agg #[.int .i64 (a : Int), .int .i64 (b : Int), .bool t], .pointer (some ⟨g, 0,none⟩), .pointer (some ⟨h, 0,none⟩)] W (RetRn B Z W (rdP (scF 3 0 l).1 a b) (told 3 (scF 3 0 l).2.1 (scF 3 0 l).2.2 a b)) := by
 have hpl := hp.len
 have hfew := pcs_few (f := 3) (k := 0) rfl hl
 obtain ⟨hfin, hfin2⟩ := rdP_fin (f := 3) (k := 0) rfl hl a b
 have hasc := asc_F (f := 3) (k := 0) rfl l
 have htold := told_3 (f := 3) (k := 0) rfl (l := l) (by omega) (by omega) a b hb
 obtain ⟨P, hP⟩ : ∃ P, P = (scF 3 0 l).1 := ⟨_, rfl⟩
 obtain ⟨G, hG⟩ : ∃ G, G = (scF 3 0 l).2.1 := ⟨_, rfl⟩
 obtain ⟨U, hU⟩ : ∃ U, U = told 3 (scF 3 0 l).2.1 (scF 3 0 l).2.2 a b := ⟨_, rfl⟩
 rw [← hU, ← hG] at htold
 rw [← hP] at hp hpl hfew hasc hfin hfin2 ⊢
 rw [← hG] at hh
 rw [← hU]
 obtain ⟨Q, hQ⟩ : ∃ Q, Q = Tm.btw a b P := ⟨_, rfl⟩
 have hR : rdP P a b = Tm.all Q := by rw [hQ]; rfl
 rw [← hQ] at hfin hfin2
 rw [hR]
 obtain ⟨w0, hw0⟩ : ∃ w0, w0 = W.alloc (.cells #[.int .i64 (a : Int), .int .i64 (b : Int), .bool t] 64) := ⟨_, rfl⟩
 have b0 : Below W.heap.size W w0 := by rw [hw0]; exact ej _ _
 have x0 : Bx w0 W.heap.size (.int .i64 (a : Int)) (.int .i64 (b : Int)) (.bool t) := by rw [hw0]; exact Bx.made _ _ _ _ _
 have hg0 : w0.cell? ⟨g, 0,none⟩ = some (.slice A n c) := (b0.cell (p := ⟨g, 0,none⟩) (World.block_lt_of_cell? W _ hg)).trans hg
 have hst : Stays W w0 (fun x => B ≤ x ∧ x < Z) (fun x => B ≤ x ∧ x < Z) := ⟨fun _ h => h, fun p hp => b0.cell (p := p) (by have := hp.2; omega)⟩
 have Hw := within_c A n c l.length a b t P _ w0 (hp.keep hst) (fun x hx => by have := hx.2; have := b0.size; omega) (by omega) hasc hab
 rw [← hQ] at Hw
 have Hw := ek Hw
 have W0 := ek hw0; have B0 := ek b0; have X0 := ek x0; have Hh := ek hh; have Ht := ek htold; have Hfin := ek hfin; have Hfin2 := ek hfin2
 have hlx := x0.lt
 have hhb := World.block_lt_of_cell? W _ hh
 have hhb : h < W.heap.size := hhb
 obtain ⟨c0, c1, c2, -, -, -, -⟩ := x0
 clear hp hpl hfew hasc hfin hfin2 htold hh hg hst hw0 b0 hP hG hU hQ hR
 go_enter Tryz.func77, Tryz.ntmps77
 go_wp2_with (rw [← W0.out])
 refine Hw.out.mono ?_
 rintro e w1 ⟨D, d, rfl, h1, b1⟩
 have z0 := B0.out.size
 have z1 := b1.size
 have Hc := ek (collectN_c D Q.length d Q B Z W w1 (by omega) hB h1 (by omega) Hfin2.out Hfin.out)
 have X1 := ek (X0.out.below b1 hlx); have B1 := ek (B0.out.trans (b1.mono z0))
 clear h1 b1 c0 c1 c2 hg0
 go_wp2_with fail
 refine Hc.out.mono ?_
 rintro e w2 ⟨E, kd, rfl, h2, b2⟩
 have B2 := ek (B1.out.trans (b2.mono (by omega)))
 have H2 := ek h2
 obtain ⟨c0, c1, c2, -, -, -, -⟩ := X1.out.below b2 X1.out.lt
 have hh2 : w2.cell? ⟨h, 0,none⟩ = some (.int .i64 (G : Int)) := (B2.out.cell (p := ⟨h, 0,none⟩) hhb).trans Hh.out
 clear h2 b2
 by_cases hGb : G < b
 ·have d1 : decide ((G : Int) < (b : Int)) = true := by simpa using hGb
  have d2 : decide (G < b) = true := by simpa using hGb
  have hU3 : (U : Int) = 3 := by rw [Ht.out, if_pos hGb]
  obtain rfl : U = 3 := by omega
  clear hU3 Ht hGb
  go_wp2
  go_ret2
  exact ⟨E, kd, rfl, H2.out, B2.out⟩
 ·have d1 : decide ((G : Int) < (b : Int)) = false := by simpa using hGb
  have d2 : decide (G < b) = false := by simpa using hGb
  have hU3 : (U : Int) = 0 := by rw [Ht.out, if_neg hGb]
  obtain rfl : U = 0 := by omega
  clear hU3 Ht hGb
  go_wp2
  go_ret2
  exact ⟨E, kd, rfl, H2.out, B2.out⟩
theorem bundle1_c (A : Option Addr) (n c : Nat) (l : List UInt8) (a b B Z : Nat) (t : Bool) (W : World) (g h : Nat) (hl : l.length ≤ 90000) (hg : W.cell? ⟨g, 0,none⟩ = some (.slice A n c)) (hh : W.cell? ⟨h, 0,none⟩ = some (.int .i64 ((scF 5 0 l).2.2 : Int)))
  (hp : PLS W (fun x => B ≤ x ∧ x < Z) A n c (scF 5 0 l).1) (hZ : Z ≤ W.heap.size) (hB : B ≤ W.heap.size) (hab : a ≤ b) :
  Calls Tryz.prog 84 #[.agg #[.int .i64 (a : Int), .int .i64 (b : Int), .bool t], .pointer (some ⟨g, 0,none⟩), .pointer (some ⟨h, 0,none⟩)] W (RetRn B Z W (rdP (scF 5 0 l).1 a b) (told 5 (scF 5 0 l).2.1 (scF 5 0 l).2.2 a b)) := by
 have hpl := hp.len
 have hfew := pcs_few (f := 5) (k := 0) rfl hl
 obtain ⟨hfin, hfin2⟩ := rdP_fin (f := 5) (k := 0) rfl hl a b
 have hasc := asc_F (f := 5) (k := 0) rfl l
 have htold : told 5 (scF 5 0 l).2.1 (scF 5 0 l).2.2 a b = if 0 < a then 0 else (scF 5 0 l).2.2 := by
  unfold told
  rw [if_pos rfl, bun_ef]
  rfl
 obtain ⟨P, hP⟩ : ∃ P, P = (scF 5 0 l).1 := ⟨_, rfl⟩
 obtain ⟨G, hG⟩ : ∃ G, G = (scF 5 0 l).2.2 := ⟨_, rfl⟩
 obtain ⟨U, hU⟩ : ∃ U, U = told 5 (scF 5 0 l).2.1 (scF 5 0 l).2.2 a b := ⟨_, rfl⟩
 rw [← hU, ← hG] at htold
 rw [← hP] at hp hpl hfew hasc hfin hfin2 ⊢
 rw [← hG] at hh
 rw [← hU]
 obtain ⟨Q, hQ⟩ : ∃ Q, Q = Tm.btw a b P := ⟨_, rfl⟩
 have hR : rdP P a b = Tm.all Q := by rw [hQ]; rfl
 rw [← hQ] at hfin hfin2
 rw [hR]
 obtain ⟨w0, hw0⟩ : ∃ w0, w0 = W.alloc (.cells #[.int .i64 (a : Int), .int .i64 (b : Int), .bool t] 64) := ⟨_, rfl⟩
 have b0 : Below W.heap.size W w0 := by rw [hw0]; exact ej _ _
 have x0 : Bx w0 W.heap.size (.int .i64 (a : Int)) (.int .i64 (b : Int)) (.bool t) := by rw [hw0]; exact Bx.made _ _ _ _ _
 have hg0 : w0.cell? ⟨g, 0,none⟩ = some (.slice A n c) := (b0.cell (p := ⟨g, 0,none⟩) (World.block_lt_of_cell? W _ hg)).trans hg
 have hst : Stays W w0 (fun x => B ≤ x ∧ x < Z) (fun x => B ≤ x ∧ x < Z) := ⟨fun _ h => h, fun p hp => b0.cell (p := p) (by have := hp.2; omega)⟩
 have Hw := within_c A n c l.length a b t P _ w0 (hp.keep hst) (fun x hx => by have := hx.2; have := b0.size; omega) (by omega) hasc hab
 rw [← hQ] at Hw
 have Hw := ek Hw
 have W0 := ek hw0; have B0 := ek b0; have X0 := ek x0; have Hh := ek hh; have Ht := ek htold; have Hfin := ek hfin; have Hfin2 := ek hfin2
 have hlx := x0.lt
 have hhb := World.block_lt_of_cell? W _ hh
 have hhb : h < W.heap.size := hhb
 obtain ⟨c0, c1, c2, -, -, -, -⟩ := x0
 clear hp hpl hfew hasc hfin hfin2 htold hh hg hst hw0 b0 hP hG hU hQ hR
 go_enter Tryz.func84, Tryz.ntmps84
 go_wp2_with (rw [← W0.out])
 refine Hw.out.mono ?_
 rintro e w1 ⟨D, d, rfl, h1, b1⟩
 have z0 := B0.out.size
 have z1 := b1.size
 have Hc := ek (collectN_c D Q.length d Q B Z W w1 (by omega) hB h1 (by omega) Hfin2.out Hfin.out)
 have X1 := ek (X0.out.below b1 hlx); have B1 := ek (B0.out.trans (b1.mono z0))
 clear h1 b1 c0 c1 c2 hg0
 go_wp2_with fail
 refine Hc.out.mono ?_
 rintro e w2 ⟨E, kd, rfl, h2, b2⟩
 have B2 := ek (B1.out.trans (b2.mono (by omega)))
 have H2 := ek h2
 obtain ⟨c0, c1, c2, -, -, -, -⟩ := X1.out.below b2 X1.out.lt
 have hh2 : w2.cell? ⟨h, 0,none⟩ = some (.int .i64 (G : Int)) := (B2.out.cell (p := ⟨h, 0,none⟩) hhb).trans Hh.out
 clear h2 b2
 by_cases ha : 0 < a
 ·have d1 : decide ((0 : Int) < (a : Int)) = true := by simpa using ha
  have d2 : decide (0 < a) = true := by simpa using ha
  obtain rfl : U = 0 := by rw [Ht.out, if_pos ha]
  clear Ht ha
  go_wp2
  go_ret2
  exact ⟨E, kd, rfl, H2.out, B2.out⟩
 ·have d1 : decide ((0 : Int) < (a : Int)) = false := by simpa using ha
  have d2 : decide (0 < a) = false := by simpa using ha
  obtain rfl : U = G := by rw [Ht.out, if_neg ha]
  clear Ht ha
  go_wp2_with fail
  go_quiet (fail)
  go_wp2
  go_ret2
  exact ⟨E, kd, rfl, RLS.keep H2.out ⟨fun _ h => h, fun _ _ => rfl⟩, below_drewN B2.out _⟩
theorem St.rb {B0 B Z : Nat} {w w' : World} {A : Option Addr} {n c : Nat} {l : List UInt8} (h : St B0 B Z w w') (hr : Rb w B0 A n c l) (hB : B0 ≤ w'.heap.size) : Rb w' w'.heap.size A n c l := (hr.keep fun p hp => h.cell p (.inl hp)).more hB
theorem St.mx {B0 B Z : Nat} {w w' : World} (h : St B0 B Z w w') (hx : Sq.Mx w) (hB : 0 < B0) (hs : 0 < w'.heap.size) : Sq.Mx w' := by
 obtain ⟨⟨m, hm⟩, _⟩ := hx
 exact ⟨⟨m, (h.cell ⟨0, 0,none⟩ (.inl hB)).trans hm⟩, hs⟩
theorem chestReader_c (A : Option Addr) (n c : Nat) (l : List UInt8) (G : Int) (w : World) (hr : Rb w w.heap.size A n c l) (hn : n ≤ 90000) :
  Calls Tryz.prog 54 #[.slice A n c, .int .i64 G] w fun e w' => ∃ (g h : Nat) (A1 : Option Addr) (c1 : Nat), e = .returned (fv 77 #[.pointer (some ⟨g, 0,none⟩), .pointer (some ⟨h, 0,none⟩)]) ∧
   w'.cell? ⟨g, 0,none⟩ = some (.slice A1 (scF 3 0 l).1.length c1) ∧ w'.cell? ⟨h, 0,none⟩ = some (.int .i64 G) ∧ w.heap.size ≤ g ∧ w.heap.size ≤ h ∧ PLS w' (Fr w.heap.size w') A1 (scF 3 0 l).1.length c1 (scF 3 0 l).1 ∧ Below w.heap.size w w' := by
 obtain ⟨w0, hw0⟩ : ∃ w0, w0 = w.alloc (.cells #[.int .i64 G] 3) := ⟨_, rfl⟩
 have b0 : Below w.heap.size w w0 := by rw [hw0]; exact ej _ _
 have z0 : w0.heap.size = w.heap.size + 1 := by rw [hw0]; simp
 have k0 : w0.cell? ⟨w.heap.size, 0,none⟩ = some (.int .i64 G) := by rw [hw0]; simp
 have hc := Cht.scan_c A n c l w0 ((hr.below b0).more b0.size) (by omega)
 unfold Cht.RetSc at hc
 obtain ⟨P, hP⟩ : ∃ P, P = (Cht.Hm.scS l).1 := ⟨_, rfl⟩
 have hP2 : (scF 3 0 l).1 = P := by rw [hP]; rfl
 rw [hP2]
 rw [← hP] at hc
 have Hc := ek hc
 have W0 := ek hw0; have B0 := ek b0; have K0 := ek k0; have Z0 := ek z0
 clear hr hc hw0 b0 z0 k0 hP hP2
 go_enter Tryz.func54, Tryz.ntmps54
 go_wp2_with (rw [← W0.out])
 refine Hc.out.mono ?_
 rintro e w1 ⟨A1, c1, rfl, h1, b1⟩
 have z1 := b1.size
 obtain ⟨w2, hw2⟩ : ∃ w2, w2 = w1.alloc (.cells #[.slice A1 P.length c1] 67) := ⟨_, rfl⟩
 have b2 : Below w1.heap.size w1 w2 := by rw [hw2]; exact ej _ _
 have k2 : w2.cell? ⟨w1.heap.size, 0,none⟩ = some (.slice A1 P.length c1) := by rw [hw2]; simp
 have hf : PLS w2 (Fr w.heap.size w2) A1 P.length c1 P := h1.keep ⟨fun b hb => ⟨by have := hb.1; have := B0.out.size; omega, by have := hb.2; have := b2.size; omega⟩, fun p hp => b2.cell (p := p) hp.2⟩
 have hk : w2.cell? ⟨w.heap.size, 0,none⟩ = some (.int .i64 G) := (b2.cell (p := ⟨w.heap.size, 0,none⟩) (by show w.heap.size < _; have := Z0.out; omega)).trans ((b1.cell (p := ⟨w.heap.size, 0,none⟩) (by show w.heap.size < _; have := Z0.out; omega)).trans K0.out)
 have bb := B0.out.trans ((b1.trans (b2.mono z1)).mono B0.out.size)
 have Hf := ek hf; have K2 := ek k2; have Hk := ek hk; have BB := ek bb; have W2 := ek hw2
 have hz := B0.out.size
 clear h1 b1 b2 k2 hf hk bb hw2
 go_wp2
 rw [← W2.out]
 go_ret
 exact ⟨w1.heap.size, w.heap.size, A1, c1, rfl, K2.out, Hk.out, by omega, Nat.le_refl _, Hf.out, BB.out⟩
theorem bundleReader_c (A : Option Addr) (n c : Nat) (l : List UInt8) (w : World) (hr : Rb w w.heap.size A n c l) (hn : n ≤ 90000) :
  Calls Tryz.prog 57 #[.slice A n c] w fun e w' => ∃ (g h : Nat) (A1 : Option Addr) (c1 : Nat), e = .returned (fv 84 #[.pointer (some ⟨g, 0,none⟩), .pointer (some ⟨h, 0,none⟩)]) ∧
   w'.cell? ⟨g, 0,none⟩ = some (.slice A1 (scF 5 0 l).1.length c1) ∧ w'.cell? ⟨h, 0,none⟩ = some (.int .i64 ((scF 5 0 l).2.2 : Int)) ∧ w.heap.size ≤ g ∧ w.heap.size ≤ h ∧ PLS w' (Fr w.heap.size w') A1 (scF 5 0 l).1.length c1 (scF 5 0 l).1 ∧ Below w.heap.size w w' := by
 have hc := Bun.scan_c A n c l w hr (by omega)
 unfold Bun.RetSc at hc
 obtain ⟨P, hP⟩ : ∃ P, P = (Bun.Bm.scS l).1 := ⟨_, rfl⟩
 have hP2 : (scF 5 0 l).1 = P := by rw [hP]; rfl
 obtain ⟨X, hX⟩ : ∃ X, X = (Bun.Bm.scS l).2.2 := ⟨_, rfl⟩
 have hX2 : (scF 5 0 l).2.2 = X := by rw [hX]; rfl
 rw [hP2, hX2]
 rw [← hP, ← hX] at hc
 have Hc := ek hc
 clear hr hc hP hP2 hX hX2
 go_enter Tryz.func57, Tryz.ntmps57
 go_wp2_with fail
 refine Hc.out.mono ?_
 rintro e w1 ⟨A1, c1, rfl, h1, b1⟩
 have z1 := b1.size
 obtain ⟨w2, hw2⟩ : ∃ w2, w2 = w1.alloc (.cells #[.slice A1 P.length c1] 67) := ⟨_, rfl⟩
 have b2 : Below w1.heap.size w1 w2 := by rw [hw2]; exact ej _ _
 have z2 : w2.heap.size = w1.heap.size + 1 := by rw [hw2]; simp
 have k2 : w2.cell? ⟨w1.heap.size, 0,none⟩ = some (.slice A1 P.length c1) := by rw [hw2]; simp
 obtain ⟨w3, hw3⟩ : ∃ w3, w3 = w2.alloc (.cells #[.int .i64 (X : Int)] 31) := ⟨_, rfl⟩
 have b3 : Below w2.heap.size w2 w3 := by rw [hw3]; exact ej _ _
 have k3 : w3.cell? ⟨w2.heap.size, 0,none⟩ = some (.int .i64 (X : Int)) := by rw [hw3]; simp
 have k23 : w3.cell? ⟨w1.heap.size, 0,none⟩ = some (.slice A1 P.length c1) := (b3.cell (p := ⟨w1.heap.size, 0,none⟩) (by show w1.heap.size < _; omega)).trans k2
 have b13 := b2.trans (b3.mono b2.size)
 have hf : PLS w3 (Fr w.heap.size w3) A1 P.length c1 P := h1.keep ⟨fun b hb => ⟨hb.1, by have := hb.2; have := b13.size; omega⟩, fun p hp => b13.cell (p := p) hp.2⟩
 have bb := b1.trans (b13.mono z1)
 rw [z2] at k3
 have Hf := ek hf; have K2 := ek k23; have K3 := ek k3; have BB := ek bb; have W2 := ek hw2; have W3 := ek hw3
 clear h1 b1 b2 b3 k2 k3 k23 z2 hf bb b13 hw2 hw3
 go_wp2
 rw [← W2.out, ← W3.out]
 go_ret
 exact ⟨w1.heap.size, w1.heap.size + 1, A1, c1, rfl, K2.out, K3.out, z1, by omega, Hf.out, BB.out⟩
theorem isF_cases {f k : Int} (hF : isF f k = true) : (f = 0 ∧ k = 0) ∨ (f = 1 ∧ k = 0) ∨ (f = 2 ∧ k = 0) ∨ (f = 3 ∧ k = 0) ∨ (f = 4 ∧ 1 ≤ k ∧ k ≤ 1000) ∨ (f = 5 ∧ k = 0) := by
 unfold isF at hF
 split at hF
 ·simp only [Bool.and_eq_true, decide_eq_true_eq] at hF
  omega
 ·unfold isU at hF
  simp only [Bool.and_eq_true, decide_eq_true_eq, beq_iff_eq] at hF
  omega
theorem readerOf_c (f k : Int) (A : Option Addr) (n c : Nat) (l : List UInt8) (B0 : Nat) (w : World) (hr : Rb w B0 A n c l) (hB : B0 ≤ w.heap.size) (hB0 : 0 < B0) (hn : n ≤ 90000) (hF : isF f k = true) (hx : Sq.Mx w) :
  Calls Tryz.prog 27 #[flv f k A n c, .int .i64 ((scF f k l).2.1 : Int)] w fun e w' => ∃ v, e = .returned v ∧ Rdr f k l n B0 w.heap.size w' v ∧ Below w.heap.size w w' := by
 have hl := hr.len
 obtain ⟨w0, hw0⟩ : ∃ w0, w0 = w.alloc (.cells #[.int .i64 f, .int .i64 k, .slice A n c] 24) := ⟨_, rfl⟩
 have z0 : w0.heap.size = w.heap.size + 1 := by rw [hw0]; simp
 have b0 : Below w.heap.size w w0 := by rw [hw0]; exact ej _ _
 have x0 : Bx w0 w.heap.size (.int .i64 f) (.int .i64 k) (.slice A n c) := by rw [hw0]; exact Bx.made _ _ _ _ _
 obtain ⟨G, hG⟩ : ∃ G, G = (scF f k l).2.1 := ⟨_, rfl⟩
 obtain ⟨w1, hw1⟩ : ∃ w1, w1 = w0.alloc (.cells #[.int .i64 (G : Int)] 3) := ⟨_, rfl⟩
 have z1 : w1.heap.size = w.heap.size + 2 := by rw [hw1]; simp [z0]
 have b01 : Below w0.heap.size w0 w1 := by rw [hw1]; exact ej _ _
 have k1 : w1.cell? ⟨w.heap.size + 1, 0,none⟩ = some (.int .i64 (G : Int)) := by rw [hw1, ← z0]; simp
 have x1 := x0.below b01 x0.lt
 have b1 := b0.trans (b01.mono (by omega))
 have hrW : ∀ W Z, St B0 w.heap.size Z w1 W → w1.heap.size ≤ Z → Rb W W.heap.size A n c l := fun W Z h hz => St.rb h ((hr.keep fun p hp => b1.cell (p := p) (by omega))) (by have := h.1; omega)
 have hxW : ∀ W Z, St B0 w.heap.size Z w1 W → w1.heap.size ≤ Z → Sq.Mx W := fun W Z h hz => St.mx h (hx.below' b1) hB0 (by have := h.1; omega)
 have hr1 : Rb w1 w1.heap.size A n c l := (hr.keep fun p hp => b1.cell (p := p) (by omega)).more (by omega)
 rw [← hG]
 have W0 := ek hw0; have W1 := ek hw1; have X1 := ek x1; have K1 := ek k1; have B1 := ek b1; have HrW := ek hrW; have HxW := ek hxW; have Z0 := ek z0; have HG := ek hG; have Hr1 := ek hr1
 obtain ⟨c0, c1, c2, -, -, -, hlt⟩ := x1
 clear hr hw0 z0 b0 x0 hG hw1 b01 b1 hrW hxW hr1 hx
 rcases isF_cases hF with ⟨rfl,rfl⟩ | ⟨rfl,rfl⟩ | ⟨rfl,rfl⟩ | ⟨rfl,rfl⟩ | ⟨rfl, hk1, hk2⟩ | ⟨rfl,rfl⟩
 ·go_enter Tryz.func27, Tryz.ntmps27
  go_wp2_with (first | rw [← W0.out, ← W1.out, Z0.out] | rw [← W0.out, ← W1.out])
  go_ret
  refine ⟨_, rfl, ⟨_, _, rfl, ent_of Tryz.func48 (by kernel_rfl) rfl, fun W h x y hxy hy => ?_⟩, B1.out⟩
  exact rd1_c A n c l x y w.heap.size w1.heap.size W (HrW.out W _ h (Nat.le_refl _)) hn (Nat.le_of_lt hxy) hy (HxW.out W _ h (Nat.le_refl _)) (by have := h.1; omega) _ w.heap.size ((h.cell ⟨w.heap.size, 2,none⟩ (.inr ⟨Nat.le_refl _, hlt⟩)).trans X1.out.c2)
 ·go_enter Tryz.func27, Tryz.ntmps27
  go_wp2_with (first | rw [← W0.out, ← W1.out, Z0.out] | rw [← W0.out, ← W1.out])
  go_ret
  refine ⟨_, rfl, ⟨_, _, rfl, ent_of Tryz.func50 (by kernel_rfl) rfl, fun W h x y hxy hy => ?_⟩, B1.out⟩
  exact rd2_c A n c l x y w.heap.size w1.heap.size W (HrW.out W _ h (Nat.le_refl _)) hn (Nat.le_of_lt hxy) hy (HxW.out W _ h (Nat.le_refl _)) (by have := h.1; omega) w.heap.size (w.heap.size + 1) ((h.cell ⟨w.heap.size, 2,none⟩ (.inr ⟨Nat.le_refl _, hlt⟩)).trans X1.out.c2) (by rw [← HG.out]; exact (h.cell ⟨w.heap.size + 1, 0,none⟩ (.inr ⟨by show _ ≤ w.heap.size + 1; omega, by show w.heap.size + 1 < _; omega⟩)).trans K1.out)
 ·go_enter Tryz.func27, Tryz.ntmps27
  go_wp2_with (first | rw [← W0.out, ← W1.out, Z0.out] | rw [← W0.out, ← W1.out])
  go_ret
  refine ⟨_, rfl, ⟨_, _, rfl, ent_of Tryz.func52 (by kernel_rfl) rfl, fun W h x y hxy hy => ?_⟩, B1.out⟩
  exact rd3_c A n c l x y w.heap.size w1.heap.size W (HrW.out W _ h (Nat.le_refl _)) hn (Nat.le_of_lt hxy) hy (HxW.out W _ h (Nat.le_refl _)) (by have := h.1; omega) _ w.heap.size (w.heap.size + 1) ((h.cell ⟨w.heap.size, 2,none⟩ (.inr ⟨Nat.le_refl _, hlt⟩)).trans X1.out.c2) (by rw [← HG.out]; exact (h.cell ⟨w.heap.size + 1, 0,none⟩ (.inr ⟨by show _ ≤ w.heap.size + 1; omega, by show w.heap.size + 1 < _; omega⟩)).trans K1.out)
 ·have Hc := ek (chestReader_c A n c l (G : Int) w1 Hr1.out hn)
  go_enter Tryz.func27, Tryz.ntmps27
  go_wp2_with (first | rw [← W0.out, ← W1.out, Z0.out] | rw [← W0.out, ← W1.out])
  refine Hc.out.mono ?_
  rintro e w2 ⟨g, h, A1, c1', rfl, g1, g2, g3, g4, g5, b2⟩
  have B2 := ek (B1.out.trans (b2.mono (by omega)))
  have G5 := ek g5; have G1 := ek g1; have G2 := ek g2
  have hz2 := b2.size
  have hgl : g < w2.heap.size := World.block_lt_of_cell? w2 _ g1
  have hhl : h < w2.heap.size := World.block_lt_of_cell? w2 _ g2
  clear g5 g1 g2 b2
  go_wp2
  go_ret
  refine ⟨_, rfl, ⟨_, _, rfl, ent_of Tryz.func77 (by kernel_rfl) rfl, fun W hS x y hxy hy => ?_⟩, B2.out⟩
  refine chest1_c A1 _ c1' l x y w.heap.size w2.heap.size _ W g h (by omega) ((hS.cell ⟨g, 0,none⟩ (.inr ⟨by show _ ≤ g; omega, hgl⟩)).trans G1.out) (by rw [← HG.out]; exact (hS.cell ⟨h, 0,none⟩ (.inr ⟨by show _ ≤ h; omega, hhl⟩)).trans G2.out) (G5.out.keep ⟨fun b hb => ⟨by have := hb.1; omega, hb.2⟩, fun p hp => hS.cell p (.inr ⟨by have := hp.1; omega, hp.2⟩)⟩) hS.1 (by have := hS.1; omega) (Nat.le_of_lt hxy) (by omega)
 ·go_enter Tryz.func27, Tryz.ntmps27
  go_wp2_with (first | rw [← W0.out, ← W1.out, Z0.out] | rw [← W0.out, ← W1.out])
  go_ret
  refine ⟨_, rfl, ⟨_, _, rfl, ent_of Tryz.func55 (by kernel_rfl) rfl, fun W h x y hxy hy => ?_⟩, B1.out⟩
  exact rd4_c A n c l x y w.heap.size w1.heap.size W (HrW.out W _ h (Nat.le_refl _)) hn (Nat.le_of_lt hxy) hy (by have := h.1; omega) k hk1 hk2 _ w.heap.size ((h.cell ⟨w.heap.size, 1,none⟩ (.inr ⟨Nat.le_refl _, hlt⟩)).trans X1.out.c1) ((h.cell ⟨w.heap.size, 2,none⟩ (.inr ⟨Nat.le_refl _, hlt⟩)).trans X1.out.c2)
 ·have Hc := ek (bundleReader_c A n c l w1 Hr1.out hn)
  go_enter Tryz.func27, Tryz.ntmps27
  go_wp2_with (first | rw [← W0.out, ← W1.out, Z0.out] | rw [← W0.out, ← W1.out])
  refine Hc.out.mono ?_
  rintro e w2 ⟨g, h, A1, c1', rfl, g1, g2, g3, g4, g5, b2⟩
  have B2 := ek (B1.out.trans (b2.mono (by omega)))
  have G5 := ek g5; have G1 := ek g1; have G2 := ek g2
  have hz2 := b2.size
  have hgl : g < w2.heap.size := World.block_lt_of_cell? w2 _ g1
  have hhl : h < w2.heap.size := World.block_lt_of_cell? w2 _ g2
  clear g5 g1 g2 b2
  go_wp2
  go_ret
  refine ⟨_, rfl, ⟨_, _, rfl, ent_of Tryz.func84 (by kernel_rfl) rfl, fun W hS x y hxy hy => ?_⟩, B2.out⟩
  refine bundle1_c A1 _ c1' l x y w.heap.size w2.heap.size _ W g h (by omega) ((hS.cell ⟨g, 0,none⟩ (.inr ⟨by show _ ≤ g; omega, hgl⟩)).trans G1.out) ((hS.cell ⟨h, 0,none⟩ (.inr ⟨by show _ ≤ h; omega, hhl⟩)).trans G2.out) (G5.out.keep ⟨fun b hb => ⟨by have := hb.1; omega, hb.2⟩, fun p hp => hS.cell p (.inr ⟨by have := hp.1; omega, hp.2⟩)⟩) hS.1 (by have := hS.1; omega) (Nat.le_of_lt hxy)
end Go.Proofs.YtkekmokdlgocaaaGreatDoor.Pl
