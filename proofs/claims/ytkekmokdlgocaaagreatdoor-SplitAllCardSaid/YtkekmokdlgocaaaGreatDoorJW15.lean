import Derived.Test.YtkekmokdlgocaaaGreatDoorJW14
import Derived.Test.YtkekmokdlgocaaaGreatDoorJW2
import Derived.Laws.EntriesVeiled
set_option maxRecDepth 100000
set_option maxHeartbeats 4000000
namespace Go.Proofs.YtkekmokdlgocaaaGreatDoor.Pl
open Go.RowKit
abbrev fv (n : Nat) (cs : Array Value) : Value := .func (.func n) #[] cs
abbrev fv0 : Value := .nilFunc
def Fu (f : Int) (s r i : Value) : Prop :=
 f = 0 ∧ s = fv 127 #[] ∧ r = fv 128 #[] ∧ i = fv 126 #[] ∨
 f = 1 ∧ s = fv 129 #[] ∧ r = fv 130 #[] ∧ i = fv 131 #[] ∨
 f = 2 ∧ s = fv 132 #[] ∧ r = fv 133 #[] ∧ i = fv 126 #[] ∨
 f = 3 ∧ s = fv 76 #[] ∧ r = fv 134 #[] ∧ i = fv 126 #[] ∨
 f = 5 ∧ s = fv 83 #[] ∧ r = fv 135 #[] ∧ i = fv 126 #[]
def isU (f : Int) : Bool := decide (0 ≤ f) && decide (f ≤ 5) && decide (f ≠ 4)
def Fv (s r i : Value) : Prop := (∃ a b c ca cb cc, s = fv a ca ∧ r = fv b cb ∧ i = fv c cc) ∨ (s = fv0 ∧ r = fv0 ∧ i = fv0)
def RetU (f : Int) (w : World) (e : Ending) (w' : World) : Prop :=
 ∃ s r i, e = .returned (.tuple #[.agg #[s, r, i], .bool (isU f)]) ∧ (isU f = true → Fu f s r i) ∧ Fv s r i ∧ Below w.heap.size w w'
theorem unsized_c (f : Int) (w : World) : Calls Tryz.prog 96 #[.int .i64 f] w (RetU f w) := by
 obtain h0 | h1 | h2 | h3 | h5 | ⟨h0, h1, h2, h3, h5⟩ : f = 0 ∨ f = 1 ∨ f = 2 ∨ f = 3 ∨ f = 5 ∨ (f ≠ 0 ∧ f ≠ 1 ∧ f ≠ 2 ∧ f ≠ 3 ∧ f ≠ 5) := by omega
 ·subst h0
  go_enter Tryz.func96, Tryz.ntmps96
  go_wp2
  refine bodyPost_ret (v := .tuple #[.agg #[fv 127 #[], fv 128 #[], fv 126 #[]], .bool true]) ?_ rfl ⟨_, _, _, rfl, fun _ => .inl ⟨rfl, rfl, rfl, rfl⟩, .inl ⟨_, _, _, _, _, _, rfl, rfl, rfl⟩, ej _ _⟩
  simp [results, Tryz.results96, go_sem, fv]
 ·subst h1
  go_enter Tryz.func96, Tryz.ntmps96
  go_wp2
  refine bodyPost_ret (v := .tuple #[.agg #[fv 129 #[], fv 130 #[], fv 131 #[]], .bool true]) ?_ rfl ⟨_, _, _, rfl, fun _ => .inr (.inl ⟨rfl, rfl, rfl, rfl⟩), .inl ⟨_, _, _, _, _, _, rfl, rfl, rfl⟩, ej _ _⟩
  simp [results, Tryz.results96, go_sem, fv]
 ·subst h2
  go_enter Tryz.func96, Tryz.ntmps96
  go_wp2
  refine bodyPost_ret (v := .tuple #[.agg #[fv 132 #[], fv 133 #[], fv 126 #[]], .bool true]) ?_ rfl ⟨_, _, _, rfl, fun _ => .inr (.inr (.inl ⟨rfl, rfl, rfl, rfl⟩)), .inl ⟨_, _, _, _, _, _, rfl, rfl, rfl⟩, ej _ _⟩
  simp [results, Tryz.results96, go_sem, fv]
 ·subst h3
  go_enter Tryz.func96, Tryz.ntmps96
  go_wp2
  refine bodyPost_ret (v := .tuple #[.agg #[fv 76 #[], fv 134 #[], fv 126 #[]], .bool true]) ?_ rfl ⟨_, _, _, rfl, fun _ => .inr (.inr (.inr (.inl ⟨rfl, rfl, rfl, rfl⟩))), .inl ⟨_, _, _, _, _, _, rfl, rfl, rfl⟩, ej _ _⟩
  simp [results, Tryz.results96, go_sem, fv]
 ·subst h5
  go_enter Tryz.func96, Tryz.ntmps96
  go_wp2
  refine bodyPost_ret (v := .tuple #[.agg #[fv 83 #[], fv 135 #[], fv 126 #[]], .bool true]) ?_ rfl ⟨_, _, _, rfl, fun _ => .inr (.inr (.inr (.inr (⟨rfl, rfl, rfl, rfl⟩)))), .inl ⟨_, _, _, _, _, _, rfl, rfl, rfl⟩, ej _ _⟩
  simp [results, Tryz.results96, go_sem, fv]
 ·have d0 : (f == 0) = false := beq_eq_false_iff_ne.2 h0
  have d1 : (f == 1) = false := beq_eq_false_iff_ne.2 h1
  have d2 : (f == 2) = false := beq_eq_false_iff_ne.2 h2
  have d3 : (f == 3) = false := beq_eq_false_iff_ne.2 h3
  have d5 : (f == 5) = false := beq_eq_false_iff_ne.2 h5
  have hu : isU f = false := by
   unfold isU
   by_cases q : 0 ≤ f ∧ f ≤ 5
   ·have : f = 4 := by omega
    subst this; rfl
   ·simp; omega
  have HU := ek hu
  clear h0 h1 h2 h3 h5 hu
  go_enter Tryz.func96, Tryz.ntmps96
  go_wp2
  refine bodyPost_ret (v := .tuple #[.agg #[fv0, fv0, fv0], .bool false]) ?_ rfl ⟨fv0, fv0, fv0, by rw [HU.out], fun h => (by rw [HU.out] at h; cases h), .inr ⟨rfl, rfl, rfl⟩, ej _ _⟩
  simp [results, Tryz.results96, go_sem, fv0]
theorem fixedOf_c (k : Int) (w : World) : Calls Tryz.prog 95 #[.int .i64 k] w fun e w' =>
  e = .returned (.agg #[fv 122 #[.pointer (some ⟨w.heap.size, 0,none⟩)], fv 124 #[.pointer (some ⟨w.heap.size, 0,none⟩)], fv 126 #[]]) ∧
  w'.cell? ⟨w.heap.size, 0,none⟩ = some (.int .i64 k) ∧ w'.heap.size = w.heap.size + 2 ∧ Below w.heap.size w w' := by
 go_enter Tryz.func95, Tryz.ntmps95
 go_wp2
 refine bodyPost_ret (v := .agg #[fv 122 #[.pointer (some ⟨w.heap.size, 0,none⟩)], fv 124 #[.pointer (some ⟨w.heap.size, 0,none⟩)], fv 126 #[]]) ?_ rfl ⟨rfl, by simp, by simp, (ej _ _).alloc (by simp) _⟩
 simp [results, Tryz.results95, go_sem, fv]
structure Bx (w : World) (g : Nat) (v0 v1 v2 : Value) : Prop where
 c0 : w.cell? ⟨g, 0,none⟩ = some v0
 c1 : w.cell? ⟨g, 1,none⟩ = some v1
 c2 : w.cell? ⟨g, 2,none⟩ = some v2
 f0 : w.frozen? ⟨g, 0,none⟩ = false
 f1 : w.frozen? ⟨g, 1,none⟩ = false
 f2 : w.frozen? ⟨g, 2,none⟩ = false
 lt : g < w.heap.size
theorem Bx.made (w : World) (T : TypeId) (v0 v1 v2 : Value) : Bx (w.alloc (.cells #[v0, v1, v2] T)) w.heap.size v0 v1 v2 := ⟨by simp, by simp, by simp, by simp, by simp, by simp, by simp⟩
theorem Bx.keep {w w' : World} {g : Nat} {v0 v1 v2 : Value} (h : Bx w g v0 v1 v2) (hs : w.heap.size ≤ w'.heap.size) (hg : w'.heap[g]? = w.heap[g]?) : Bx w' g v0 v1 v2 := by
 have c : ∀ k, w'.cell? ⟨g, k,none⟩ = w.cell? ⟨g, k,none⟩ := fun k => by unfold World.cell?; rw [hg]
 have f : ∀ k, w'.frozen? ⟨g, k,none⟩ = w.frozen? ⟨g, k,none⟩ := fun k => by unfold World.frozen?; rw [hg]
 exact ⟨(c 0).trans h.c0, (c 1).trans h.c1, (c 2).trans h.c2, (f 0).trans h.f0, (f 1).trans h.f1, (f 2).trans h.f2, Nat.lt_of_lt_of_le h.lt hs⟩
theorem Bx.below {w w' : World} {g B : Nat} {v0 v1 v2 : Value} (h : Bx w g v0 v1 v2) (hb : Below B w w') (hg : g < B) : Bx w' g v0 v1 v2 := h.keep hb.size (hb.block g hg)
def put3 (w : World) (g : Nat) (v0 v1 v2 : Value) : World := ((w.setCell ⟨g, 0,none⟩ v0).setCell ⟨g, 1,none⟩ v1).setCell ⟨g, 2,none⟩ v2
theorem put3_below (w : World) (g : Nat) (v0 v1 v2 : Value) : Below g w (put3 w g v0 v1 v2) :=
 (((Below.refl g w).setCell (Nat.le_refl _) _).setCell (Nat.le_refl _) _).setCell (Nat.le_refl _) _
theorem put3_box {w : World} {g : Nat} {a b c : Value} (h : Bx w g a b c) (v0 v1 v2 : Value) : Bx (put3 w g v0 v1 v2) g v0 v1 v2 := by
 unfold put3
 have z : (((w.setCell ⟨g, 0,none⟩ v0).setCell ⟨g, 1,none⟩ v1).setCell ⟨g, 2,none⟩ v2).heap.size = w.heap.size := by simp
 have f : ∀ j, (((w.setCell ⟨g, 0,none⟩ v0).setCell ⟨g, 1,none⟩ v1).setCell ⟨g, 2,none⟩ v2).frozen? ⟨g, j,none⟩ = w.frozen? ⟨g, j,none⟩ := fun j => by simp
 have c0 : (w.setCell ⟨g, 0,none⟩ v0).cell? ⟨g, 0,none⟩ = some v0 := World.cell?_setCell_same w _ _ h.c0
 have c1 : (w.setCell ⟨g, 0,none⟩ v0).cell? ⟨g, 1,none⟩ = some b := (World.cell?_setCell_other w _ _ _ (by simp)).trans h.c1
 have c2 : (w.setCell ⟨g, 0,none⟩ v0).cell? ⟨g, 2,none⟩ = some c := (World.cell?_setCell_other w _ _ _ (by simp)).trans h.c2
 have d0 := (World.cell?_setCell_other (w.setCell ⟨g, 0,none⟩ v0) ⟨g, 1,none⟩ ⟨g, 0,none⟩ v1 (by simp)).trans c0
 have d1 : ((w.setCell ⟨g, 0,none⟩ v0).setCell ⟨g, 1,none⟩ v1).cell? ⟨g, 1,none⟩ = some v1 := World.cell?_setCell_same _ _ _ c1
 have d2 := (World.cell?_setCell_other (w.setCell ⟨g, 0,none⟩ v0) ⟨g, 1,none⟩ ⟨g, 2,none⟩ v1 (by simp)).trans c2
 exact ⟨(World.cell?_setCell_other _ ⟨g, 2,none⟩ ⟨g, 0,none⟩ v2 (by simp)).trans d0, (World.cell?_setCell_other _ ⟨g, 2,none⟩ ⟨g, 1,none⟩ v2 (by simp)).trans d1, World.cell?_setCell_same _ _ _ d2, (f 0).trans h.f0, (f 1).trans h.f1, (f 2).trans h.f2, by rw [z]; exact h.lt⟩
theorem put3_size (w : World) (g : Nat) (v0 v1 v2 : Value) : (put3 w g v0 v1 v2).heap.size = w.heap.size := by unfold put3; simp
theorem put3_other (w : World) (g g' j : Nat) (v0 v1 v2 : Value) (h : g' ≠ g) : (put3 w g v0 v1 v2).cell? ⟨g', j,none⟩ = w.cell? ⟨g', j,none⟩ := by
 unfold put3
 rw [World.cell?_setCell_other _ _ _ _ (by simp), World.cell?_setCell_other _ _ _ _ (by simp), World.cell?_setCell_other _ _ _ _ (by simp)]
def isF (f k : Int) : Bool := if f = 4 then decide (1 ≤ k) && decide (k ≤ 1000) else isU f && k == 0
def F3 (W : World) (f k : Int) (s r i : Value) : Prop :=
 (f ≠ 4 ∧ k = 0 ∧ Fu f s r i) ∨
 (f = 4 ∧ 1 ≤ k ∧ k ≤ 1000 ∧ ∃ g, W.cell? ⟨g, 0,none⟩ = some (.int .i64 k) ∧ g < W.heap.size ∧ s = fv 122 #[.pointer (some ⟨g, 0,none⟩)] ∧ r = fv 124 #[.pointer (some ⟨g, 0,none⟩)] ∧ i = fv 126 #[])
theorem F3.below {W W' : World} {B : Nat} {f k : Int} {s r i : Value} (h : F3 W f k s r i) (hb : Below B W W') (hB : W.heap.size ≤ B) : F3 W' f k s r i := by
 rcases h with h | ⟨h1, h2, h3, g, h4, h5, h6⟩
 ·exact .inl h
 ·exact .inr ⟨h1, h2, h3, g, (hb.cell (p := ⟨g, 0,none⟩) (show g < B by omega)).trans h4, by have := hb.size; omega, h6⟩
def RetFm (f k : Int) (o : Bool) (w : World) (e : Ending) (w' : World) : Prop :=
 ∃ s r i, e = .returned (.tuple #[.agg #[s, r, i], .bool o]) ∧ (o = true → F3 w' f k s r i) ∧ Fv s r i ∧ Below w.heap.size w w'
theorem formatOf_c (f k : Int) (o : Bool) (ho : o = isF f k) (w : World) : Calls Tryz.prog 66 #[.int .i64 f, .int .i64 k] w (RetFm f k o w) := by
 by_cases h4 : f = 4
 ·subst h4
  have ho2 : o = (decide (1 ≤ k) && decide (k ≤ 1000)) := ho
  obtain ⟨w1, hw1⟩ : ∃ w1, w1 = w.alloc (.cells #[.nilFunc, .nilFunc, .nilFunc] 89) := ⟨_, rfl⟩
  have z1 : w1.heap.size = w.heap.size + 1 := by rw [hw1]; simp
  have b1 : Below w.heap.size w w1 := by rw [hw1]; exact ej _ _
  have x1 : Bx w1 w.heap.size .nilFunc .nilFunc .nilFunc := by rw [hw1]; exact Bx.made _ _ _ _ _
  have W1 := ek hw1
  have Ho := ek ho2
  clear ho ho2 hw1
  go_enter Tryz.func66, Tryz.ntmps66
  go_wp2_with fail
  rw [← W1.out]
  refine (fixedOf_c k _).mono ?_
  rintro e w2 ⟨rfl, hc2, z2, b2⟩
  have bb := b1.trans (b2.mono (by omega))
  have x2 := x1.below b2 (by omega)
  obtain ⟨w3, hw3⟩ : ∃ w3, w3 = put3 w2 w.heap.size (fv 122 #[.pointer (some ⟨w1.heap.size, 0,none⟩)]) (fv 124 #[.pointer (some ⟨w1.heap.size, 0,none⟩)]) (fv 126 #[]) := ⟨_, rfl⟩
  have b3 := bb.trans (put3_below w2 w.heap.size (fv 122 #[.pointer (some ⟨w1.heap.size, 0,none⟩)]) (fv 124 #[.pointer (some ⟨w1.heap.size, 0,none⟩)]) (fv 126 #[]))
  have x3 := put3_box x2 (fv 122 #[.pointer (some ⟨w1.heap.size, 0,none⟩)]) (fv 124 #[.pointer (some ⟨w1.heap.size, 0,none⟩)]) (fv 126 #[])
  rw [← hw3] at b3 x3
  have hf3 : 1 ≤ k → k ≤ 1000 → F3 w3 4 k (fv 122 #[.pointer (some ⟨w1.heap.size, 0,none⟩)]) (fv 124 #[.pointer (some ⟨w1.heap.size, 0,none⟩)]) (fv 126 #[]) := fun q1 q2 =>
   .inr ⟨rfl, q1, q2, w1.heap.size, by rw [hw3, put3_other _ _ _ _ _ _ _ (by omega)]; exact hc2, by rw [hw3, put3_size]; omega, rfl, rfl, rfl⟩
  have B3 := ek b3; have X3 := ek x3; have F3' := ek hf3; have W3 := ek hw3
  obtain ⟨c0, c1, c2, f0, f1, f2, hlt⟩ := x2
  clear x1 z1 b1 hc2 z2 b2 bb hw3 b3 x3 hf3
  by_cases k1 : 1 ≤ k
  ·have q1 : decide (1 ≤ k) = true := decide_eq_true k1
   by_cases k2 : k ≤ 1000
   ·have q2 : decide (k ≤ 1000) = true := decide_eq_true k2
    go_wp2
    change bodyPost _ _ _ _ _ (put3 w2 w.heap.size _ _ _)
    rw [← W3.out]
    have x3 := X3.out
    obtain ⟨y0, y1, y2, -, -, -, -⟩ := x3
    refine bodyPost_ret (v := .tuple #[.agg #[fv 122 #[.pointer (some ⟨w1.heap.size, 0,none⟩)], fv 124 #[.pointer (some ⟨w1.heap.size, 0,none⟩)], fv 126 #[]], .bool true]) ?_ rfl ⟨_, _, _, by rw [Ho.out]; simp; omega, fun _ => F3'.out k1 k2, .inl ⟨_, _, _, _, _, _, rfl, rfl, rfl⟩, B3.out⟩
    simp [results, Tryz.results66, go_sem, y0, y1, y2]
   ·have q2 : decide (k ≤ 1000) = false := decide_eq_false k2
    have Q := ek (show (decide (1 ≤ k) && decide (k ≤ 1000)) = false by rw [q1, q2]; rfl)
    go_wp2
    change bodyPost _ _ _ _ _ (put3 w2 w.heap.size _ _ _)
    rw [← W3.out]
    have x3 := X3.out
    obtain ⟨y0, y1, y2, -, -, -, -⟩ := x3
    refine bodyPost_ret (v := .tuple #[.agg #[fv 122 #[.pointer (some ⟨w1.heap.size, 0,none⟩)], fv 124 #[.pointer (some ⟨w1.heap.size, 0,none⟩)], fv 126 #[]], .bool false]) ?_ rfl ⟨_, _, _, by rw [Ho.out, Q.out], fun h => (by rw [Ho.out, Q.out] at h; cases h), .inl ⟨_, _, _, _, _, _, rfl, rfl, rfl⟩, B3.out⟩
    simp [results, Tryz.results66, go_sem, y0, y1, y2]
  ·have q1 : decide (1 ≤ k) = false := decide_eq_false k1
   have Q := ek (show (decide (1 ≤ k) && decide (k ≤ 1000)) = false by rw [q1]; rfl)
   go_wp2
   change bodyPost _ _ _ _ _ (put3 w2 w.heap.size _ _ _)
   rw [← W3.out]
   have x3 := X3.out
   obtain ⟨y0, y1, y2, -, -, -, -⟩ := x3
   refine bodyPost_ret (v := .tuple #[.agg #[fv 122 #[.pointer (some ⟨w1.heap.size, 0,none⟩)], fv 124 #[.pointer (some ⟨w1.heap.size, 0,none⟩)], fv 126 #[]], .bool false]) ?_ rfl ⟨_, _, _, by rw [Ho.out, Q.out], fun h => (by rw [Ho.out, Q.out] at h; cases h), .inl ⟨_, _, _, _, _, _, rfl, rfl, rfl⟩, B3.out⟩
   simp [results, Tryz.results66, go_sem, y0, y1, y2]
 ·have d4 : (f == 4) = false := beq_eq_false_iff_ne.2 h4
  have ho2 : o = (isU f && k == 0) := by rw [ho, isF, if_neg h4]
  obtain ⟨w1, hw1⟩ : ∃ w1, w1 = w.alloc (.cells #[.nilFunc, .nilFunc, .nilFunc] 89) := ⟨_, rfl⟩
  have z1 : w1.heap.size = w.heap.size + 1 := by rw [hw1]; simp
  have b1 : Below w.heap.size w w1 := by rw [hw1]; exact ej _ _
  have x1 : Bx w1 w.heap.size .nilFunc .nilFunc .nilFunc := by rw [hw1]; exact Bx.made _ _ _ _ _
  have W1 := ek hw1
  have Ho := ek ho2
  clear ho ho2 hw1
  go_enter Tryz.func66, Tryz.ntmps66
  go_wp2_with fail
  rw [← W1.out]
  refine (unsized_c f _).mono ?_
  rintro e w2 ⟨s, r, i, rfl, hfu, hfv, b2⟩
  have bb := b1.trans (b2.mono (by omega))
  have x2 := x1.below b2 (by omega)
  obtain ⟨w3, hw3⟩ : ∃ w3, w3 = put3 w2 w.heap.size s r i := ⟨_, rfl⟩
  obtain ⟨w4, hw4⟩ : ∃ w4, w4 = w3.alloc (.cells #[s, r, i] 89) := ⟨_, rfl⟩
  have x3 := put3_box x2 s r i
  have b3 := bb.trans (put3_below w2 w.heap.size s r i)
  rw [← hw3] at x3 b3
  have b34 : Below w3.heap.size w3 w4 := by rw [hw4]; exact ej _ _
  have x4 := x3.below b34 x3.lt
  have b4 := b3.trans (b34.mono (Nat.le_of_lt x3.lt))
  have HF := ek (show (isU f && k == 0) = true → F3 w4 f k s r i from fun h => by
   simp only [Bool.and_eq_true, beq_iff_eq] at h
   exact .inl ⟨h4, h.2, hfu h.1⟩)
  have W3 := ek hw3; have W4 := ek hw4; have B4 := ek b4; have X4 := ek x4; have Hfv := ek hfv
  obtain ⟨c0, c1, c2, f0, f1, f2, hlt⟩ := x2
  obtain ⟨q, hq⟩ : ∃ q, q = isU f := ⟨_, rfl⟩
  obtain ⟨p, hp⟩ : ∃ p, p = (k == 0) := ⟨_, rfl⟩
  rw [← hq, ← hp] at HF Ho
  rw [← hq]
  clear x1 z1 b1 hfu b2 bb hw3 b3 hw4 b4 x3 x4 b34 hq
  have fin : ∀ (Q : Bool) (K : Act), o = Q → K.tmps[4]? = some (.pointer (some ⟨w.heap.size, 0,none⟩)) → K.tmps[5]? = some (.bool Q) → K.defers = [] → bodyPost Tryz.prog Tryz.f66 (RetFm f k o w) Exit.ret K w4 := by
   intro Q K hQ hK4 hK hd
   have x4 := X4.out
   obtain ⟨z0, z1, z2, -, -, -, -⟩ := x4
   refine bodyPost_ret (v := .tuple #[.agg #[s, r, i], .bool o]) ?_ hd ⟨_, _, _, rfl, fun h => HF.out (by rw [← Ho.out]; exact h), Hfv.out, B4.out⟩
   simp [results, Tryz.results66, go_sem, z0, z1, z2, hK, hQ, hK4]
  have Fin := ek fin
  clear fin
  rcases hfv with ⟨a, b, c, ca, cb, cc, rfl, rfl, rfl⟩ | ⟨rfl, rfl, rfl⟩
  all_goals
   rw [W4.out, W3.out] at Fin
   cases q with
   | true =>
    cases p with
    | true =>
     have d0 : (k == 0) = true := hp.symm
     clear hp
     go_wp2
     exact Fin.out _ _ Ho.out rfl rfl rfl
    | false =>
     have d0 : (k == 0) = false := hp.symm
     clear hp
     go_wp2
     exact Fin.out _ _ Ho.out rfl rfl rfl
   | false =>
    clear hp
    go_wp2
    exact Fin.out _ _ Ho.out rfl rfl rfl
abbrev flv (f k : Int) (A : Option Addr) (n c : Nat) : Value := .agg #[.int .i64 f, .int .i64 k, .slice A n c]
theorem functionsOf_c (f k : Int) (A : Option Addr) (n c : Nat) (o : Bool) (ho : o = (isF f k && decide (n ≤ 100000))) (hn : n ≤ 9223372036854775807) (w : World) :
  Calls Tryz.prog 41 #[flv f k A n c] w (RetFm f k o w) := by
 have b00 := Below.refl w.heap.size w
 obtain ⟨w0, hw0⟩ : ∃ w0, w0 = w.alloc (.cells #[.int .i64 f, .int .i64 k, .slice A n c] 24) := ⟨_, rfl⟩
 have z0 : w0.heap.size = w.heap.size + 1 := by rw [hw0]; simp
 have x0 : Bx w0 w.heap.size (.int .i64 f) (.int .i64 k) (.slice A n c) := by rw [hw0]; exact Bx.made _ _ _ _ _
 have b0 : Below w.heap.size w w0 := by rw [hw0]; exact ej _ _
 obtain ⟨w1, hw1⟩ : ∃ w1, w1 = w0.alloc (.cells #[.nilFunc, .nilFunc, .nilFunc] 89) := ⟨_, rfl⟩
 have z1 : w1.heap.size = w.heap.size + 2 := by rw [hw1]; simp [z0]
 have b01 : Below w0.heap.size w0 w1 := by rw [hw1]; exact ej _ _
 have x1 : Bx w1 w0.heap.size .nilFunc .nilFunc .nilFunc := by rw [hw1]; exact Bx.made _ _ _ _ _
 have y1 := x0.below b01 (by omega)
 have b1 := b0.trans (b01.mono (by omega))
 obtain ⟨q, hq⟩ : ∃ q, q = isF f k := ⟨_, rfl⟩
 have Hc := ek (formatOf_c f k q hq w1)
 rw [← hq] at ho
 obtain ⟨p, hp⟩ : ∃ p, p = decide (n ≤ 100000) := ⟨_, rfl⟩
 rw [← hp] at ho
 have W0 := ek hw0; have W1 := ek hw1; have Ho := ek ho; have Hp := ek hp; have Z0 := ek z0
 rw [z0] at x1
 obtain ⟨c0, c1, c2, -, -, -, hlt0⟩ := y1
 clear hw0 hw1 hq ho hp x0 b0 b01 z0
 go_enter Tryz.func41, Tryz.ntmps41
 go_wp2_with (rw [← W0.out, ← W1.out])
 refine Hc.out.mono ?_
 rintro e w2 ⟨s, r, i, rfl, hf3, hfv, b2⟩
 have z2 := b2.size
 have bb := b1.trans (b2.mono (by omega))
 have x2 := x1.below b2 (by omega)
 have d0 : w2.cell? ⟨w.heap.size, 0,none⟩ = some (.int .i64 f) := (b2.cell (p := ⟨w.heap.size, 0,none⟩) hlt0).trans c0
 have d1 : w2.cell? ⟨w.heap.size, 1,none⟩ = some (.int .i64 k) := (b2.cell (p := ⟨w.heap.size, 1,none⟩) hlt0).trans c1
 have d2 : w2.cell? ⟨w.heap.size, 2,none⟩ = some (.slice A n c) := (b2.cell (p := ⟨w.heap.size, 2,none⟩) hlt0).trans c2
 obtain ⟨w3, hw3⟩ : ∃ w3, w3 = put3 w2 (w.heap.size + 1) s r i := ⟨_, rfl⟩
 obtain ⟨w5, hw5⟩ : ∃ w5, w5 = w3.alloc (.cells #[s, r, i] 89) := ⟨_, rfl⟩
 obtain ⟨w4, hw4⟩ : ∃ w4, w4 = w5.drew := ⟨_, rfl⟩
 have x3 := put3_box x2 s r i
 have b3 := bb.trans ((put3_below w2 (w.heap.size + 1) s r i).mono (by omega))
 rw [← hw3] at x3 b3
 have z3 : w3.heap.size = w2.heap.size := by rw [hw3, put3_size]
 have b35 : Below w3.heap.size w3 w5 := by rw [hw5]; exact ej _ _
 have x5 := x3.below b35 x3.lt
 have b5 := b3.trans (b35.mono (by omega))
 have b4 : Below w.heap.size w w4 := by rw [hw4]; exact below_drewN b5 1
 have x4 : Bx w4 (w.heap.size + 1) s r i := by rw [hw4]; exact x5.keep (Nat.le_refl _) rfl
 have z5 := b35.size
 have hlt2 : w2.heap.size < (w2.alloc (.cells #[s, r, i] 89)).heap.size := by simp
 have HF := ek (show o = true → F3 w4 f k s r i from fun h => by
  have hq : q = true := by
   cases q with
   | true => rfl
   | false => rw [Ho.out] at h; cases h
  have h2 := hf3 hq
  rcases h2 with h2 | ⟨e1, e2, e3, g, e4, e5, e6⟩
  ·exact .inl h2
  ·refine .inr ⟨e1, e2, e3, g, ?_, ?_, e6⟩
   ·rw [hw4]
    show w5.cell? _ = _
    by_cases hg : g = w.heap.size + 1
    ·exfalso
     subst hg
     have := x2.c0
     rw [this] at e4
     cases hfv with
     | inl h => obtain ⟨_, _, _, _, _, _, rfl, _⟩ := h; cases e4
     | inr h => obtain ⟨rfl, _⟩ := h; cases e4
    ·rw [b35.cell (p := ⟨g, 0,none⟩) (by show g < _; omega), hw3, put3_other _ _ _ _ _ _ _ hg]
     exact e4
   ·rw [hw4]; show g < w5.heap.size; omega)
 have W3 := ek hw3; have W4 := ek hw4; have W5 := ek hw5; have B4 := ek b4; have X4 := ek x4; have Hfv := ek hfv
 have fin : ∀ (Q : Bool) (K : Act), o = Q → K.tmps[2]? = some (.pointer (some ⟨w.heap.size + 1, 0,none⟩)) → K.tmps[3]? = some (.bool Q) → K.defers = [] → bodyPost Tryz.prog Tryz.f41 (RetFm f k o w) Exit.ret K w4 := by
  intro Q K hQ hK4 hK hd
  have x4 := X4.out
  obtain ⟨z0, z1, z2, -, -, -, -⟩ := x4
  refine bodyPost_ret (v := .tuple #[.agg #[s, r, i], .bool o]) ?_ hd ⟨_, _, _, rfl, HF.out, Hfv.out, B4.out⟩
  simp [results, Tryz.results41, go_sem, z0, z1, z2, hK, hQ, hK4]
 have Fin := ek fin
 have dn : decide ((n : Int) ≤ 100000) = p := by rw [Hp.out]; simp; omega
 obtain ⟨m0, m1, m2, n0, n1, n2, hlt1⟩ := x2
 have hlt3 : w.heap.size < w2.heap.size := by omega
 clear b00 z1 x1 b1 hf3 bb hw3 b3 hw4 b4 x3 x4 fin b2 c0 c1 c2 z2 hw5 b35 x5 b5 z5 z3
 rcases hfv with ⟨a, b, c', ca, cb, cc, rfl, rfl, rfl⟩ | ⟨rfl, rfl, rfl⟩
 all_goals
  rw [W4.out, W5.out, W3.out] at Fin
  cases q with
  | true =>
   cases p with
   | true =>
    go_wp2_with fail
    go_region
    go_wp2
    exact Fin.out _ _ Ho.out rfl rfl rfl
   | false =>
    go_wp2_with fail
    go_region
    go_wp2
    exact Fin.out _ _ Ho.out rfl rfl rfl
  | false =>
   go_wp2_with fail
   go_region
   go_wp2
   exact Fin.out _ _ Ho.out rfl rfl rfl
end Go.Proofs.YtkekmokdlgocaaaGreatDoor.Pl
