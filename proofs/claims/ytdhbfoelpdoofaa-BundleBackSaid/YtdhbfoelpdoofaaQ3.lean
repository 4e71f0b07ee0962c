/-
  bundle: words for boxes, rows of files, a directory.
-/
import Derived.Test.YtdhbfoelpdoofaaQ2
import Derived.Test.YtdhbfoelpdoofaaPw
namespace Go.Proofs.Ytdhbfoelpdoofaa
open Go.RowKit

/-- A block of two cells. -/
structure Box2 (w : World) (g : Nat) (v0 v1 : Value) : Prop where
  c0 : w.cell? ⟨g, 0, none⟩ = some v0
  c1 : w.cell? ⟨g, 1, none⟩ = some v1
  f0 : w.frozen? ⟨g, 0, none⟩ = false
  f1 : w.frozen? ⟨g, 1, none⟩ = false
  lt : g < w.heap.size
/-- A block of four cells. -/
structure Box4 (w : World) (g : Nat) (v0 v1 v2 v3 : Value) : Prop where
  c0 : w.cell? ⟨g, 0, none⟩ = some v0
  c1 : w.cell? ⟨g, 1, none⟩ = some v1
  c2 : w.cell? ⟨g, 2, none⟩ = some v2
  c3 : w.cell? ⟨g, 3, none⟩ = some v3
  f0 : w.frozen? ⟨g, 0, none⟩ = false
  f1 : w.frozen? ⟨g, 1, none⟩ = false
  f2 : w.frozen? ⟨g, 2, none⟩ = false
  f3 : w.frozen? ⟨g, 3, none⟩ = false
  lt : g < w.heap.size
theorem cell_eq {w w' : World} {g : Nat} (h : w'.heap[g]? = w.heap[g]?) (k : Nat) : w'.cell? ⟨g, k, none⟩ = w.cell? ⟨g, k, none⟩ := by unfold World.cell?; rw [h]
theorem frozen_eq {w w' : World} {g : Nat} (h : w'.heap[g]? = w.heap[g]?) (k : Nat) : w'.frozen? ⟨g, k, none⟩ = w.frozen? ⟨g, k, none⟩ := by unfold World.frozen?; rw [h]
section
variable {w w' : World} {g k B : Nat} {v0 v1 v2 v3 : Value}
theorem Box2.made (w : World) (T : TypeId) (v0 v1 : Value) : Box2 (w.alloc (.cells #[v0, v1] T)) w.heap.size v0 v1 := ⟨by simp, by simp, by simp, by simp, by simp⟩
theorem Box4.made (w : World) (T : TypeId) (v0 v1 v2 v3 : Value) : Box4 (w.alloc (.cells #[v0, v1, v2, v3] T)) w.heap.size v0 v1 v2 v3 := ⟨by simp, by simp, by simp, by simp, by simp, by simp, by simp, by simp, by simp⟩
theorem Box2.keep (h : Box2 w g v0 v1) (hs : w.heap.size ≤ w'.heap.size) (hg : w'.heap[g]? = w.heap[g]?) : Box2 w' g v0 v1 :=
  ⟨(cell_eq hg 0).trans h.c0, (cell_eq hg 1).trans h.c1, (frozen_eq hg 0).trans h.f0, (frozen_eq hg 1).trans h.f1, Nat.lt_of_lt_of_le h.lt hs⟩
theorem Box4.keep (h : Box4 w g v0 v1 v2 v3) (hs : w.heap.size ≤ w'.heap.size) (hg : w'.heap[g]? = w.heap[g]?) : Box4 w' g v0 v1 v2 v3 :=
  ⟨(cell_eq hg 0).trans h.c0, (cell_eq hg 1).trans h.c1, (cell_eq hg 2).trans h.c2, (cell_eq hg 3).trans h.c3, (frozen_eq hg 0).trans h.f0, (frozen_eq hg 1).trans h.f1, (frozen_eq hg 2).trans h.f2, (frozen_eq hg 3).trans h.f3, Nat.lt_of_lt_of_le h.lt hs⟩
theorem Box2.below (h : Box2 w g v0 v1) (hb : Below B w w') (hg : g < B) : Box2 w' g v0 v1 := h.keep hb.size (hb.block g hg)
theorem Box4.below (h : Box4 w g v0 v1 v2 v3) (hb : Below B w w') (hg : g < B) : Box4 w' g v0 v1 v2 v3 := h.keep hb.size (hb.block g hg)
theorem Box2.tn (h : Box2 w g v0 v1) (ht : Tn k w w') (hg : g ≠ k) : Box2 w' g v0 v1 := h.keep ht.size (ht.heap h.lt hg)
theorem Box3.tn (h : Box3 w g v0 v1 v2) (ht : Tn k w w') (hg : g ≠ k) : Box3 w' g v0 v1 v2 := h.keep ht.size (ht.heap h.lt hg)
theorem Box4.tn (h : Box4 w g v0 v1 v2 v3) (ht : Tn k w w') (hg : g ≠ k) : Box4 w' g v0 v1 v2 v3 := h.keep ht.size (ht.heap h.lt hg)
theorem Box2.set0 (h : Box2 w g v0 v1) (v : Value) : Box2 (w.setCell ⟨g, 0, none⟩ v) g v v1 := by
  have f : ∀ j, (w.setCell ⟨g, 0, none⟩ v).frozen? ⟨g, j, none⟩ = w.frozen? ⟨g, j, none⟩ := fun j => by simp
  exact ⟨World.cell?_setCell_same w _ _ h.c0, (World.cell?_setCell_other w _ _ _ (by simp)).trans h.c1, (f 0).trans h.f0, (f 1).trans h.f1, by simp; exact h.lt⟩
theorem Box2.set1 (h : Box2 w g v0 v1) (v : Value) : Box2 (w.setCell ⟨g, 1, none⟩ v) g v0 v := by
  have f : ∀ j, (w.setCell ⟨g, 1, none⟩ v).frozen? ⟨g, j, none⟩ = w.frozen? ⟨g, j, none⟩ := fun j => by simp
  exact ⟨(World.cell?_setCell_other w _ _ _ (by simp)).trans h.c0, World.cell?_setCell_same w _ _ h.c1, (f 0).trans h.f0, (f 1).trans h.f1, by simp; exact h.lt⟩
theorem Box4.set1 (h : Box4 w g v0 v1 v2 v3) (v : Value) : Box4 (w.setCell ⟨g, 1, none⟩ v) g v0 v v2 v3 := by
  have o : ∀ j, j ≠ 1 → (w.setCell ⟨g, 1, none⟩ v).cell? ⟨g, j, none⟩ = w.cell? ⟨g, j, none⟩ := fun j hj => World.cell?_setCell_other w _ _ _ (by simp)
  have f : ∀ j, (w.setCell ⟨g, 1, none⟩ v).frozen? ⟨g, j, none⟩ = w.frozen? ⟨g, j, none⟩ := fun j => by simp
  exact ⟨(o 0 (by omega)).trans h.c0, World.cell?_setCell_same w _ _ h.c1, (o 2 (by omega)).trans h.c2, (o 3 (by omega)).trans h.c3, (f 0).trans h.f0, (f 1).trans h.f1, (f 2).trans h.f2, (f 3).trans h.f3, by simp; exact h.lt⟩
theorem Box4.set2 (h : Box4 w g v0 v1 v2 v3) (v : Value) : Box4 (w.setCell ⟨g, 2, none⟩ v) g v0 v1 v v3 := by
  have o : ∀ j, j ≠ 2 → (w.setCell ⟨g, 2, none⟩ v).cell? ⟨g, j, none⟩ = w.cell? ⟨g, j, none⟩ := fun j hj => World.cell?_setCell_other w _ _ _ (by simp)
  have f : ∀ j, (w.setCell ⟨g, 2, none⟩ v).frozen? ⟨g, j, none⟩ = w.frozen? ⟨g, j, none⟩ := fun j => by simp
  exact ⟨(o 0 (by omega)).trans h.c0, (o 1 (by omega)).trans h.c1, World.cell?_setCell_same w _ _ h.c2, (o 3 (by omega)).trans h.c3, (f 0).trans h.f0, (f 1).trans h.f1, (f 2).trans h.f2, (f 3).trans h.f3, by simp; exact h.lt⟩
end
theorem put2_at (w : World) (g : Nat) (v0 v1 : Value) : Below g w ((w.setCell ⟨g, 0, none⟩ v0).setCell ⟨g, 1, none⟩ v1) := ((Below.refl g w).setCell (Nat.le_refl _) _).setCell (Nat.le_refl _) _
theorem put2_box {w : World} {g : Nat} {a b : Value} (h : Box2 w g a b) (v0 v1 : Value) : Box2 ((w.setCell ⟨g, 0, none⟩ v0).setCell ⟨g, 1, none⟩ v1) g v0 v1 := (h.set0 v0).set1 v1
theorem tn_put2 (w : World) (g : Nat) (v0 v1 : Value) : Tn g w ((w.setCell ⟨g, 0, none⟩ v0).setCell ⟨g, 1, none⟩ v1) := ((Tn.of_below (Below.refl _ w)).set v0).set v1

/-- The cells of files. -/
def fvs : List Bm.F → List Value
  | [] => []
  | f :: D => .int .i64 (f.at_ : Int) :: .string ⟨f.nm.toArray⟩ :: .int .i64 (f.sz : Int) :: .int .i64 (f.st : Int) :: fvs D
theorem fvs_len : ∀ D : List Bm.F, (fvs D).length = D.length * 4
  | [] => rfl
  | f :: D => by simp only [fvs, List.length_cons, fvs_len D]; omega
theorem fvs_app : ∀ D E : List Bm.F, fvs (D ++ E) = fvs D ++ fvs E
  | [], _ => rfl
  | f :: D, E => by simp only [List.cons_append, fvs, fvs_app D E]
theorem fvs_get : ∀ (D : List Bm.F) (i : Nat) (f : Bm.F), D[i]? = some f → (fvs D)[i * 4]? = some (.int .i64 (f.at_ : Int)) ∧ (fvs D)[i * 4 + 1]? = some (.string ⟨f.nm.toArray⟩) ∧ (fvs D)[i * 4 + 2]? = some (.int .i64 (f.sz : Int)) ∧ (fvs D)[i * 4 + 3]? = some (.int .i64 (f.st : Int))
  | [], i, f, h => by simp at h
  | g :: D, i, f, h => by
    cases i with
    | zero => simp at h; subst h; exact ⟨rfl, rfl, rfl, rfl⟩
    | succ i =>
      obtain ⟨a, b, c, d⟩ := fvs_get D i f (by simpa using h)
      have e : ∀ j, (fvs (g :: D))[(i + 1) * 4 + j]? = (fvs D)[i * 4 + j]? := fun j => by
        rw [show (i + 1) * 4 + j = (i * 4 + j) + 1 + 1 + 1 + 1 by omega]; simp only [fvs, List.getElem?_cons_succ]
      exact ⟨(e 0).trans a, (e 1).trans b, (e 2).trans c, (e 3).trans d⟩
theorem fvs_take : ∀ (D : List Bm.F) (k : Nat), (fvs D).take (k * 4) = fvs (D.take k)
  | [], k => by simp [fvs]
  | f :: D, 0 => by simp [fvs]
  | f :: D, k + 1 => by
    rw [show (k + 1) * 4 = k * 4 + 1 + 1 + 1 + 1 by omega]
    simp only [fvs, List.take_succ_cons, fvs_take D k]
theorem fvs_one (D : List Bm.F) : ∀ u ∈ fvs D, u.oneCell' = true := by
  induction D with
  | nil => intro u hu; cases hu
  | cons f D ih =>
    intro u hu
    simp only [fvs, List.mem_cons] at hu
    rcases hu with rfl | rfl | rfl | rfl | hu
    · rfl
    · rfl
    · rfl
    · rfl
    · exact ih u hu
theorem fty : Sl Try.prog 55 62 (.agg #[.int .i64 0, .string ⟨#[]⟩, .int .i64 0, .int .i64 0]) 4 40 := ⟨Try.underlying55, by kernel_rfl, rfl, by omega⟩

/-- A slice of files. -/
def Rf (w : World) (B : Nat) (A : Option Addr) (n c : Nat) (D : List Bm.F) : Prop := Rc 4 w B A n c (fvs D)
theorem Rf.len {w : World} {B : Nat} {A : Option Addr} {n c : Nat} {D : List Bm.F} (h : Rf w B A n c D) : D.length = n := by
  have := h.1
  rw [fvs_len] at this
  omega
theorem Rf.below {w w' : World} {B : Nat} {A : Option Addr} {n c : Nat} {D : List Bm.F} (h : Rf w B A n c D) (hb : Below B w w') : Rf w' B A n c D := Rc.below h hb
theorem Rf.more {w : World} {B B' : Nat} {A : Option Addr} {n c : Nat} {D : List Bm.F} (h : Rf w B A n c D) (hB : B ≤ B') : Rf w B' A n c D := Rc.more h hB
theorem Rf.at_ {w : World} {B : Nat} {A : Option Addr} {n c k : Nat} {D : List Bm.F} (h : Rf w B A n c D) (hk : k < n) :
    ∃ b off f, A = some ⟨b, off, none⟩ ∧ b < B ∧ D[k]? = some f ∧ w.cell? ⟨b, off + k * 4, none⟩ = some (.int .i64 (f.at_ : Int)) ∧ w.cell? ⟨b, off + k * 4 + 1, none⟩ = some (.string ⟨f.nm.toArray⟩) ∧ w.cell? ⟨b, off + k * 4 + 2, none⟩ = some (.int .i64 (f.sz : Int)) ∧ w.cell? ⟨b, off + k * 4 + 3, none⟩ = some (.int .i64 (f.st : Int)) := by
  have hl := h.len
  obtain ⟨h1, h2, h3, h4⟩ := h
  obtain ⟨b, off, rfl, hb, hc⟩ := h4 (by omega)
  have hkl : k < D.length := by omega
  obtain ⟨a0, a1, a2, a3⟩ := fvs_get D k D[k] (List.getElem?_eq_getElem hkl)
  exact ⟨b, off, D[k], rfl, hb, List.getElem?_eq_getElem hkl, hc _ _ a0, by rw [Nat.add_assoc]; exact hc _ _ a1, by rw [Nat.add_assoc]; exact hc _ _ a2, by rw [Nat.add_assoc]; exact hc _ _ a3⟩
theorem Rf.head {w : World} {B : Nat} {A : Option Addr} {n c k : Nat} {D : List Bm.F} (h : Rf w B A n c D) (hk : k ≤ n) : Rf w B A k c (D.take k) := by
  have hl := h.len
  obtain ⟨h1, h2, h3, h4⟩ := h
  refine ⟨by rw [fvs_len, List.length_take]; congr 1; omega, by omega, h3, fun hn => ?_⟩
  obtain ⟨b, off, e, hb, hc⟩ := h4 (by omega)
  refine ⟨b, off, e, hb, fun j x hx => ?_⟩
  rw [← fvs_take, List.getElem?_take] at hx
  split at hx
  · exact hc _ x hx
  · cases hx
/-- Rows beside. -/
theorem Oc.tn {z k : Nat} {w w' : World} {e : TypeId} {base n c : Nat} {A : Option Addr} {vs : List Value} (h : Oc z w e base A n c vs) (ht : Tn k w w') (hk : k < base ∨ ∀ g, ob A = some g → g ≠ k) : Oc z w' e base A n c vs :=
  h.other fun g hA => by
    have hg := oc_ob h g (by rw [hA]; rfl)
    refine ht.heap hg.2 ?_
    rcases hk with hk | hk
    · omega
    · exact hk g (by rw [hA]; rfl)
theorem Grows.keepH {w w' : World} {A A' : Option Addr} (h : Grows w w' A A') {g : Nat} (hg : g < w.heap.size) (hne : some g ≠ ob A) : w'.heap[g]? = w.heap[g]? := h.1.block g hg hne
theorem oc_low {z : Nat} {w : World} {e : TypeId} {base n c g : Nat} {A : Option Addr} {vs : List Value} (h : Oc z w e base A n c vs) (hg : g < base) : some g ≠ ob A := fun q => by
  have := (oc_ob h g q.symm).1
  omega
theorem oc_high {z : Nat} {w : World} {e : TypeId} {base n c g : Nat} {A : Option Addr} {vs : List Value} (h : Oc z w e base A n c vs) (hg : w.heap.size ≤ g) : some g ≠ ob A := fun q => by
  have := (oc_ob h g q.symm).2
  omega

theorem RcS.rf {w : World} {base n c : Nat} {A : Option Addr} {D : List Bm.F} (h : RcS 4 w (Fr base w) A n c (fvs D)) : Rf w w.heap.size A n c D := (h.keep (stays_weak fr_lt)).rc
/-- What a directory comes to. -/
def dv (A : Option Addr) (n c e : Nat) : Value := .agg #[.slice A n c, .int .i64 (e : Int)]
def RetDir (w : World) (t : Option (List Bm.F × Nat)) (e : Ending) (w' : World) : Prop :=
  Below w.heap.size w w' ∧ match t with
  | some (D, en) => ∃ A c, e = .returned (.tuple #[dv A D.length c en, .bool true]) ∧ RcS 4 w' (Fr w.heap.size w') A D.length c (fvs D)
  | none => e = .returned (.tuple #[dv none 0 0 0, .bool false])
end Go.Proofs.Ytdhbfoelpdoofaa
