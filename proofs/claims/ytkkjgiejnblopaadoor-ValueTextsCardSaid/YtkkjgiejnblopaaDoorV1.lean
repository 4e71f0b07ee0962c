/-
  Values in memory; the document's clip, Num, Text, yes, Is.
-/
import Derived.Test.YtkkjgiejnblopaaDoorVp
import Derived.Test.YtkkjgiejnblopaaDoorG1
import Derived.Test.YtkkjgiejnblopaaDoorProg
import Derived.Lib.Hide
import Derived.Lib.MinMax
import Derived.BigQuiet
import Derived.Deep.QuietTactic
namespace Go.Proofs.YtkkjgiejnblopaaDoor
open Go.RowKit Vl

theorem ext_eq (l : List UInt8) (a b : Nat) : (ByteArray.mk l.toArray).extract a b = ByteArray.mk ((l.take b).drop a).toArray := by
  have h : ((ByteArray.mk l.toArray).extract a b).data.toList = ((l.take b).drop a) := by
    simp [ByteArray.data_extract, List.extract_eq_take_drop, List.drop_take]
  cases h2 : (ByteArray.mk l.toArray).extract a b with
  | mk x => rw [h2] at h; rw [← h]
/-- A text as a value of the model's. -/
abbrev st (s : List UInt8) : Value := .string ⟨s.toArray⟩
abbrev vv (v : V) : Value := .agg #[.bool v.t, .int .i64 v.n, st v.s]

/-- A block of three cells. -/
structure Bx (w : World) (g : Nat) (v0 v1 v2 : Value) : Prop where
  c0 : w.cell? ⟨g, 0, none⟩ = some v0
  c1 : w.cell? ⟨g, 1, none⟩ = some v1
  c2 : w.cell? ⟨g, 2, none⟩ = some v2
  f0 : w.frozen? ⟨g, 0, none⟩ = false
  f1 : w.frozen? ⟨g, 1, none⟩ = false
  f2 : w.frozen? ⟨g, 2, none⟩ = false
  lt : g < w.heap.size
theorem Bx.made (w : World) (T : TypeId) (v0 v1 v2 : Value) : Bx (w.alloc (.cells #[v0, v1, v2] T)) w.heap.size v0 v1 v2 := ⟨by simp, by simp, by simp, by simp, by simp, by simp, by simp⟩
theorem Bx.keep {w w' : World} {g : Nat} {v0 v1 v2 : Value} (h : Bx w g v0 v1 v2) (hs : w.heap.size ≤ w'.heap.size) (hg : w'.heap[g]? = w.heap[g]?) : Bx w' g v0 v1 v2 := by
  have c : ∀ k, w'.cell? ⟨g, k, none⟩ = w.cell? ⟨g, k, none⟩ := fun k => by unfold World.cell?; rw [hg]
  have f : ∀ k, w'.frozen? ⟨g, k, none⟩ = w.frozen? ⟨g, k, none⟩ := fun k => by unfold World.frozen?; rw [hg]
  exact ⟨(c 0).trans h.c0, (c 1).trans h.c1, (c 2).trans h.c2, (f 0).trans h.f0, (f 1).trans h.f1, (f 2).trans h.f2, Nat.lt_of_lt_of_le h.lt hs⟩
theorem Bx.below {w w' : World} {g B : Nat} {v0 v1 v2 : Value} (h : Bx w g v0 v1 v2) (hb : Below B w w') (hg : g < B) : Bx w' g v0 v1 v2 := h.keep hb.size (hb.block g hg)
def put3 (w : World) (g : Nat) (v0 v1 v2 : Value) : World := ((w.setCell ⟨g, 0, none⟩ v0).setCell ⟨g, 1, none⟩ v1).setCell ⟨g, 2, none⟩ v2
theorem put3_below (w : World) (g : Nat) (v0 v1 v2 : Value) : Below g w (put3 w g v0 v1 v2) :=
  (((Below.refl g w).setCell (Nat.le_refl _) _).setCell (Nat.le_refl _) _).setCell (Nat.le_refl _) _
theorem put3_box {w : World} {g : Nat} {a b c : Value} (h : Bx w g a b c) (v0 v1 v2 : Value) : Bx (put3 w g v0 v1 v2) g v0 v1 v2 := by
  unfold put3
  have z : (((w.setCell ⟨g, 0, none⟩ v0).setCell ⟨g, 1, none⟩ v1).setCell ⟨g, 2, none⟩ v2).heap.size = w.heap.size := by simp
  have f : ∀ j, (((w.setCell ⟨g, 0, none⟩ v0).setCell ⟨g, 1, none⟩ v1).setCell ⟨g, 2, none⟩ v2).frozen? ⟨g, j, none⟩ = w.frozen? ⟨g, j, none⟩ := fun j => by simp
  have c0 : (w.setCell ⟨g, 0, none⟩ v0).cell? ⟨g, 0, none⟩ = some v0 := World.cell?_setCell_same w _ _ h.c0
  have c1 : (w.setCell ⟨g, 0, none⟩ v0).cell? ⟨g, 1, none⟩ = some b := (World.cell?_setCell_other w _ _ _ (by simp)).trans h.c1
  have c2 : (w.setCell ⟨g, 0, none⟩ v0).cell? ⟨g, 2, none⟩ = some c := (World.cell?_setCell_other w _ _ _ (by simp)).trans h.c2
  have d0 := (World.cell?_setCell_other (w.setCell ⟨g, 0, none⟩ v0) ⟨g, 1, none⟩ ⟨g, 0, none⟩ v1 (by simp)).trans c0
  have d1 : ((w.setCell ⟨g, 0, none⟩ v0).setCell ⟨g, 1, none⟩ v1).cell? ⟨g, 1, none⟩ = some v1 := World.cell?_setCell_same _ _ _ c1
  have d2 := (World.cell?_setCell_other (w.setCell ⟨g, 0, none⟩ v0) ⟨g, 1, none⟩ ⟨g, 2, none⟩ v1 (by simp)).trans c2
  exact ⟨(World.cell?_setCell_other _ ⟨g, 2, none⟩ ⟨g, 0, none⟩ v2 (by simp)).trans d0, (World.cell?_setCell_other _ ⟨g, 2, none⟩ ⟨g, 1, none⟩ v2 (by simp)).trans d1, World.cell?_setCell_same _ _ _ d2, (f 0).trans h.f0, (f 1).trans h.f1, (f 2).trans h.f2, by rw [z]; exact h.lt⟩
/-- What a call that keeps the blocks below hands over. -/
def RetV (w : World) (v : Value) (e : Ending) (w' : World) : Prop := e = .returned v ∧ Below w.heap.size w w'

set_option maxRecDepth 100000 in
theorem clip_c (s : List UInt8) (hs : s.length ≤ 1000000) (w : World) : Calls Tryd.prog 69 #[st s] w fun e w' => e = .returned (st (s.take 1000)) ∧ w = w' := by
  obtain ⟨X, hX⟩ : ∃ X : ByteArray, X = ⟨s.toArray⟩ := ⟨_, rfl⟩
  have hXs : X.size = s.length := by rw [hX]; rfl
  obtain ⟨q, hq⟩ : ∃ q, q = min s.length 1000 := ⟨_, rfl⟩
  have ht : s.take q = s.take 1000 := by
    rcases Nat.le_total s.length 1000 with h | h
    · rw [List.take_of_length_le (by omega), List.take_of_length_le h]
    · rw [show q = 1000 by omega]
  have e1 : X.extract 0 q = ⟨(s.take 1000).toArray⟩ := by rw [hX, ext_eq, List.drop_zero, ht]
  have e2 : min (X.size : Int) 1000 = (q : Int) := by omega
  have e3 : q ≤ X.size := by omega
  have E1 := Lib.hid e1
  show Calls _ _ #[.string ⟨s.toArray⟩] _ _
  rw [← hX]
  clear hq e1 hs hXs hX ht
  go_enter Tryd.func69, Tryd.ntmps69
  go_wp2
  go_ret
  exact ⟨congrArg (fun x => Ending.returned (.string x)) E1.out, rfl⟩

set_option maxRecDepth 100000 in
theorem num_c (n : Int) (w : World) : Calls Tryd.prog 50 #[.int .i64 n] w (RetV w (vv (num n))) := by
  go_enter Tryd.func50, Tryd.ntmps50
  go_wp2
  refine bodyPost_ret (v := vv (num n)) ?_ rfl ⟨rfl, (Below.refl _ _).alloc (Nat.le_refl _) _⟩
  simp [results, Tryd.results50, go_sem, num]
set_option maxRecDepth 100000 in
theorem text_c (s : List UInt8) (hs : s.length ≤ 1000000) (w : World) : Calls Tryd.prog 53 #[st s] w (RetV w (vv (txt s))) := by
  go_enter Tryd.func53, Tryd.ntmps53
  go_wp2_with fail
  refine (clip_c s hs _).mono ?_
  rintro e w1 ⟨rfl, rfl⟩
  go_wp2
  refine bodyPost_ret (v := vv (txt s)) ?_ rfl ⟨rfl, (Below.refl _ _).alloc (Nat.le_refl _) _⟩
  simp [results, Tryd.results53, go_sem, txt]
end Go.Proofs.YtkkjgiejnblopaaDoor
