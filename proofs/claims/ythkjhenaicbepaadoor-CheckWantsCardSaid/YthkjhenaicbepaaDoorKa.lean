/-
  Words for values, instructions, programs in memory.
-/
import Derived.Test.YthkjhenaicbepaaDoorKm
import Derived.Test.YthkjhenaicbepaaDoorRw
import Derived.Test.YthkjhenaicbepaaDoorG1
import Derived.Test.YthkjhenaicbepaaDoorProg
import Derived.Lib.Hide
import Derived.Lib.MinMax
import Derived.BigQuiet
import Derived.Deep.QuietTactic
import Derived.Laws.Rows
import Derived.IntWalk
import Derived.Lib.Strings
namespace Go.Proofs.YthkjhenaicbepaaDoor
open Go.RowKit Vl Cd

theorem ext_eq (l : List UInt8) (a b : Nat) : (ByteArray.mk l.toArray).extract a b = ByteArray.mk ((l.take b).drop a).toArray := by
  have h : ((ByteArray.mk l.toArray).extract a b).data.toList = ((l.take b).drop a) := by
    simp [ByteArray.data_extract, List.extract_eq_take_drop, List.drop_take]
  cases h2 : (ByteArray.mk l.toArray).extract a b with
  | mk x => rw [h2] at h; rw [← h]
/-- A text as a value of the model's. -/
abbrev st (s : List UInt8) : Value := .string ⟨s.toArray⟩
abbrev vv (v : V) : Value := .agg #[.bool v.t, .int .i64 v.n, st v.s]

/-- A block of three cells. -/
structure Bx (w : World) (g : Nat) (v0 v1 v2 : Value) : Prop where
  c0 : w.cell? ⟨g, 0, none⟩ = some v0
  c1 : w.cell? ⟨g, 1, none⟩ = some v1
  c2 : w.cell? ⟨g, 2, none⟩ = some v2
  f0 : w.frozen? ⟨g, 0, none⟩ = false
  f1 : w.frozen? ⟨g, 1, none⟩ = false
  f2 : w.frozen? ⟨g, 2, none⟩ = false
  lt : g < w.heap.size
theorem Bx.made (w : World) (T : TypeId) (v0 v1 v2 : Value) : Bx (w.alloc (.cells #[v0, v1, v2] T)) w.heap.size v0 v1 v2 := ⟨by simp, by simp, by simp, by simp, by simp, by simp, by simp⟩
theorem Bx.keep {w w' : World} {g : Nat} {v0 v1 v2 : Value} (h : Bx w g v0 v1 v2) (hs : w.heap.size ≤ w'.heap.size) (hg : w'.heap[g]? = w.heap[g]?) : Bx w' g v0 v1 v2 := by
  have c : ∀ k, w'.cell? ⟨g, k, none⟩ = w.cell? ⟨g, k, none⟩ := fun k => by unfold World.cell?; rw [hg]
  have f : ∀ k, w'.frozen? ⟨g, k, none⟩ = w.frozen? ⟨g, k, none⟩ := fun k => by unfold World.frozen?; rw [hg]
  exact ⟨(c 0).trans h.c0, (c 1).trans h.c1, (c 2).trans h.c2, (f 0).trans h.f0, (f 1).trans h.f1, (f 2).trans h.f2, Nat.lt_of_lt_of_le h.lt hs⟩
theorem Bx.below {w w' : World} {g B : Nat} {v0 v1 v2 : Value} (h : Bx w g v0 v1 v2) (hb : Below B w w') (hg : g < B) : Bx w' g v0 v1 v2 := h.keep hb.size (hb.block g hg)
def put3 (w : World) (g : Nat) (v0 v1 v2 : Value) : World := ((w.setCell ⟨g, 0, none⟩ v0).setCell ⟨g, 1, none⟩ v1).setCell ⟨g, 2, none⟩ v2
theorem put3_below (w : World) (g : Nat) (v0 v1 v2 : Value) : Below g w (put3 w g v0 v1 v2) :=
  (((Below.refl g w).setCell (Nat.le_refl _) _).setCell (Nat.le_refl _) _).setCell (Nat.le_refl _) _
theorem put3_box {w : World} {g : Nat} {a b c : Value} (h : Bx w g a b c) (v0 v1 v2 : Value) : Bx (put3 w g v0 v1 v2) g v0 v1 v2 := by
  unfold put3
  have z : (((w.setCell ⟨g, 0, none⟩ v0).setCell ⟨g, 1, none⟩ v1).setCell ⟨g, 2, none⟩ v2).heap.size = w.heap.size := by simp
  have f : ∀ j, (((w.setCell ⟨g, 0, none⟩ v0).setCell ⟨g, 1, none⟩ v1).setCell ⟨g, 2, none⟩ v2).frozen? ⟨g, j, none⟩ = w.frozen? ⟨g, j, none⟩ := fun j => by simp
  have c0 : (w.setCell ⟨g, 0, none⟩ v0).cell? ⟨g, 0, none⟩ = some v0 := World.cell?_setCell_same w _ _ h.c0
  have c1 : (w.setCell ⟨g, 0, none⟩ v0).cell? ⟨g, 1, none⟩ = some b := (World.cell?_setCell_other w _ _ _ (by simp)).trans h.c1
  have c2 : (w.setCell ⟨g, 0, none⟩ v0).cell? ⟨g, 2, none⟩ = some c := (World.cell?_setCell_other w _ _ _ (by simp)).trans h.c2
  have d0 := (World.cell?_setCell_other (w.setCell ⟨g, 0, none⟩ v0) ⟨g, 1, none⟩ ⟨g, 0, none⟩ v1 (by simp)).trans c0
  have d1 : ((w.setCell ⟨g, 0, none⟩ v0).setCell ⟨g, 1, none⟩ v1).cell? ⟨g, 1, none⟩ = some v1 := World.cell?_setCell_same _ _ _ c1
  have d2 := (World.cell?_setCell_other (w.setCell ⟨g, 0, none⟩ v0) ⟨g, 1, none⟩ ⟨g, 2, none⟩ v1 (by simp)).trans c2
  exact ⟨(World.cell?_setCell_other _ ⟨g, 2, none⟩ ⟨g, 0, none⟩ v2 (by simp)).trans d0, (World.cell?_setCell_other _ ⟨g, 2, none⟩ ⟨g, 1, none⟩ v2 (by simp)).trans d1, World.cell?_setCell_same _ _ _ d2, (f 0).trans h.f0, (f 1).trans h.f1, (f 2).trans h.f2, by rw [z]; exact h.lt⟩
/-- What a call that keeps the blocks below hands over. -/
def RetV (w : World) (v : Value) (e : Ending) (w' : World) : Prop := e = .returned v ∧ Below w.heap.size w w'


/-- An instruction as a value. -/
abbrev iv (x : Ins) : Value := .agg #[.int .i64 x.op, .int .i64 x.n, st x.s]
theorem em_of {X : ByteArray} {s : List UInt8} (h : X = ⟨s.toArray⟩) : X.toList.isEmpty = (s == []) := by
  rw [Lib.toList_data, h]; cases s <;> rfl
theorem hide_st (s : List UInt8) : ∃ X : ByteArray, X = ⟨s.toArray⟩ ∧ X.size = s.length ∧ X.toList.isEmpty = (s == []) ∧ X.data.toList = s :=
  ⟨_, rfl, rfl, em_of rfl, by simp⟩


/-- The cells of a program. -/
def ics (l : List Ins) : List Value := l.flatMap fun v => [.int .i64 v.op, .int .i64 v.n, st v.s]
theorem ics_len (l : List Ins) : (ics l).length = l.length * 3 := by
  induction l with
  | nil => rfl
  | cons v l ih => unfold ics at ih ⊢; rw [List.flatMap_cons, List.length_append, ih]; simp; omega
theorem ics_app (l r : List Ins) : ics (l ++ r) = ics l ++ ics r := by simp [ics]
theorem ics_one (l : List Ins) : ∀ v ∈ ics l, v.oneCell' = true := by
  intro v hv
  obtain ⟨x, -, h⟩ := List.mem_flatMap.1 hv
  simp at h
  rcases h with rfl | rfl | rfl <;> rfl
theorem ics_get : ∀ (l : List Ins) (k : Nat) (v : Ins), l[k]? = some v → (ics l)[k * 3]? = some (.int .i64 v.op) ∧ (ics l)[k * 3 + 1]? = some (.int .i64 v.n) ∧ (ics l)[k * 3 + 2]? = some (st v.s)
  | [], k, v, h => by simp at h
  | x :: l, 0, v, h => by
    simp at h; subst h
    exact ⟨rfl, rfl, rfl⟩
  | x :: l, k + 1, v, h => by
    have ih := ics_get l k v (by simpa using h)
    have e : ics (x :: l) = [.int .i64 x.op, .int .i64 x.n, st x.s] ++ ics l := rfl
    rw [e, show (k + 1) * 3 = k * 3 + 3 by omega, show k * 3 + 3 + 1 = (k * 3 + 1) + 3 by omega, show k * 3 + 3 + 2 = (k * 3 + 2) + 3 by omega]
    rw [List.getElem?_append_right (by simp), List.getElem?_append_right (by simp), List.getElem?_append_right (by simp)]
    simpa using ih
theorem ics_num {w : World} {B n c : Nat} {A : Option Addr} {l : List Ins} (h : Rc 3 w B A n c (ics l)) : l.length = n := by have := h.1; rw [ics_len] at this; omega
theorem ics_at {w : World} {B n c k : Nat} {A : Option Addr} {l : List Ins} (h : Rc 3 w B A n c (ics l)) (hk : k < n) :
    ∃ b o v, A = some ⟨b, o, none⟩ ∧ b < B ∧ w.cell? ⟨b, o + k * 3, none⟩ = some (.int .i64 v.op) ∧ w.cell? ⟨b, o + k * 3 + 1, none⟩ = some (.int .i64 v.n) ∧ w.cell? ⟨b, o + k * 3 + 2, none⟩ = some (st v.s) ∧ l[k]? = some v := by
  have hl : l.length = n := ics_num h
  obtain ⟨b, o, e, hb, hc⟩ := h.2.2.2 (by omega)
  have hkl : k < l.length := by omega
  have hg := List.getElem?_eq_getElem hkl
  obtain ⟨g1, g2, g3⟩ := ics_get l k _ hg
  exact ⟨b, o, l[k], e, hb, hc _ _ g1, by rw [Nat.add_assoc]; exact hc _ _ g2, by rw [Nat.add_assoc]; exact hc _ _ g3, hg⟩
theorem ity : Sl Tryd.prog 22 37 (.agg #[.int .i64 0, .int .i64 0, .string ⟨#[]⟩]) 3 32 := ⟨Tryd.underlying22, by kernel_rfl, rfl, by omega⟩


theorem Sl.sz {P : Program} {t e : TypeId} {zv : Value} {z y : Nat} (u : Sl P t e zv z y) (W : World) : (sizeOf (P.elem t)).run P W = .ok z W := by
  obtain ⟨i, hi, hz0, hz1, hz2⟩ := info_parts u.inf
  have he : P.elem t = e := by simp [Program.elem, u.sl]
  simp [sizeOf, typeInfo, he, hi, hz1]
theorem Sl.sl' {P : Program} {t e : TypeId} {zv : Value} {z y : Nat} (u : Sl P t e zv z y) : P.underlying t = some (.slice (P.elem t)) := by
  have he : P.elem t = e := by simp [Program.elem, u.sl]
  rw [he]; exact u.sl
/-- 's[k:]' -/
theorem Sl.from_ {P : Program} {t e : TypeId} {zv : Value} {z y : Nat} (u : Sl P t e zv z y) (A : Option Addr) (n c k : Nat) (hk : k ≤ n) (K : Int) (hK : K = (k : Int)) :
    ∀ W kd, (Instr.slice t (.slice A n c) (some (.int kd K)) none none).run P W = .ok (.slice (if c = k then A else A.map (·.add (k * z))) (n - k) (c - k)) W := fun W kd => by
  subst hK
  rw [run_slice_l W t _ _ _ u.sl' kd (k : Int) (by omega) (by omega), u.sz]
  simp [Result.andThen, sliced]
/-- 's[:k]' -/
theorem Sl.upto {P : Program} {t e : TypeId} {zv : Value} {z y : Nat} (u : Sl P t e zv z y) (A : Option Addr) (n c k : Nat) (hk : k ≤ n) (hn : n ≤ c) (K : Int) (hK : K = (k : Int)) :
    ∀ W kd, (Instr.slice t (.slice A n c) none (some (.int kd K)) none).run P W = .ok (.slice A k c) W := fun W kd => by
  subst hK
  rw [run_slice_h W t _ _ _ u.sl' kd (k : Int) (by omega) (by omega), u.sz]
  by_cases h0 : c = 0
  · subst h0
    obtain rfl : k = 0 := by omega
    simp [Result.andThen, sliced]
  · simp [Result.andThen, sliced, h0]
    cases A <;> simp [Addr.add]
theorem Rc.upto {z : Nat} {w : World} {B n c k : Nat} {A : Option Addr} {vs : List Value} (h : Rc z w B A n c vs) (hk : k ≤ n) : Rc z w B A k c (vs.take (k * z)) := by
  obtain ⟨h1, h2, h3, h4⟩ := h
  refine ⟨by rw [List.length_take, h1]; exact Nat.min_eq_left (Nat.mul_le_mul_right z hk), by omega, h3, fun hn => ?_⟩
  obtain ⟨b, off, rfl, hb, hc⟩ := h4 (by omega)
  refine ⟨b, off, rfl, hb, fun j x hx => ?_⟩
  rw [List.getElem?_take] at hx
  split at hx
  · exact hc _ x hx
  · cases hx
theorem Rc.from_ {z : Nat} {w : World} {B n c k : Nat} {A : Option Addr} {vs : List Value} (h : Rc z w B A n c vs) (hk : k ≤ n) : Rc z w B (if c = k then A else A.map (·.add (k * z))) (n - k) (c - k) (vs.drop (k * z)) := by
  obtain ⟨h1, h2, h3, h4⟩ := h
  refine ⟨by rw [List.length_drop, h1, Nat.sub_mul], by omega, by omega, fun hn => ?_⟩
  obtain ⟨b, off, rfl, hb, hc⟩ := h4 (by omega)
  rw [if_neg (by omega)]
  refine ⟨b, off + k * z, ?_, hb, fun j x hx => ?_⟩
  · by_cases h0 : k * z = 0
    · simp [Addr.add, h0]
    · simp [Addr.add, h0]
  · rw [List.getElem?_drop] at hx
    rw [Nat.add_assoc]
    exact hc _ x hx
theorem Sl.opAppAt {P : Program} {t e : TypeId} {zv : Value} {z y : Nat} (u : Sl P t e zv z y) {w : World} {o : Oper} {a : Act} {K : Act → World → Prop} {Q : Exit → Act → World → Prop} (p q : Operand)
    (ho : o.op = .call { callee := .builtin .append, args := #[p, q], argTypes := #[t, t] })
    {base n c B m d N : Nat} {A D : Option Addr} {vs us ws : List Value} (hx : a.eval p = .slice A n c) (hy : a.eval q = .slice D m d) (hown : Oc z w e base A n c vs) (hr : Rc z w B D m d us) (h1 : ∀ v ∈ us, v.oneCell' = true)
    (hN : n + m = N) (hvs : vs ++ us = ws) (hsm : N * y ≤ 140737488355328) (hnm : N ≤ 140737488355328) (hbase : base ≤ w.heap.size)
    (h : ∀ A' c' w', Oc z w' e base A' N c' ws → Grows w w' A A' → K (a.put o.dst (.slice A' N c')) w') : o.wp P a w K Q := by
  subst hN hvs
  obtain ⟨A', c', w', hrun, h2, h3⟩ := u.appendAt o.type hown hr h1 hsm hnm hbase
  unfold Oper.wp execOp
  simp only [ho, resolve, invoke, builtin, Sem.run_bind, Sem.run_pure, Result.andThen_ok, List.map_toArray, List.map_cons, List.map_nil, hx, hy, hrun]
  exact h A' c' w' h2 h3
theorem ics_take : ∀ (l : List Ins) (k : Nat), (ics l).take (k * 3) = ics (l.take k)
  | [], k => by simp [ics]
  | x :: l, 0 => by simp [ics]
  | x :: l, k + 1 => by
    have e : ics (x :: l) = .int .i64 x.op :: .int .i64 x.n :: st x.s :: ics l := rfl
    have e2 : ics ((x :: l).take (k + 1)) = .int .i64 x.op :: .int .i64 x.n :: st x.s :: ics (l.take k) := rfl
    rw [e, e2, show (k + 1) * 3 = k * 3 + 3 by omega, List.take_succ_cons, List.take_succ_cons, List.take_succ_cons, ics_take l k]
theorem ics_drop : ∀ (l : List Ins) (k : Nat), (ics l).drop (k * 3) = ics (l.drop k)
  | [], k => by simp [ics]
  | x :: l, 0 => by simp [ics]
  | x :: l, k + 1 => by
    have e : ics (x :: l) = .int .i64 x.op :: .int .i64 x.n :: st x.s :: ics l := rfl
    rw [e, show (k + 1) * 3 = k * 3 + 3 by omega, List.drop_succ_cons, List.drop_succ_cons, List.drop_succ_cons, ics_drop l k, List.drop_succ_cons]
end Go.Proofs.YthkjhenaicbepaaDoor
