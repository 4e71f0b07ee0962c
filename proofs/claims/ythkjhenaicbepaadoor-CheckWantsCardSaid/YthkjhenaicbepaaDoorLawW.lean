/-
  Arguments opened: programs, kinds.
-/
import Derived.Test.YthkjhenaicbepaaDoorLawV
namespace Go.Proofs.YthkjhenaicbepaaDoor
open Go.ChangeShapes Go.WideShapes Go.ChangeAt Go.RowKit Go.Joins Go.Deep Vl Cd

instance : Inhabited Cd.Ins := ⟨Cd.i0⟩
theorem add_at' (b off k : Nat) : (⟨b, off, none⟩ : Addr).add k = ⟨b, off + k, none⟩ := by
  by_cases h : k = 0
  · subst h; simp [Addr.add]
  · simp [Addr.add, h]
theorem ics_inv (l : List Ins) (j : Nat) (u : Value) (h : (ics l)[j]? = some u) : ∃ (i : Nat) (v : Ins), l[i]? = some v ∧ (j = i * 3 ∧ u = .int .i64 v.op ∨ j = i * 3 + 1 ∧ u = .int .i64 v.n ∨ j = i * 3 + 2 ∧ u = st v.s) := by
  have hj : j < (ics l).length := (List.getElem?_eq_some_iff.1 h).1
  rw [ics_len] at hj
  have hi : j / 3 < l.length := by omega
  obtain ⟨g1, g2, g3⟩ := ics_get l (j / 3) l[j / 3] (List.getElem?_eq_getElem hi)
  refine ⟨j / 3, l[j / 3], List.getElem?_eq_getElem hi, ?_⟩
  rcases (show j = j / 3 * 3 ∨ j = j / 3 * 3 + 1 ∨ j = j / 3 * 3 + 2 by omega) with e | e | e
  · rw [← e, h] at g1; injection g1 with g1; exact .inl ⟨e, g1⟩
  · rw [← e, h] at g2; injection g2 with g2; exact .inr (.inl ⟨e, g2⟩)
  · rw [← e, h] at g3; injection g3 with g3; exact .inr (.inr ⟨e, g3⟩)

section
variable {H : Type} {enc : TypeId × Value → H} {P : Program} {W : World}

/-- Three cells of a value. -/
theorem ins_cells {e : TypeId} {f0 f1 f2 : Field} {cs : List Value} {y : DataW H × List MemPlace} {n : Nat} (he : P.underlying e = some (.struct #[f0, f1, f2])) (ce : P.cellsOf e = 3)
    (o0 : f0.offset = 0) (o1 : f1.offset = 1) (o2 : f2.offset = 2) (c0 : P.cellsOf f0.type = 1) (c1 : P.cellsOf f1.type = 1) (c2 : P.cellsOf f2.type = 1)
    (h0 : P.underlying f0.type = some (.int .i64)) (h1 : P.underlying f1.type = some (.int .i64)) (h2 : P.underlying f2.type = some .string)
    (h : DataW.trod enc P W 0 (fun _ => true) true n e cs = some y) : ∃ v : Ins, cs = [.int .i64 v.op, .int .i64 v.n, st v.s] ∧ (I v.op ∧ I v.n) := by
  obtain ⟨y0, y1, y2, m, -, hl, g0, g1, g2⟩ := trod_struct3 he h
  rw [ce] at hl
  match cs, hl with
  | [x0, x1, x2], _ =>
    simp [o0, c0] at g0
    simp [o1, c1] at g1
    simp [o2, c2] at g2
    obtain ⟨b, e0, -, w0⟩ := DataW.trod_int h0 g0
    obtain ⟨a, e1, -, w1⟩ := DataW.trod_int h1 g1
    obtain ⟨s, e2, -, -⟩ := DataW.trod_string h2 g2
    simp at e0 e1 e2
    subst e0 e1 e2
    exact ⟨⟨b, a, s.data.toList⟩, by simp, wf_I w0, wf_I w1⟩

/-- A '[]api.Ins' that came in. -/
theorem inss_open {t e : TypeId} {f0 f1 f2 : Field} {v : Value} {d : DataW H} {p : List MemPlace} {r : Reach} {b0 : Nat} (ht : P.underlying t = some (.slice e)) (he : P.underlying e = some (.struct #[f0, f1, f2])) (ce : P.cellsOf e = 3)
    (o0 : f0.offset = 0) (o1 : f1.offset = 1) (o2 : f2.offset = 2) (c0 : P.cellsOf f0.type = 1) (c1 : P.cellsOf f1.type = 1) (c2 : P.cellsOf f2.type = 1)
    (h0 : P.underlying f0.type = some (.int .i64)) (h1 : P.underlying f1.type = some (.int .i64)) (h2 : P.underlying f2.type = some .string)
    (hv : Value.okWide P W r b0 t v) (h : DataW.Trod enc P W 0 (fun _ => true) true t v d p) :
    ∃ A n c l, v = .slice A n c ∧ Rc 3 W W.heap.size A n c (ics l) ∧ n ≤ maxLen ∧ ∀ x ∈ l, I x.op ∧ I x.n := by
  obtain ⟨a0, len0, cap0, rfl⟩ := okWide_slice ht hv
  obtain ⟨fuel, hf⟩ := h
  rcases open_slice ht hf with ⟨hcs, _⟩ | ⟨a, len, cap, m, n, D, Pl, hcs, _, hl, hm, hmm, -, hx⟩
  · simp [Value.cells] at hcs
    obtain ⟨rfl, rfl, rfl⟩ := hcs
    exact ⟨none, 0, 0, [], rfl, Rc.nil _ _ _, by unfold maxLen; omega, fun q hq => by cases hq⟩
  · simp [Value.cells] at hcs
    obtain ⟨rfl, rfl, rfl⟩ := hcs
    simp only [if_true] at hmm
    have hml : len0 ≤ m := by omega
    obtain ⟨L, hL⟩ := choose_lt (α := Ins) (n := m) (p := fun i v => (W.cell? (a.add (i * 3)) = some (.int .i64 v.op) ∧ W.cell? (a.add (i * 3 + 1)) = some (.int .i64 v.n) ∧ W.cell? (a.add (i * 3 + 2)) = some (st v.s)) ∧ (I v.op ∧ I v.n)) (fun i hi => by
      obtain ⟨cs', g1, g2⟩ := hx i hi
      rw [ce] at g1
      obtain ⟨v, rfl, hI⟩ := ins_cells he ce o0 o1 o2 c0 c1 c2 h0 h1 h2 g2
      obtain ⟨_, _, hcell⟩ := World.cells?_some g1
      have k0 := hcell 0 (by omega)
      have k1 := hcell 1 (by omega)
      have k2 := hcell 2 (by omega)
      rw [add_add] at k0 k1 k2
      exact ⟨v, ⟨by simpa using k0, by simpa using k1, by simpa using k2⟩, hI⟩)
    refine ⟨some a, len0, cap0, (List.range len0).map L, rfl, ⟨by rw [ics_len]; simp, hl, hm, fun hn => ?_⟩, by omega, fun q hq => ?_⟩
    · have hc0 := (hL 0 (by omega)).1.1
      obtain ⟨b, off, spot⟩ := a
      have hspot : spot = none := by simpa [Addr.add] using World.cell?_spot hc0
      subst hspot
      have hlt := World.block_lt_of_cell? W _ hc0
      rw [add_at'] at hlt
      refine ⟨b, off, rfl, hlt, fun j u hj => ?_⟩
      obtain ⟨i, v, hv, hor⟩ := ics_inv _ j u hj
      rw [List.getElem?_map, Option.map_eq_some_iff] at hv
      obtain ⟨k, hk, rfl⟩ := hv
      obtain ⟨hk1, hk2⟩ := List.getElem?_eq_some_iff.1 hk
      rw [List.getElem_range] at hk2
      subst hk2
      have hil : i < len0 := by simpa using hk1
      obtain ⟨⟨g0, g1, g2⟩, _⟩ := hL i (by omega)
      rw [add_at'] at g0 g1 g2
      rcases hor with ⟨rfl, rfl⟩ | ⟨rfl, rfl⟩ | ⟨rfl, rfl⟩
      · exact g0
      · exact g1
      · exact g2
    · obtain ⟨i, hi, rfl⟩ := List.mem_map.1 hq
      have hi' : i < len0 := List.mem_range.1 hi
      exact (hL i (by omega)).2


/-- A '[]bool' that came in. -/
theorem flags_open {t e : TypeId} {v : Value} {d : DataW H} {p : List MemPlace} {r : Reach} {b0 : Nat} (ht : P.underlying t = some (.slice e)) (he : P.underlying e = some .bool) (hC : P.cellsOf e = 1)
    (hv : Value.okWide P W r b0 t v) (h : DataW.Trod enc P W 0 (fun _ => true) true t v d p) : ∃ A n c, ∃ l : List Bool, v = .slice A n c ∧ Rc 1 W W.heap.size A n c (lvb l) := by
  obtain ⟨a0, len0, cap0, rfl⟩ := okWide_slice ht hv
  obtain ⟨fuel, hf⟩ := h
  rcases open_bools ht he hC hf with ⟨hcs, _⟩ | ⟨x, l, c, B, hcs, _, hl, hm, _, hcell⟩
  · simp [Value.cells] at hcs
    obtain ⟨rfl, rfl, rfl⟩ := hcs
    exact ⟨none, 0, 0, [], rfl, Rc.nil _ _ _⟩
  · simp [Value.cells] at hcs
    obtain ⟨rfl, rfl, rfl⟩ := hcs
    refine ⟨some x, len0, cap0, (List.range len0).map B, rfl, by unfold lvb; simp, hl, hm, fun hn => ?_⟩
    obtain ⟨b, off, spot⟩ := x
    have hc0 := hcell 0 (by omega)
    have hspot : spot = none := by simpa [Addr.add] using World.cell?_spot hc0
    subst hspot
    have hlt := World.block_lt_of_cell? W _ hc0
    refine ⟨b, off, rfl, by simpa [Addr.add] using hlt, fun j y hj => ?_⟩
    unfold lvb at hj
    rw [List.getElem?_map, List.getElem?_map, Option.map_map, Option.map_eq_some_iff] at hj
    obtain ⟨z, hz1, rfl⟩ := hj
    have hjl : j < len0 := by have := (List.getElem?_eq_some_iff.1 hz1).1; simpa using this
    have hz2 : z = j := by
      rw [List.getElem?_eq_getElem (by simpa using hjl)] at hz1
      simpa using hz1.symm
    subst hz2
    have hcj := hcell z (by omega)
    by_cases h0 : z = 0
    · subst h0; simpa [Addr.add] using hcj
    · simpa [Addr.add, h0] using hcj

end
end Go.Proofs.YthkjhenaicbepaaDoor
