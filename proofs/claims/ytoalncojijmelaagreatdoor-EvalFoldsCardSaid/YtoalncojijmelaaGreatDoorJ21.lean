/-
  Joined: LawW.
-/
import Derived.Test.YtoalncojijmelaaGreatDoorJ20
import Derived.Test.YtoalncojijmelaaGreatDoorJ9
import Derived.Test.YtoalncojijmelaaGreatDoorJ7
/-
  Arguments opened: programs, records, a sum with a value and fuel.
-/
namespace Go.Proofs.YtoalncojijmelaaGreatDoor
open Go.ChangeShapes Go.WideShapes Go.ChangeAt Go.RowKit Go.Joins Go.Deep Vl Cd

instance : Inhabited Cd.Ins := ⟨Cd.i0⟩
theorem add_at' (b off k : Nat) : (⟨b, off, none⟩ : Addr).add k = ⟨b, off + k, none⟩ := by
  by_cases h : k = 0
  · subst h; simp [Addr.add]
  · simp [Addr.add, h]
theorem ics_inv (l : List Ins) (j : Nat) (u : Value) (h : (ics l)[j]? = some u) : ∃ (i : Nat) (v : Ins), l[i]? = some v ∧ (j = i * 3 ∧ u = .int .i64 v.op ∨ j = i * 3 + 1 ∧ u = .int .i64 v.n ∨ j = i * 3 + 2 ∧ u = st v.s) := by
  have hj : j < (ics l).length := (List.getElem?_eq_some_iff.1 h).1
  rw [ics_len] at hj
  have hi : j / 3 < l.length := by omega
  obtain ⟨g1, g2, g3⟩ := ics_get l (j / 3) l[j / 3] (List.getElem?_eq_getElem hi)
  refine ⟨j / 3, l[j / 3], List.getElem?_eq_getElem hi, ?_⟩
  rcases (show j = j / 3 * 3 ∨ j = j / 3 * 3 + 1 ∨ j = j / 3 * 3 + 2 by omega) with e | e | e
  · rw [← e, h] at g1; injection g1 with g1; exact .inl ⟨e, g1⟩
  · rw [← e, h] at g2; injection g2 with g2; exact .inr (.inl ⟨e, g2⟩)
  · rw [← e, h] at g3; injection g3 with g3; exact .inr (.inr ⟨e, g3⟩)

section
variable {H : Type} {enc : TypeId × Value → H} {P : Program} {W : World}

/-- Three cells of a value. -/
theorem ins_cells {e : TypeId} {f0 f1 f2 : Field} {cs : List Value} {y : DataW H × List MemPlace} {n : Nat} (he : P.underlying e = some (.struct #[f0, f1, f2])) (ce : P.cellsOf e = 3)
    (o0 : f0.offset = 0) (o1 : f1.offset = 1) (o2 : f2.offset = 2) (c0 : P.cellsOf f0.type = 1) (c1 : P.cellsOf f1.type = 1) (c2 : P.cellsOf f2.type = 1)
    (h0 : P.underlying f0.type = some (.int .i64)) (h1 : P.underlying f1.type = some (.int .i64)) (h2 : P.underlying f2.type = some .string)
    (h : DataW.trod enc P W 0 (fun _ => true) true n e cs = some y) : ∃ v : Ins, cs = [.int .i64 v.op, .int .i64 v.n, st v.s] ∧ (I v.op ∧ I v.n) := by
  obtain ⟨y0, y1, y2, m, -, hl, g0, g1, g2⟩ := trod_struct3 he h
  rw [ce] at hl
  match cs, hl with
  | [x0, x1, x2], _ =>
    simp [o0, c0] at g0
    simp [o1, c1] at g1
    simp [o2, c2] at g2
    obtain ⟨b, e0, -, w0⟩ := DataW.trod_int h0 g0
    obtain ⟨a, e1, -, w1⟩ := DataW.trod_int h1 g1
    obtain ⟨s, e2, -, -⟩ := DataW.trod_string h2 g2
    simp at e0 e1 e2
    subst e0 e1 e2
    exact ⟨⟨b, a, s.data.toList⟩, by simp, wf_I w0, wf_I w1⟩

/-- A '[]api.Ins' that came in. -/
theorem inss_open {t e : TypeId} {f0 f1 f2 : Field} {v : Value} {d : DataW H} {p : List MemPlace} {r : Reach} {b0 : Nat} (ht : P.underlying t = some (.slice e)) (he : P.underlying e = some (.struct #[f0, f1, f2])) (ce : P.cellsOf e = 3)
    (o0 : f0.offset = 0) (o1 : f1.offset = 1) (o2 : f2.offset = 2) (c0 : P.cellsOf f0.type = 1) (c1 : P.cellsOf f1.type = 1) (c2 : P.cellsOf f2.type = 1)
    (h0 : P.underlying f0.type = some (.int .i64)) (h1 : P.underlying f1.type = some (.int .i64)) (h2 : P.underlying f2.type = some .string)
    (hv : Value.okWide P W r b0 t v) (h : DataW.Trod enc P W 0 (fun _ => true) true t v d p) :
    ∃ A n c l, v = .slice A n c ∧ Rc 3 W W.heap.size A n c (ics l) ∧ n ≤ maxLen ∧ ∀ x ∈ l, I x.op ∧ I x.n := by
  obtain ⟨a0, len0, cap0, rfl⟩ := okWide_slice ht hv
  obtain ⟨fuel, hf⟩ := h
  rcases open_slice ht hf with ⟨hcs, _⟩ | ⟨a, len, cap, m, n, D, Pl, hcs, _, hl, hm, hmm, -, hx⟩
  · simp [Value.cells] at hcs
    obtain ⟨rfl, rfl, rfl⟩ := hcs
    exact ⟨none, 0, 0, [], rfl, Rc.nil _ _ _, by unfold maxLen; omega, fun q hq => by cases hq⟩
  · simp [Value.cells] at hcs
    obtain ⟨rfl, rfl, rfl⟩ := hcs
    simp only [if_true] at hmm
    have hml : len0 ≤ m := by omega
    obtain ⟨L, hL⟩ := choose_lt (α := Ins) (n := m) (p := fun i v => (W.cell? (a.add (i * 3)) = some (.int .i64 v.op) ∧ W.cell? (a.add (i * 3 + 1)) = some (.int .i64 v.n) ∧ W.cell? (a.add (i * 3 + 2)) = some (st v.s)) ∧ (I v.op ∧ I v.n)) (fun i hi => by
      obtain ⟨cs', g1, g2⟩ := hx i hi
      rw [ce] at g1
      obtain ⟨v, rfl, hI⟩ := ins_cells he ce o0 o1 o2 c0 c1 c2 h0 h1 h2 g2
      obtain ⟨_, _, hcell⟩ := World.cells?_some g1
      have k0 := hcell 0 (by omega)
      have k1 := hcell 1 (by omega)
      have k2 := hcell 2 (by omega)
      rw [add_add] at k0 k1 k2
      exact ⟨v, ⟨by simpa using k0, by simpa using k1, by simpa using k2⟩, hI⟩)
    refine ⟨some a, len0, cap0, (List.range len0).map L, rfl, ⟨by rw [ics_len]; simp, hl, hm, fun hn => ?_⟩, by omega, fun q hq => ?_⟩
    · have hc0 := (hL 0 (by omega)).1.1
      obtain ⟨b, off, spot⟩ := a
      have hspot : spot = none := by simpa [Addr.add] using World.cell?_spot hc0
      subst hspot
      have hlt := World.block_lt_of_cell? W _ hc0
      rw [add_at'] at hlt
      refine ⟨b, off, rfl, hlt, fun j u hj => ?_⟩
      obtain ⟨i, v, hv, hor⟩ := ics_inv _ j u hj
      rw [List.getElem?_map, Option.map_eq_some_iff] at hv
      obtain ⟨k, hk, rfl⟩ := hv
      obtain ⟨hk1, hk2⟩ := List.getElem?_eq_some_iff.1 hk
      rw [List.getElem_range] at hk2
      subst hk2
      have hil : i < len0 := by simpa using hk1
      obtain ⟨⟨g0, g1, g2⟩, _⟩ := hL i (by omega)
      rw [add_at'] at g0 g1 g2
      rcases hor with ⟨rfl, rfl⟩ | ⟨rfl, rfl⟩ | ⟨rfl, rfl⟩
      · exact g0
      · exact g1
      · exact g2
    · obtain ⟨i, hi, rfl⟩ := List.mem_map.1 hq
      have hi' : i < len0 := List.mem_range.1 hi
      exact (hL i (by omega)).2
/-- Three cells of a value. -/
theorem val_cells {e : TypeId} {f0 f1 f2 : Field} {cs : List Value} {y : DataW H × List MemPlace} {n : Nat} (he : P.underlying e = some (.struct #[f0, f1, f2])) (ce : P.cellsOf e = 3)
    (o0 : f0.offset = 0) (o1 : f1.offset = 1) (o2 : f2.offset = 2) (c0 : P.cellsOf f0.type = 1) (c1 : P.cellsOf f1.type = 1) (c2 : P.cellsOf f2.type = 1)
    (h0 : P.underlying f0.type = some .bool) (h1 : P.underlying f1.type = some (.int .i64)) (h2 : P.underlying f2.type = some .string)
    (h : DataW.trod enc P W 0 (fun _ => true) true n e cs = some y) : ∃ v : V, cs = [.bool v.t, .int .i64 v.n, st v.s] ∧ I v.n := by
  obtain ⟨y0, y1, y2, m, -, hl, g0, g1, g2⟩ := trod_struct3 he h
  rw [ce] at hl
  match cs, hl with
  | [x0, x1, x2], _ =>
    simp [o0, c0] at g0
    simp [o1, c1] at g1
    simp [o2, c2] at g2
    obtain ⟨b, e0, -⟩ := DataW.trod_bool h0 g0
    obtain ⟨a, e1, -, w1⟩ := DataW.trod_int h1 g1
    obtain ⟨s, e2, -, -⟩ := DataW.trod_string h2 g2
    simp at e0 e1 e2
    subst e0 e1 e2
    exact ⟨⟨b, a, s.data.toList⟩, by simp, wf_I w1⟩

/-- A sum, a value and fuel that came in. -/
theorem sums_open {t e : TypeId} {F0 F1 F2 f0 f1 f2 : Field} {v : Value} {d : DataW H} {p : List MemPlace} {r : Reach} {b0 : Nat} (ht : P.underlying t = some (.struct #[F0, F1, F2])) (hC : P.cellsOf t = 7) (t0 : F0.type = e) (t1 : F1.type = e) (O0 : F0.offset = 0) (O1 : F1.offset = 3) (O2 : F2.offset = 6) (C2 : P.cellsOf F2.type = 1) (hI : P.underlying F2.type = some (.int .i64))
    (he : P.underlying e = some (.struct #[f0, f1, f2])) (ce : P.cellsOf e = 3)
    (o0 : f0.offset = 0) (o1 : f1.offset = 1) (o2 : f2.offset = 2) (c0 : P.cellsOf f0.type = 1) (c1 : P.cellsOf f1.type = 1) (c2 : P.cellsOf f2.type = 1)
    (h0 : P.underlying f0.type = some .bool) (h1 : P.underlying f1.type = some (.int .i64)) (h2 : P.underlying f2.type = some .string)
    (hv : Value.okWide P W r b0 t v) (h : DataW.Trod enc P W 0 (fun _ => true) true t v d p) :
    ∃ (x y : V) (g : Int), v = .agg #[.bool x.t, .int .i64 x.n, st x.s, .bool y.t, .int .i64 y.n, st y.s, .int .i64 g] ∧ I x.n ∧ I y.n ∧ I g := by
  simp only [Value.okWide, ht] at hv
  obtain ⟨cs, rfl, hsz, _⟩ := hv
  rw [hC] at hsz
  obtain ⟨fuel, hf⟩ := h
  obtain ⟨y0, y1, y2, m, -, hl, g0, g1, g2⟩ := trod_struct3 ht hf
  rw [O0, t0, ce] at g0
  rw [O1, t1, ce] at g1
  rw [O2, C2] at g2
  obtain ⟨L, hL⟩ : ∃ L, L = cs.toList := ⟨_, rfl⟩
  have hl7 : L.length = 7 := by rw [hL, Array.length_toList]; exact hsz
  simp only [Value.cells] at g0 g1 g2
  rw [← hL] at g0 g1 g2
  have hcs : cs = L.toArray := by rw [hL]
  match L, hl7 with
  | [x0, x1, x2, x3, x4, x5, x6], _ =>
    simp at g0 g1 g2
    obtain ⟨x, ex, ix⟩ := val_cells he ce o0 o1 o2 c0 c1 c2 h0 h1 h2 g0
    obtain ⟨y, ey, iy⟩ := val_cells he ce o0 o1 o2 c0 c1 c2 h0 h1 h2 g1
    obtain ⟨g, eg, -, wg⟩ := DataW.trod_int hI g2
    simp at ex ey eg
    obtain ⟨rfl, rfl, rfl⟩ := ex
    obtain ⟨rfl, rfl, rfl⟩ := ey
    subst eg
    exact ⟨x, y, g, by rw [hcs], ix, iy, wf_I wg⟩
end
theorem weightsAll_mem {H : Type} {P : Program} {e : TypeId} : ∀ {l : List (DataW H)} {d : DataW H}, d ∈ l → ∀ n ∈ d.weights P e, n ∈ DataW.weightsAll P e l
  | x :: r, d, h, n, hn => by
    simp only [DataW.weightsAll, List.mem_append]
    rcases List.mem_cons.1 h with rfl | h
    · exact .inl hn
    · exact .inr (weightsAll_mem h n hn)
theorem weights_slice {H : Type} {P : Program} {t e : TypeId} {es sp : List (DataW H)} (ht : P.underlying t = some (.slice e)) {d : DataW H} (hd : d ∈ es) (n : Nat) (hn : n ∈ d.weights P e) : n ∈ (DataW.slice es sp).weights P t := by
  simp only [DataW.weights, ht]
  exact List.mem_cons_of_mem _ (List.mem_append_left _ (weightsAll_mem hd n hn))
theorem reach_le {H : Type} {P : Program} {ts : List TypeId} {ds : List (DataW H)} (h : (DataW.weightsEach P ts ds).all (· ≤ reachBytes) = true) {j : Nat} {t : TypeId} {d : DataW H} (ht : ts[j]? = some t) (hd : ds[j]? = some d) {n : Nat} (hn : n ∈ d.weights P t) : n ≤ 140737488355328 := by
  have h1 := List.all_eq_true.1 h _ (DataW.weights_mem_each ht hd n hn)
  have h2 := reachBytes_lt
  simp at h1
  omega
theorem add_at (b off k : Nat) : (⟨b, off, none⟩ : Addr).add k = ⟨b, off + k, none⟩ := by
  by_cases h : k = 0
  · subst h; simp [Addr.add]
  · simp [Addr.add, h]

section
variable {H : Type} {enc : TypeId × Value → H} {P : Program} {W : World}

/-- One record. -/
theorem rec_open {e s : TypeId} {V : Value} {x : DataW H × List MemPlace} {n : Nat} (he : P.underlying e = some (.slice s)) (hs : P.underlying s = some .string) (cs : P.cellsOf s = 1) (h : DataW.trod enc P W 0 (fun _ => true) true n e [V] = some x) :
    ∃ (r : List (List UInt8)), Rr W W.heap.size V r ∧ ∀ q ∈ r, q.length ∈ x.1.weights P e := by
  rcases open_strs he hs cs h with ⟨hcs, _⟩ | ⟨a, len, cap, m, Sx, hcs, _, hl, hm, hmm, hd, hx⟩
  · have : V = .slice none 0 0 := by simpa using hcs
    subst this
    exact ⟨[], ⟨none, 0, 0, rfl, Rc.nil _ _ _⟩, fun q hq => by cases hq⟩
  · have : V = .slice (some a) len cap := by simpa using hcs
    subst this
    simp only [if_true] at hmm
    refine ⟨(List.range len).map fun i => (Sx i).data.toList, ⟨some a, len, cap, rfl, by simp [lvs], hl, hm, fun hn => ?_⟩, fun q hq => ?_⟩
    · have hc0 := (hx 0 (by omega)).1
      obtain ⟨b, off, spot⟩ := a
      have hspot : spot = none := by simpa [Addr.add] using World.cell?_spot hc0
      subst hspot
      have hlt := World.block_lt_of_cell? W _ hc0
      rw [add_at] at hlt
      refine ⟨b, off, rfl, hlt, fun j v hj => ?_⟩
      simp only [lvs, List.map_map, List.getElem?_map, Option.map_eq_some_iff] at hj
      obtain ⟨k, hk, rfl⟩ := hj
      obtain ⟨hk1, hk2⟩ := List.getElem?_eq_some_iff.1 hk
      rw [List.getElem_range] at hk2
      subst hk2
      have hjl : j < len := by simpa using hk1
      have g := (hx j (by omega)).1
      rw [add_at] at g
      exact g
    · obtain ⟨i, hi, rfl⟩ := List.mem_map.1 hq
      rw [hd]
      exact weights_slice he (List.mem_map.2 ⟨i, hi, rfl⟩) _ (by simp [DataW.weights])
/-- One record that came in. -/
theorem rec1_open {e s : TypeId} {v : Value} {d : DataW H} {p : List MemPlace} {r : Reach} {b0 : Nat} (he : P.underlying e = some (.slice s)) (hs : P.underlying s = some .string) (cs : P.cellsOf s = 1)
    (hv : Value.okWide P W r b0 e v) (h : DataW.Trod enc P W 0 (fun _ => true) true e v d p) :
    ∃ A n c r, v = .slice A n c ∧ Rc 1 W W.heap.size A n c (lvs r) ∧ ∀ q ∈ r, q.length ∈ d.weights P e := by
  obtain ⟨a0, len0, cap0, rfl⟩ := okWide_slice he hv
  obtain ⟨fuel, hf⟩ := h
  obtain ⟨r, ⟨A, n, c, hV, hr⟩, hw⟩ := rec_open he hs cs (V := .slice a0 len0 cap0) (x := (d, p)) (by simpa [Value.cells] using hf)
  exact ⟨A, n, c, r, hV, hr, hw⟩
end
theorem wf_u16 {a : Int} (h : (Lit.int .u16 a).wf = true) : 0 ≤ a ∧ a < 65536 := by
  have := bounds_u16 h
  omega
end Go.Proofs.YtoalncojijmelaaGreatDoor
