/-
  What a law's frame needs for '[]api.Pair' and '[]api.Rec': arguments opened to words; the reach of the texts in them.
-/
import Derived.Test.YtihfejjkkgnneaaLaw
import Derived.Test.YtihfejjkkgnneaaQ1
import Derived.Test.YtihfejjkkgnneaaR1
import Derived.Deep.SlicePairs
import Derived.Deep.Strs
import Derived.SizedLaws
namespace Go.Proofs.Ytihfejjkkgnneaa
open Go.ChangeShapes Go.WideShapes Go.ChangeAt Go.RowKit Go.Joins Go.Deep

theorem weightsAll_mem {H : Type} {P : Program} {e : TypeId} : ∀ {l : List (DataW H)} {d : DataW H}, d ∈ l → ∀ n ∈ d.weights P e, n ∈ DataW.weightsAll P e l
  | x :: r, d, h, n, hn => by
    simp only [DataW.weightsAll, List.mem_append]
    rcases List.mem_cons.1 h with rfl | h
    · exact .inl hn
    · exact .inr (weightsAll_mem h n hn)
theorem weights_slice {H : Type} {P : Program} {t e : TypeId} {es sp : List (DataW H)} (ht : P.underlying t = some (.slice e)) {d : DataW H} (hd : d ∈ es) (n : Nat) (hn : n ∈ d.weights P e) : n ∈ (DataW.slice es sp).weights P t := by
  simp only [DataW.weights, ht]
  exact List.mem_cons_of_mem _ (List.mem_append_left _ (weightsAll_mem hd n hn))
theorem reach_le {H : Type} {P : Program} {ts : List TypeId} {ds : List (DataW H)} (h : (DataW.weightsEach P ts ds).all (· ≤ reachBytes) = true) {j : Nat} {t : TypeId} {d : DataW H} (ht : ts[j]? = some t) (hd : ds[j]? = some d) {n : Nat} (hn : n ∈ d.weights P t) : n ≤ 140737488355328 := by
  have h1 := List.all_eq_true.1 h _ (DataW.weights_mem_each ht hd n hn)
  have h2 := reachBytes_lt
  simp at h1
  omega
theorem add_at (b off k : Nat) : (⟨b, off, none⟩ : Addr).add k = ⟨b, off + k, none⟩ := by
  by_cases h : k = 0
  · subst h; simp [Addr.add]
  · simp [Addr.add, h]

theorem pvs_inv (l : List (List UInt8 × List UInt8)) (j : Nat) (v : Value) (h : (pvs l)[j]? = some v) : ∃ (i : Nat) (p : List UInt8 × List UInt8), l[i]? = some p ∧ (j = i * 2 ∧ v = .string ⟨p.1.toArray⟩ ∨ j = i * 2 + 1 ∧ v = .string ⟨p.2.toArray⟩) := by
  have hj : j < (pvs l).length := (List.getElem?_eq_some_iff.1 h).1
  rw [pvs_length] at hj
  have hi : j / 2 < l.length := by omega
  obtain ⟨g1, g2⟩ := pvs_get l (j / 2) l[j / 2] (List.getElem?_eq_getElem hi)
  refine ⟨j / 2, l[j / 2], List.getElem?_eq_getElem hi, ?_⟩
  by_cases hp : j % 2 = 0
  · have e : j = j / 2 * 2 := by omega
    rw [← e, h] at g1
    injection g1 with g1
    exact .inl ⟨e, g1⟩
  · have e : j = j / 2 * 2 + 1 := by omega
    rw [← e, h] at g2
    injection g2 with g2
    exact .inr ⟨e, g2⟩

section
variable {H : Type} {enc : TypeId × Value → H} {P : Program} {W : World}

/-- A '[]api.Pair' that came in. -/
theorem rp_open {t e : TypeId} {f0 f1 : Field} {v : Value} {d : DataW H} {p : List MemPlace} {r : Reach} {b0 : Nat} (ht : P.underlying t = some (.slice e)) (he : P.underlying e = some (.struct #[f0, f1]))
    (ce : P.cellsOf e = 2) (o0 : f0.offset = 0) (o1 : f1.offset = 1) (c0 : P.cellsOf f0.type = 1) (c1 : P.cellsOf f1.type = 1) (h0 : P.underlying f0.type = some .string) (h1 : P.underlying f1.type = some .string)
    (hv : Value.okWide P W r b0 t v) (h : DataW.Trod enc P W 0 (fun _ => true) true t v d p) :
    ∃ A n c l, v = .slice A n c ∧ RP W W.heap.size A n c l ∧ ∀ q ∈ l, q.1.length ∈ d.weights P t ∧ q.2.length ∈ d.weights P t := by
  obtain ⟨a0, len0, cap0, rfl⟩ := okWide_slice ht hv
  obtain ⟨fuel, hf⟩ := h
  rcases open_slice_pairs ht he ce o0 o1 c0 c1 hf with ⟨hcs, _⟩ | ⟨a, len, cap, m, n, V0, V1, D0, D1, P0, P1, hcs, _, hl, hm, hmm, hd, hx⟩
  · simp [Value.cells] at hcs
    obtain ⟨rfl, rfl, rfl⟩ := hcs
    exact ⟨none, 0, 0, [], rfl, Rc.nil _ _ _, fun q hq => by cases hq⟩
  · simp [Value.cells] at hcs
    obtain ⟨rfl, rfl, rfl⟩ := hcs
    simp only [if_true] at hmm
    have hml : len0 ≤ m := by omega
    obtain ⟨S0, hS0⟩ := choose_lt (α := List UInt8) (n := m) (p := fun i s => V0 i = .string ⟨s.toArray⟩ ∧ D0 i = .lit (.string s)) (fun i hi => by
      obtain ⟨s, e1, e2, _⟩ := DataW.trod_string h0 (hx i hi).2.2.1
      simp only [Prod.mk.injEq] at e2
      exact ⟨s.data.toList, by simpa using e1, e2.1⟩)
    obtain ⟨S1, hS1⟩ := choose_lt (α := List UInt8) (n := m) (p := fun i s => V1 i = .string ⟨s.toArray⟩ ∧ D1 i = .lit (.string s)) (fun i hi => by
      obtain ⟨s, e1, e2, _⟩ := DataW.trod_string h1 (hx i hi).2.2.2
      simp only [Prod.mk.injEq] at e2
      exact ⟨s.data.toList, by simpa using e1, e2.1⟩)
    have hget : ∀ (i : Nat) (q : List UInt8 × List UInt8), ((List.range len0).map fun i => (S0 i, S1 i))[i]? = some q → i < len0 ∧ q = (S0 i, S1 i) := fun i q hq => by
      rw [List.getElem?_map, Option.map_eq_some_iff] at hq
      obtain ⟨k, hk, rfl⟩ := hq
      obtain ⟨hk1, hk2⟩ := List.getElem?_eq_some_iff.1 hk
      rw [List.getElem_range] at hk2
      subst hk2
      exact ⟨by simpa using hk1, rfl⟩
    refine ⟨some a, len0, cap0, (List.range len0).map fun i => (S0 i, S1 i), rfl, ⟨by rw [pvs_length]; simp, hl, hm, fun hn => ?_⟩, fun q hq => ?_⟩
    · have hc0 := (hx 0 (by omega)).1
      obtain ⟨b, off, spot⟩ := a
      have hspot : spot = none := by simpa [Addr.add] using World.cell?_spot hc0
      subst hspot
      have hlt := World.block_lt_of_cell? W _ hc0
      rw [add_at] at hlt
      refine ⟨b, off, rfl, hlt, fun j v hj => ?_⟩
      obtain ⟨i, q, hq, hor⟩ := pvs_inv _ j v hj
      obtain ⟨hi, rfl⟩ := hget i q hq
      obtain ⟨g0, g1, _, _⟩ := hx i (by omega)
      rw [add_at] at g0 g1
      rcases hor with ⟨rfl, rfl⟩ | ⟨rfl, rfl⟩
      · rw [g0, (hS0 i (by omega)).1]
      · rw [← Nat.add_assoc] at g1 ⊢
        rw [g1, (hS1 i (by omega)).1]
    · obtain ⟨i, hi, rfl⟩ := List.mem_map.1 hq
      have hi' : i < len0 := List.mem_range.1 hi
      simp only [Prod.mk.injEq] at hd
      have hmem : DataW.agg [D0 i, D1 i] ∈ (List.range len0).map fun i => DataW.agg [D0 i, D1 i] := List.mem_map.2 ⟨i, hi, rfl⟩
      have hw : ∀ x ∈ (DataW.agg [D0 i, D1 i]).weights P e, x ∈ d.weights P t := fun x hx => by rw [hd.1]; exact weights_slice ht hmem x hx
      have e0 := (hS0 i (by omega)).2
      have e1 := (hS1 i (by omega)).2
      constructor
      · refine hw _ ?_
        simp [DataW.weights, he, DataW.weightsEach, e0]
      · refine hw _ ?_
        simp [DataW.weights, he, DataW.weightsEach, e1]

/-- One record. -/
theorem rec_open {e s : TypeId} {V : Value} {x : DataW H × List MemPlace} {n : Nat} (he : P.underlying e = some (.slice s)) (hs : P.underlying s = some .string) (cs : P.cellsOf s = 1) (h : DataW.trod enc P W 0 (fun _ => true) true n e [V] = some x) :
    ∃ (r : List (List UInt8)), Rr W W.heap.size V r ∧ ∀ q ∈ r, q.length ∈ x.1.weights P e := by
  rcases open_strs he hs cs h with ⟨hcs, _⟩ | ⟨a, len, cap, m, Sx, hcs, _, hl, hm, hmm, hd, hx⟩
  · have : V = .slice none 0 0 := by simpa using hcs
    subst this
    exact ⟨[], ⟨none, 0, 0, rfl, Rc.nil _ _ _⟩, fun q hq => by cases hq⟩
  · have : V = .slice (some a) len cap := by simpa using hcs
    subst this
    simp only [if_true] at hmm
    refine ⟨(List.range len).map fun i => (Sx i).data.toList, ⟨some a, len, cap, rfl, by simp [lvs], hl, hm, fun hn => ?_⟩, fun q hq => ?_⟩
    · have hc0 := (hx 0 (by omega)).1
      obtain ⟨b, off, spot⟩ := a
      have hspot : spot = none := by simpa [Addr.add] using World.cell?_spot hc0
      subst hspot
      have hlt := World.block_lt_of_cell? W _ hc0
      rw [add_at] at hlt
      refine ⟨b, off, rfl, hlt, fun j v hj => ?_⟩
      simp only [lvs, List.map_map, List.getElem?_map, Option.map_eq_some_iff] at hj
      obtain ⟨k, hk, rfl⟩ := hj
      obtain ⟨hk1, hk2⟩ := List.getElem?_eq_some_iff.1 hk
      rw [List.getElem_range] at hk2
      subst hk2
      have hjl : j < len := by simpa using hk1
      have g := (hx j (by omega)).1
      rw [add_at] at g
      exact g
    · obtain ⟨i, hi, rfl⟩ := List.mem_map.1 hq
      rw [hd]
      exact weights_slice he (List.mem_map.2 ⟨i, hi, rfl⟩) _ (by simp [DataW.weights])

/-- A '[]api.Rec' that came in. -/
theorem rl_open {t e s : TypeId} {v : Value} {d : DataW H} {p : List MemPlace} {r : Reach} {b0 : Nat} (ht : P.underlying t = some (.slice e)) (he : P.underlying e = some (.slice s)) (hs : P.underlying s = some .string) (ce : P.cellsOf e = 1) (cs : P.cellsOf s = 1)
    (hv : Value.okWide P W r b0 t v) (h : DataW.Trod enc P W 0 (fun _ => true) true t v d p) :
    ∃ A n c l, v = .slice A n c ∧ RL W W.heap.size A n c l ∧ ∀ r ∈ l, ∀ q ∈ r, q.length ∈ d.weights P t := by
  obtain ⟨a0, len0, cap0, rfl⟩ := okWide_slice ht hv
  obtain ⟨fuel, hf⟩ := h
  rcases open_slice1 ht ce hf with ⟨hcs, _⟩ | ⟨a, len, cap, m, n, V, D, Pl, hcs, _, hl, hm, hmm, hd, hx⟩
  · simp [Value.cells] at hcs
    obtain ⟨rfl, rfl, rfl⟩ := hcs
    exact ⟨none, 0, 0, [], rfl, ⟨[], Rc.nil _ _ _, Rrs.nil _ _⟩, fun r hr => by cases hr⟩
  · simp [Value.cells] at hcs
    obtain ⟨rfl, rfl, rfl⟩ := hcs
    simp only [if_true] at hmm
    have hml : len0 ≤ m := by omega
    obtain ⟨R, hR⟩ := choose_lt (α := List (List UInt8)) (n := m) (p := fun i r => Rr W W.heap.size (V i) r ∧ ∀ q ∈ r, q.length ∈ (D i).weights P e) (fun i hi => rec_open he hs cs (hx i hi).2)
    refine ⟨some a, len0, cap0, (List.range len0).map R, rfl, ⟨(List.range len0).map V, ⟨by simp, hl, hm, fun hn => ?_⟩, by simp, fun j u r hu hr => ?_⟩, fun r hr q hq => ?_⟩
    · have hc0 := (hx 0 (by omega)).1
      obtain ⟨b, off, spot⟩ := a
      have hspot : spot = none := by simpa [Addr.add] using World.cell?_spot hc0
      subst hspot
      have hlt := World.block_lt_of_cell? W _ hc0
      rw [add_at] at hlt
      refine ⟨b, off, rfl, hlt, fun j v hj => ?_⟩
      rw [List.getElem?_map, Option.map_eq_some_iff] at hj
      obtain ⟨k, hk, rfl⟩ := hj
      obtain ⟨hk1, hk2⟩ := List.getElem?_eq_some_iff.1 hk
      rw [List.getElem_range] at hk2
      subst hk2
      have hjl : j < len0 := by simpa using hk1
      have g := (hx j (by omega)).1
      rw [add_at] at g
      exact g
    · rw [List.getElem?_map, Option.map_eq_some_iff] at hu hr
      obtain ⟨k, hk, rfl⟩ := hu
      obtain ⟨k', hk', rfl⟩ := hr
      rw [hk] at hk'
      injection hk' with hk'
      subst hk'
      obtain ⟨hk1, hk2⟩ := List.getElem?_eq_some_iff.1 hk
      rw [List.getElem_range] at hk2
      subst hk2
      have hjl : j < len0 := by simpa using hk1
      exact (hR j (by omega)).1
    · obtain ⟨i, hi, rfl⟩ := List.mem_map.1 hr
      have hi' : i < len0 := List.mem_range.1 hi
      simp only [Prod.mk.injEq] at hd
      rw [hd.1]
      exact weights_slice ht (List.mem_map.2 ⟨i, hi, rfl⟩) _ ((hR i (by omega)).2 q hq)
end
end Go.Proofs.Ytihfejjkkgnneaa
