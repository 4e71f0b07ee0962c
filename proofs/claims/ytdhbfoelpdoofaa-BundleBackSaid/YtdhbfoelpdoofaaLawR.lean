/-
  What a law's frame needs for '[]api.Rec' and '[]int': arguments opened to words; the reach of the texts in them. (LawP, for seats without pairs.)
-/
import Derived.Test.YtdhbfoelpdoofaaLaw
import Derived.Test.YtdhbfoelpdoofaaRw
import Derived.Deep.SlicePairs
import Derived.Deep.Strs
import Derived.SizedLaws
namespace Go.Proofs.Ytdhbfoelpdoofaa
open Go.ChangeShapes Go.WideShapes Go.ChangeAt Go.RowKit Go.Joins Go.Deep

theorem weightsAll_mem {H : Type} {P : Program} {e : TypeId} : ∀ {l : List (DataW H)} {d : DataW H}, d ∈ l → ∀ n ∈ d.weights P e, n ∈ DataW.weightsAll P e l
  | x :: r, d, h, n, hn => by
    simp only [DataW.weightsAll, List.mem_append]
    rcases List.mem_cons.1 h with rfl | h
    · exact .inl hn
    · exact .inr (weightsAll_mem h n hn)
theorem weights_slice {H : Type} {P : Program} {t e : TypeId} {es sp : List (DataW H)} (ht : P.underlying t = some (.slice e)) {d : DataW H} (hd : d ∈ es) (n : Nat) (hn : n ∈ d.weights P e) : n ∈ (DataW.slice es sp).weights P t := by
  simp only [DataW.weights, ht]
  exact List.mem_cons_of_mem _ (List.mem_append_left _ (weightsAll_mem hd n hn))
theorem reach_le {H : Type} {P : Program} {ts : List TypeId} {ds : List (DataW H)} (h : (DataW.weightsEach P ts ds).all (· ≤ reachBytes) = true) {j : Nat} {t : TypeId} {d : DataW H} (ht : ts[j]? = some t) (hd : ds[j]? = some d) {n : Nat} (hn : n ∈ d.weights P t) : n ≤ 140737488355328 := by
  have h1 := List.all_eq_true.1 h _ (DataW.weights_mem_each ht hd n hn)
  have h2 := reachBytes_lt
  simp at h1
  omega
theorem add_at (b off k : Nat) : (⟨b, off, none⟩ : Addr).add k = ⟨b, off + k, none⟩ := by
  by_cases h : k = 0
  · subst h; simp [Addr.add]
  · simp [Addr.add, h]

section
variable {H : Type} {enc : TypeId × Value → H} {P : Program} {W : World}

/-- One record. -/
theorem rec_open {e s : TypeId} {V : Value} {x : DataW H × List MemPlace} {n : Nat} (he : P.underlying e = some (.slice s)) (hs : P.underlying s = some .string) (cs : P.cellsOf s = 1) (h : DataW.trod enc P W 0 (fun _ => true) true n e [V] = some x) :
    ∃ (r : List (List UInt8)), Rr W W.heap.size V r ∧ ∀ q ∈ r, q.length ∈ x.1.weights P e := by
  rcases open_strs he hs cs h with ⟨hcs, _⟩ | ⟨a, len, cap, m, Sx, hcs, _, hl, hm, hmm, hd, hx⟩
  · have : V = .slice none 0 0 := by simpa using hcs
    subst this
    exact ⟨[], ⟨none, 0, 0, rfl, Rc.nil _ _ _⟩, fun q hq => by cases hq⟩
  · have : V = .slice (some a) len cap := by simpa using hcs
    subst this
    simp only [if_true] at hmm
    refine ⟨(List.range len).map fun i => (Sx i).data.toList, ⟨some a, len, cap, rfl, by simp [lvs], hl, hm, fun hn => ?_⟩, fun q hq => ?_⟩
    · have hc0 := (hx 0 (by omega)).1
      obtain ⟨b, off, spot⟩ := a
      have hspot : spot = none := by simpa [Addr.add] using World.cell?_spot hc0
      subst hspot
      have hlt := World.block_lt_of_cell? W _ hc0
      rw [add_at] at hlt
      refine ⟨b, off, rfl, hlt, fun j v hj => ?_⟩
      simp only [lvs, List.map_map, List.getElem?_map, Option.map_eq_some_iff] at hj
      obtain ⟨k, hk, rfl⟩ := hj
      obtain ⟨hk1, hk2⟩ := List.getElem?_eq_some_iff.1 hk
      rw [List.getElem_range] at hk2
      subst hk2
      have hjl : j < len := by simpa using hk1
      have g := (hx j (by omega)).1
      rw [add_at] at g
      exact g
    · obtain ⟨i, hi, rfl⟩ := List.mem_map.1 hq
      rw [hd]
      exact weights_slice he (List.mem_map.2 ⟨i, hi, rfl⟩) _ (by simp [DataW.weights])

/-- A '[]api.Rec' that came in. -/
theorem rl_open {t e s : TypeId} {v : Value} {d : DataW H} {p : List MemPlace} {r : Reach} {b0 : Nat} (ht : P.underlying t = some (.slice e)) (he : P.underlying e = some (.slice s)) (hs : P.underlying s = some .string) (ce : P.cellsOf e = 1) (cs : P.cellsOf s = 1)
    (hv : Value.okWide P W r b0 t v) (h : DataW.Trod enc P W 0 (fun _ => true) true t v d p) :
    ∃ A n c l, v = .slice A n c ∧ RL W W.heap.size A n c l ∧ ∀ r ∈ l, ∀ q ∈ r, q.length ∈ d.weights P t := by
  obtain ⟨a0, len0, cap0, rfl⟩ := okWide_slice ht hv
  obtain ⟨fuel, hf⟩ := h
  rcases open_slice1 ht ce hf with ⟨hcs, _⟩ | ⟨a, len, cap, m, n, V, D, Pl, hcs, _, hl, hm, hmm, hd, hx⟩
  · simp [Value.cells] at hcs
    obtain ⟨rfl, rfl, rfl⟩ := hcs
    exact ⟨none, 0, 0, [], rfl, ⟨[], Rc.nil _ _ _, Rrs.nil _ _⟩, fun r hr => by cases hr⟩
  · simp [Value.cells] at hcs
    obtain ⟨rfl, rfl, rfl⟩ := hcs
    simp only [if_true] at hmm
    have hml : len0 ≤ m := by omega
    obtain ⟨R, hR⟩ := choose_lt (α := List (List UInt8)) (n := m) (p := fun i r => Rr W W.heap.size (V i) r ∧ ∀ q ∈ r, q.length ∈ (D i).weights P e) (fun i hi => rec_open he hs cs (hx i hi).2)
    refine ⟨some a, len0, cap0, (List.range len0).map R, rfl, ⟨(List.range len0).map V, ⟨by simp, hl, hm, fun hn => ?_⟩, by simp, fun j u r hu hr => ?_⟩, fun r hr q hq => ?_⟩
    · have hc0 := (hx 0 (by omega)).1
      obtain ⟨b, off, spot⟩ := a
      have hspot : spot = none := by simpa [Addr.add] using World.cell?_spot hc0
      subst hspot
      have hlt := World.block_lt_of_cell? W _ hc0
      rw [add_at] at hlt
      refine ⟨b, off, rfl, hlt, fun j v hj => ?_⟩
      rw [List.getElem?_map, Option.map_eq_some_iff] at hj
      obtain ⟨k, hk, rfl⟩ := hj
      obtain ⟨hk1, hk2⟩ := List.getElem?_eq_some_iff.1 hk
      rw [List.getElem_range] at hk2
      subst hk2
      have hjl : j < len0 := by simpa using hk1
      have g := (hx j (by omega)).1
      rw [add_at] at g
      exact g
    · rw [List.getElem?_map, Option.map_eq_some_iff] at hu hr
      obtain ⟨k, hk, rfl⟩ := hu
      obtain ⟨k', hk', rfl⟩ := hr
      rw [hk] at hk'
      injection hk' with hk'
      subst hk'
      obtain ⟨hk1, hk2⟩ := List.getElem?_eq_some_iff.1 hk
      rw [List.getElem_range] at hk2
      subst hk2
      have hjl : j < len0 := by simpa using hk1
      exact (hR j (by omega)).1
    · obtain ⟨i, hi, rfl⟩ := List.mem_map.1 hr
      have hi' : i < len0 := List.mem_range.1 hi
      simp only [Prod.mk.injEq] at hd
      rw [hd.1]
      exact weights_slice ht (List.mem_map.2 ⟨i, hi, rfl⟩) _ ((hR i (by omega)).2 q hq)
end

/-- A '[]int' that came in. -/
theorem ri_open {H : Type} {enc : TypeId × Value → H} {P : Program} {W : World} {t e : TypeId} {v : Value} {d : DataW H} {p : List MemPlace} {r : Reach} {b0 : Nat} (ht : P.underlying t = some (.slice e)) (he : P.underlying e = some (.int .i64)) (hC : P.cellsOf e = 1)
    (hv : Value.okWide P W r b0 t v) (h : DataW.Trod enc P W 0 (fun _ => true) true t v d p) : ∃ A n c, ∃ l : List Int, v = .slice A n c ∧ Rc 1 W W.heap.size A n c (l.map fun x => Value.int .i64 x) := by
  obtain ⟨a0, len0, cap0, rfl⟩ := okWide_slice ht hv
  obtain ⟨fuel, hf⟩ := h
  rcases open_ints ht he hC hf with ⟨hcs, _⟩ | ⟨x, l, c, zs, hcs, _, hl, hm, hz, _, hcell, hwz⟩
  · simp [Value.cells] at hcs
    obtain ⟨rfl, rfl, rfl⟩ := hcs
    exact ⟨none, 0, 0, [], rfl, Rc.nil _ _ _⟩
  · simp [Value.cells] at hcs
    obtain ⟨rfl, rfl, rfl⟩ := hcs
    simp only [if_true] at hz
    refine ⟨some x, len0, cap0, zs.take len0, rfl, by simp; omega, hl, hm, fun hn => ?_⟩
    obtain ⟨b, off, spot⟩ := x
    have hc0 := hcell 0 (by omega)
    have hspot : spot = none := by simpa [Addr.add] using World.cell?_spot hc0
    subst hspot
    have hlt := World.block_lt_of_cell? W _ hc0
    refine ⟨b, off, rfl, by simpa [Addr.add] using hlt, fun j y hj => ?_⟩
    rw [List.getElem?_map, List.getElem?_take, Option.map_eq_some_iff] at hj
    obtain ⟨z, hz1, rfl⟩ := hj
    by_cases hjl : j < len0
    · rw [if_pos hjl] at hz1
      have hcj := hcell j (by omega)
      have hzj : zs.getD j 0 = z := by simp [List.getD, hz1]
      rw [hzj] at hcj
      by_cases h0 : j = 0
      · subst h0; simpa [Addr.add] using hcj
      · simpa [Addr.add, h0] using hcj
    · rw [if_neg hjl] at hz1; cases hz1
end Go.Proofs.Ytdhbfoelpdoofaa
