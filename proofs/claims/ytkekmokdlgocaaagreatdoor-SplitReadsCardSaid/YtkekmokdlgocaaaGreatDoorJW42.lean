import Derived.Test.YtkekmokdlgocaaaGreatDoorJW40
import Derived.Test.YtkekmokdlgocaaaGreatDoorJW36
import Derived.Deep.Grids
set_option maxRecDepth 100000
set_option maxHeartbeats 4000000
namespace Go.Proofs.YtkekmokdlgocaaaGreatDoor
open Go.ChangeShapes Go.WideShapes Go.ChangeAt Go.RowKit Go.Joins Go.Deep
section
variable {H : Type} {enc : TypeId × Value → H} {P : Program} {W : World}
theorem ri_cell {t e : TypeId} {v : Value} {y : DataW H × List MemPlace} {fuel : Nat} (ht : P.underlying t = some (.slice e)) (he : P.underlying e = some (.int .i64)) (hC : P.cellsOf e = 1)
  (h : DataW.trod enc P W 0 (fun _ => true) true fuel t [v] = some y) : ∃ A n c, ∃ l : List Int, v = .slice A n c ∧ Rc 1 W W.heap.size A n c (l.map fun x => Value.int .i64 x) := by
 obtain ⟨d, p⟩ := y
 rcases open_ints ht he hC h with ⟨hcs, _⟩ | ⟨x, l, c, zs, hcs, _, hl, hm, hz, _, hcell, hwz⟩
 ·simp at hcs
  subst hcs
  exact ⟨none, 0, 0, [], rfl, Rc.nil _ _ _⟩
 ·simp at hcs
  subst hcs
  simp only [if_true] at hz
  refine ⟨some x, l, c, zs.take l, rfl, by simp; omega, hl, hm, fun hn => ?_⟩
  obtain ⟨b, off, spot⟩ := x
  have hc0 := hcell 0 (by omega)
  have hspot : spot = none := by simpa [Addr.add] using World.cell?_spot hc0
  subst hspot
  have hlt := World.block_lt_of_cell? W _ hc0
  refine ⟨b, off, rfl, by simpa [Addr.add] using hlt, fun j y hj => ?_⟩
  rw [List.getElem?_map, List.getElem?_take, Option.map_eq_some_iff] at hj
  obtain ⟨z, hz1, rfl⟩ := hj
  by_cases hjl : j < l
  ·rw [if_pos hjl] at hz1
   have hcj := hcell j (by omega)
   have hzj : zs.getD j 0 = z := by simp [List.getD, hz1]
   rw [hzj] at hcj
   by_cases h0 : j = 0
   ·subst h0; simpa [Addr.add] using hcj
   ·simpa [Addr.add, h0] using hcj
  ·rw [if_neg hjl] at hz1; cases hz1
theorem rt_cell {t e : TypeId} {v : Value} {y : DataW H × List MemPlace} {fuel : Nat} (ht : P.underlying t = some (.slice e)) (he : P.underlying e = some .bool) (hC : P.cellsOf e = 1)
  (h : DataW.trod enc P W 0 (fun _ => true) true fuel t [v] = some y) : ∃ A n c, ∃ l : List Bool, v = .slice A n c ∧ Rc 1 W W.heap.size A n c (Pl.lvb l) := by
 rcases open_bools ht he hC h with ⟨hcs, _⟩ | ⟨x, l, c, B, hcs, _, hl, hm, _, hcell⟩
 ·simp at hcs
  subst hcs
  exact ⟨none, 0, 0, [], rfl, Rc.nil _ _ _⟩
 ·simp at hcs
  subst hcs
  refine ⟨some x, l, c, (List.range l).map B, rfl, by unfold Pl.lvb; simp, hl, hm, fun hn => ?_⟩
  obtain ⟨b, off, spot⟩ := x
  have hc0 := hcell 0 (by omega)
  have hspot : spot = none := by simpa [Addr.add] using World.cell?_spot hc0
  subst hspot
  have hlt := World.block_lt_of_cell? W _ hc0
  refine ⟨b, off, rfl, by simpa [Addr.add] using hlt, fun j y hj => ?_⟩
  unfold Pl.lvb at hj
  rw [List.getElem?_map, List.getElem?_map, Option.map_map, Option.map_eq_some_iff] at hj
  obtain ⟨z, hz1, rfl⟩ := hj
  have hjl : j < l := by have := (List.getElem?_eq_some_iff.1 hz1).1; simpa using this
  have hz2 : z = j := by
   rw [List.getElem?_eq_getElem (by simpa using hjl)] at hz1
   simpa using hz1.symm
  subst hz2
  have hcj := hcell z (by omega)
  by_cases h0 : z = 0
  ·subst h0; simpa [Addr.add] using hcj
  ·simpa [Addr.add, h0] using hcj
theorem plan_open {t e e' : TypeId} {f0 f1 f2 : Field} {v : Value} {d : DataW H} {p : List MemPlace} {r : Reach} {b0 : Nat} (hs : P.underlying t = some (.struct #[f0, f1, f2])) (hone : oneCellFields P #[f0, f1, f2] = true) (hC : P.cellsOf t = 3)
  (h0 : P.underlying f0.type = some (.slice e)) (he : P.underlying e = some (.int .i64)) (hC1 : P.cellsOf e = 1) (h1 : P.underlying f1.type = some (.slice e')) (he' : P.underlying e' = some .bool) (hC2 : P.cellsOf e' = 1) (h2 : P.underlying f2.type = some (.int .i64))
  (hv : Value.okWide P W r b0 t v) (h : DataW.Trod enc P W 0 (fun _ => true) true t v d p) : ∃ (E : Option Addr) (m d : Nat) (L : List Int) (D : Option Addr) (q r : Nat) (I : List Bool) (g : Int), v = .agg #[.slice E m d, .slice D q r, .int .i64 g] ∧ Rc 1 W W.heap.size E m d (L.map fun x => Value.int .i64 x) ∧ Rc 1 W W.heap.size D q r (Pl.lvb I) ∧ I64 g := by
 obtain ⟨c0, c1, c2, y0, y1, y2, m, rfl, rfl, rfl, hy0, hy1, hy2⟩ := open_agg3 hs hone hC hv h
 obtain ⟨E, m', d', L, rfl, hr⟩ := ri_cell h0 he hC1 hy0
 obtain ⟨D, q, r', I, rfl, hd⟩ := rt_cell h1 he' hC2 hy1
 obtain ⟨g, e2, _, s2⟩ := DataW.trod_int h2 hy2
 simp at e2
 subst e2
 exact ⟨E, m', d', L, D, q, r', I, g, rfl, hr, hd, wf_i64 s2⟩
end
end Go.Proofs.YtkekmokdlgocaaaGreatDoor
