/-
  What a law's frame needs for slices of 32-bit numbers, 32-bit and 8-bit numbers.
-/
import Derived.Test.YtcmagegcolcalabLaw
import Derived.Test.YtcmagegcolcalabC32
namespace Go.Proofs.Ytcmagegcolcalab
open Go.ChangeShapes Go.WideShapes Go.ChangeAt Go.RowKit Go.Joins Go.Deep

def B8 (n : Int) : Prop := 0 ≤ n ∧ n < 256
theorem wf_u32 {a : Int} (h : (Lit.int .u32 a).wf = true) : U32 a := by
  have := bounds_u32 h
  unfold U32; omega
theorem wf_u8 {a : Int} (h : (Lit.int .u8 a).wf = true) : B8 a := by
  have := bounds_u8 h
  unfold B8; omega

section
variable {H : Type} {enc : TypeId × Value → H} {P : Program} {W : World}
/-- A '[]uint32' that came in. -/
theorem rn_open {t e : TypeId} {v : Value} {d : DataW H} {p : List MemPlace} {r : Reach} {b0 : Nat} (ht : P.underlying t = some (.slice e)) (he : P.underlying e = some (.int .u32)) (hC : P.cellsOf e = 1)
    (hv : Value.okWide P W r b0 t v) (h : DataW.Trod enc P W 0 (fun _ => true) true t v d p) : ∃ A n c l, v = .slice A n c ∧ Rn W W.heap.size A n c l := by
  obtain ⟨a0, len0, cap0, rfl⟩ := okWide_slice ht hv
  obtain ⟨fuel, hf⟩ := h
  rcases open_ints ht he hC hf with ⟨hcs, _⟩ | ⟨x, l, c, zs, hcs, _, hl, hm, hz, _, hcell, hwz⟩
  · simp [Value.cells] at hcs
    obtain ⟨rfl, rfl, rfl⟩ := hcs
    exact ⟨none, 0, 0, [], rfl, Rn.nil _ _⟩
  · simp [Value.cells] at hcs
    obtain ⟨rfl, rfl, rfl⟩ := hcs
    simp only [if_true] at hz
    refine ⟨some x, len0, cap0, (zs.take len0).map fun z => z.toNat, rfl, by simp; omega, hl, hm, ?_, fun hn => ?_⟩
    · intro y hy
      obtain ⟨z, hz1, rfl⟩ := List.mem_map.1 hy
      have hwf := bounds_u32 (hwz z (List.mem_of_mem_take hz1))
      omega
    obtain ⟨b, off, spot⟩ := x
    have hc0 := hcell 0 (by omega)
    have hspot : spot = none := by simpa [Addr.add] using World.cell?_spot hc0
    subst hspot
    have hlt := World.block_lt_of_cell? W _ hc0
    refine ⟨b, off, rfl, by simpa [Addr.add] using hlt, fun j y hj => ?_⟩
    rw [List.getElem?_map, List.getElem?_take, Option.map_eq_some_iff] at hj
    obtain ⟨z, hz1, rfl⟩ := hj
    by_cases hjl : j < len0
    · rw [if_pos hjl] at hz1
      have hcj := hcell j (by omega)
      have hzj : zs.getD j 0 = z := by simp [List.getD, hz1]
      have hwf := bounds_u32 (hwz z (List.mem_of_getElem? hz1))
      rw [hzj] at hcj
      have e1 : ((z.toNat : Nat) : Int) = z := by omega
      rw [e1]
      by_cases h0 : j = 0
      · subst h0; simpa [Addr.add] using hcj
      · simpa [Addr.add, h0] using hcj
    · rw [if_neg hjl] at hz1; cases hz1
end
end Go.Proofs.Ytcmagegcolcalab
