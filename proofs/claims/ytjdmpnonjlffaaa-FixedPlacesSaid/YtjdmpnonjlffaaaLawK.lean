/-
  Arguments opened: a struct of three numbers; one record. 
-/
import Derived.Test.YtjdmpnonjlffaaaLawR
namespace Go.Proofs.Ytjdmpnonjlffaaa
open Go.ChangeShapes Go.WideShapes Go.ChangeAt Go.RowKit Go.Joins Go.Deep

section
variable {H : Type} {enc : TypeId × Value → H} {P : Program} {W : World}
/-- A struct of three numbers that came in. -/
theorem cut_open {t : TypeId} {f0 f1 f2 : Field} {v : Value} {d : DataW H} {p : List MemPlace} {r : Reach} {b0 : Nat} (hs : P.underlying t = some (.struct #[f0, f1, f2])) (hone : oneCellFields P #[f0, f1, f2] = true) (hC : P.cellsOf t = 3)
    (h0 : P.underlying f0.type = some (.int .i64)) (h1 : P.underlying f1.type = some (.int .i64)) (h2 : P.underlying f2.type = some (.int .i64))
    (hv : Value.okWide P W r b0 t v) (h : DataW.Trod enc P W 0 (fun _ => true) true t v d p) : ∃ a b c : Int, v = .agg #[.int .i64 a, .int .i64 b, .int .i64 c] ∧ I64 a ∧ I64 b ∧ I64 c := by
  obtain ⟨c0, c1, c2, y0, y1, y2, m, rfl, rfl, rfl, hy0, hy1, hy2⟩ := open_agg3 hs hone hC hv h
  obtain ⟨a, e0, _, s0⟩ := DataW.trod_int h0 hy0
  obtain ⟨b, e1, _, s1⟩ := DataW.trod_int h1 hy1
  obtain ⟨c, e2, _, s2⟩ := DataW.trod_int h2 hy2
  simp at e0 e1 e2
  subst e0 e1 e2
  exact ⟨a, b, c, rfl, wf_i64 s0, wf_i64 s1, wf_i64 s2⟩
/-- One record that came in. -/
theorem rec1_open {e s : TypeId} {v : Value} {d : DataW H} {p : List MemPlace} {r : Reach} {b0 : Nat} (he : P.underlying e = some (.slice s)) (hs : P.underlying s = some .string) (cs : P.cellsOf s = 1)
    (hv : Value.okWide P W r b0 e v) (h : DataW.Trod enc P W 0 (fun _ => true) true e v d p) :
    ∃ A n c r, v = .slice A n c ∧ Rc 1 W W.heap.size A n c (lvs r) ∧ ∀ q ∈ r, q.length ∈ d.weights P e := by
  obtain ⟨a0, len0, cap0, rfl⟩ := okWide_slice he hv
  obtain ⟨fuel, hf⟩ := h
  obtain ⟨r, ⟨A, n, c, hV, hr⟩, hw⟩ := rec_open he hs cs (V := .slice a0 len0 cap0) (x := (d, p)) (by simpa [Value.cells] using hf)
  exact ⟨A, n, c, r, hV, hr, hw⟩
end
end Go.Proofs.Ytjdmpnonjlffaaa
