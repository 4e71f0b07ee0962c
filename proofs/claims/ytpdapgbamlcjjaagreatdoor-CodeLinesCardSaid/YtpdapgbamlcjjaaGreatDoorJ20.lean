/-
  Joined: LawV LawW.
-/
import Derived.Test.YtpdapgbamlcjjaaGreatDoorRows
import Derived.Test.YtpdapgbamlcjjaaGreatDoorJ15
import Derived.ProofKit
import Derived.OpenShut
import Derived.ShutString
import Derived.ChangeOld
import Derived.Below
import Derived.Lib.SmallJoins
import Derived.Deep.SlicePairs
import Derived.Deep.Strs
import Derived.Deep.Grids
import Derived.SizedLaws
import Derived.LaidMore
import Derived.Lay
import Derived.Stop.Joined
import Derived.Stop.LaidErr
import Derived.Shelf.Vars
import Derived.Test.YtpdapgbamlcjjaaGreatDoorJ16
/-
  What the frame of a tied card needs: the wrap that keeps the world's shape and what is laid; the library's variables out of them; values and flags opened.
-/
namespace Go.Proofs.YtpdapgbamlcjjaaGreatDoor
open Go.ChangeShapes Go.WideShapes Go.ChangeAt Go.RowKit Go.Joins Go.Deep Vl

theorem laidOut_ok : laidOutB Tryz.prog = true := by kernel_rfl

theorem wf_I {a : Int} (h : (Lit.int .i64 a).wf = true) : I a := by
  have := bounds_i64 h
  unfold I; omega

theorem shaped_and_x {H : Type} {enc : TypeId × Value → H} {C : Checked} {os : Os} {f : FuncId} {fn : Func} {s : ChangeSpec} {conds : List PathCond} {apart fresh handsOn again : Bool} {X : World → Array Value → Prop}
    (own : ownKnob C.prog.godebug = none) (started : os.Started) (noInit : C.prog.inits.idxOf? f = none) (hfn : C.prog.funcs[f]? = some fn)
    (hwit : ∃ (w : World) (tape : Tape) (i : Input), w.os = os ∧ (w.forCall tape i).Shaped C.prog ∧ i.vars = [] ∧ Input.okWide C.prog (w.forCall tape i) .any w.heap.size f i ∧
      ((s.pre enc C.prog fn conds apart (w.forCall tape i).memory i.args ∧ X (w.forCall tape i).memory i.args) ∧ sizedMet enc C.prog fn (OpenSpec.ofChange s) apart (w.forCall tape i).memory i.args) ∧ ({} : Assume).holds C.prog (lone (Frame.enter C.prog f i.args .normal) [] (w.forCall tape i)))
    (hcon : ∀ (W : World) (args : Array Value) (ds gs : List (DataW H)) (before : List MemPlace),
      (∀ (j : Nat) t v, fn.params[j]? = some t → args[j]? = some v → Value.okWide C.prog W .any W.heap.size t v) →
      DataW.Whole enc C.prog fn.params.toList s.vars apart W args.toList ds gs before →
      (DataW.weightsEach C.prog (fn.params.toList ++ s.plain.varTypes C.prog) (ds ++ gs)).all (· ≤ reachBytes) = true → W.ShapedOpen C.prog → X W.memory args →
      Calls C.prog f args W fun e W' => ∃ v, e = .returned v ∧ s.post enc C.prog fn apart fresh handsOn again W args v W') :
    ReturnsInHanded {} C os f .any (fun w args => (s.pre enc C.prog fn conds apart w args ∧ X w args) ∧ sizedMet enc C.prog fn (OpenSpec.ofChange s) apart w args) (s.post enc C.prog fn apart fresh handsOn again) := by
  refine returnsInHanded_of_calls own started noInit hwit ?_
  intro w tape i _ hsh _ hok hpre _
  obtain ⟨_, _, _, fn', hfn', _, _, _, _, hval⟩ := hok
  obtain rfl : fn' = fn := Option.some.inj (hfn'.symm.trans hfn)
  obtain ⟨⟨⟨ds, gs, before, hw, _⟩, hX⟩, hz⟩ := hpre
  have hw' := DataW.Whole.of_heap (w' := w.forCall tape i) (by rfl) hw
  refine (hcon (w.forCall tape i) i.args ds gs before hval hw' (hz.weights hw) hsh hX).mono fun e W' ⟨v, he, hp⟩ => ?_
  subst he
  exact ChangeSpec.post_blind hp

theorem gl_of {W : World} (h : W.ShapedOpen Tryz.prog) (hl : laidMet Tryz.prog [("math/bits.deBruijn32tab", Rows.laid_math_bits_deBruijn32tab), ("math/bits.deBruijn64tab", Rows.laid_math_bits_deBruijn64tab), ("internal/strconv.uint64pow10", Rows.laid_internal_strconv_uint64pow10), ("strconv.ErrRange", Rows.laid_strconv_ErrRange), ("strconv.ErrSyntax", Rows.laid_strconv_ErrSyntax)] W.memory) : Gl W := by
  obtain ⟨m, hm⟩ := cell_of_shapedOpen_int (P := Tryz.prog) (g := 0) (t := 3) (zero := #[.int .i64 0]) (k := .i64) h (by rw [show Tryz.prog.globals.size = 6 by kernel_rfl]; omega) (by kernel_rfl) rfl (by kernel_rfl) (by kernel_rfl) Tryz.underlying3
  have h2 := hl.tail.tail
  have h3 := h2.tail
  have h4 := h3.tail
  rw [show (Rows.laid_internal_strconv_uint64pow10 : DataW Unit) = Lib.tabData .u64 Lib.pow10Tab by rfl] at h2
  have ht := Lib.tabIs_of_head (g := 3) (t := 131) (e := 64) (n := 20) (by kernel_rfl) (by kernel_rfl) (by kernel_rfl) (by kernel_rfl) (by kernel_rfl) (by kernel_rfl) h2
  have ht2 : Lib.TabIs Tryz.prog W "internal/strconv.uint64pow10" .u64 Lib.pow10Tab := ht
  have row : ∀ u, Tryz.prog.typeName? 3 u = some "*errors.errorString" → u = 136 := by
    intro u hu
    have star : "*" ++ "errors.errorString" = "*errors.errorString" := by decide
    exact typeName_ptr_named (nm := "errors.errorString") (by rw [star]; kernel_rfl) (by kernel_rfl) (by decide) u (by rw [star]; exact hu)
  obtain ⟨a1, s1, hv1, -, -, -⟩ := laid_sentinel h3 (g := 2) (ti := 58) (tp := 136) (by kernel_rfl) (by kernel_rfl) Tryz.underlying58 row Tryz.underlying136 Tryz.underlying138 rfl rfl Tryz.underlying9 (by kernel_rfl) (by kernel_rfl)
  obtain ⟨a2, s2, hv2, -, -, -⟩ := laid_sentinel h4 (g := 1) (ti := 58) (tp := 136) (by kernel_rfl) (by kernel_rfl) Tryz.underlying58 row Tryz.underlying136 Tryz.underlying138 rfl rfl Tryz.underlying9 (by kernel_rfl) (by kernel_rfl)
  have g1 := World.var?_cell (P := Tryz.prog) (g := 2) (by kernel_rfl) hv1 0
  have g2 := World.var?_cell (P := Tryz.prog) (g := 1) (by kernel_rfl) hv2 0
  have hsz := World.block_lt_of_cell? W _ g1
  refine ⟨⟨m, hm⟩, ⟨_, g2, .inr ⟨_, _, rfl⟩⟩, ⟨_, g1, .inr ⟨_, _, rfl⟩⟩, ht2, ?_⟩
  have hs5 : (((begin Tryz.prog (fun _ _ => 0) default).world.heap[5]?).bind Obj.row?).isSome = true := by kernel_rfl
  obtain ⟨⟨zero, t5⟩, h5⟩ := Option.isSome_iff_exists.1 hs5
  obtain ⟨cs5, hh5, -⟩ := h.1 5 zero t5 (by rw [show Tryz.prog.globals.size = 6 by kernel_rfl]; omega) h5
  rcases Nat.lt_or_ge 5 W.heap.size with q | q
  · exact q
  · simp [Array.getElem?_eq_none q] at hh5
end Go.Proofs.YtpdapgbamlcjjaaGreatDoor

/-
  Arguments opened: programs, one instruction.
-/
namespace Go.Proofs.YtpdapgbamlcjjaaGreatDoor
open Go.ChangeShapes Go.WideShapes Go.ChangeAt Go.RowKit Go.Joins Go.Deep Vl Cd

instance : Inhabited Cd.Ins := ⟨Cd.i0⟩
theorem add_at' (b off k : Nat) : (⟨b, off, none⟩ : Addr).add k = ⟨b, off + k, none⟩ := by
  by_cases h : k = 0
  · subst h; simp [Addr.add]
  · simp [Addr.add, h]
theorem ics_inv (l : List Ins) (j : Nat) (u : Value) (h : (ics l)[j]? = some u) : ∃ (i : Nat) (v : Ins), l[i]? = some v ∧ (j = i * 3 ∧ u = .int .i64 v.op ∨ j = i * 3 + 1 ∧ u = .int .i64 v.n ∨ j = i * 3 + 2 ∧ u = st v.s) := by
  have hj : j < (ics l).length := (List.getElem?_eq_some_iff.1 h).1
  rw [ics_len] at hj
  have hi : j / 3 < l.length := by omega
  obtain ⟨g1, g2, g3⟩ := ics_get l (j / 3) l[j / 3] (List.getElem?_eq_getElem hi)
  refine ⟨j / 3, l[j / 3], List.getElem?_eq_getElem hi, ?_⟩
  rcases (show j = j / 3 * 3 ∨ j = j / 3 * 3 + 1 ∨ j = j / 3 * 3 + 2 by omega) with e | e | e
  · rw [← e, h] at g1; injection g1 with g1; exact .inl ⟨e, g1⟩
  · rw [← e, h] at g2; injection g2 with g2; exact .inr (.inl ⟨e, g2⟩)
  · rw [← e, h] at g3; injection g3 with g3; exact .inr (.inr ⟨e, g3⟩)

section
variable {H : Type} {enc : TypeId × Value → H} {P : Program} {W : World}

/-- Three cells of a value. -/
theorem ins_cells {e : TypeId} {f0 f1 f2 : Field} {cs : List Value} {y : DataW H × List MemPlace} {n : Nat} (he : P.underlying e = some (.struct #[f0, f1, f2])) (ce : P.cellsOf e = 3)
    (o0 : f0.offset = 0) (o1 : f1.offset = 1) (o2 : f2.offset = 2) (c0 : P.cellsOf f0.type = 1) (c1 : P.cellsOf f1.type = 1) (c2 : P.cellsOf f2.type = 1)
    (h0 : P.underlying f0.type = some (.int .i64)) (h1 : P.underlying f1.type = some (.int .i64)) (h2 : P.underlying f2.type = some .string)
    (h : DataW.trod enc P W 0 (fun _ => true) true n e cs = some y) : ∃ v : Ins, cs = [.int .i64 v.op, .int .i64 v.n, st v.s] ∧ (I v.op ∧ I v.n) := by
  obtain ⟨y0, y1, y2, m, -, hl, g0, g1, g2⟩ := trod_struct3 he h
  rw [ce] at hl
  match cs, hl with
  | [x0, x1, x2], _ =>
    simp [o0, c0] at g0
    simp [o1, c1] at g1
    simp [o2, c2] at g2
    obtain ⟨b, e0, -, w0⟩ := DataW.trod_int h0 g0
    obtain ⟨a, e1, -, w1⟩ := DataW.trod_int h1 g1
    obtain ⟨s, e2, -, -⟩ := DataW.trod_string h2 g2
    simp at e0 e1 e2
    subst e0 e1 e2
    exact ⟨⟨b, a, s.data.toList⟩, by simp, wf_I w0, wf_I w1⟩

/-- A '[]api.Ins' that came in. -/
theorem inss_open {t e : TypeId} {f0 f1 f2 : Field} {v : Value} {d : DataW H} {p : List MemPlace} {r : Reach} {b0 : Nat} (ht : P.underlying t = some (.slice e)) (he : P.underlying e = some (.struct #[f0, f1, f2])) (ce : P.cellsOf e = 3)
    (o0 : f0.offset = 0) (o1 : f1.offset = 1) (o2 : f2.offset = 2) (c0 : P.cellsOf f0.type = 1) (c1 : P.cellsOf f1.type = 1) (c2 : P.cellsOf f2.type = 1)
    (h0 : P.underlying f0.type = some (.int .i64)) (h1 : P.underlying f1.type = some (.int .i64)) (h2 : P.underlying f2.type = some .string)
    (hv : Value.okWide P W r b0 t v) (h : DataW.Trod enc P W 0 (fun _ => true) true t v d p) :
    ∃ A n c l, v = .slice A n c ∧ Rc 3 W W.heap.size A n c (ics l) ∧ n ≤ maxLen ∧ ∀ x ∈ l, I x.op ∧ I x.n := by
  obtain ⟨a0, len0, cap0, rfl⟩ := okWide_slice ht hv
  obtain ⟨fuel, hf⟩ := h
  rcases open_slice ht hf with ⟨hcs, _⟩ | ⟨a, len, cap, m, n, D, Pl, hcs, _, hl, hm, hmm, -, hx⟩
  · simp [Value.cells] at hcs
    obtain ⟨rfl, rfl, rfl⟩ := hcs
    exact ⟨none, 0, 0, [], rfl, Rc.nil _ _ _, by unfold maxLen; omega, fun q hq => by cases hq⟩
  · simp [Value.cells] at hcs
    obtain ⟨rfl, rfl, rfl⟩ := hcs
    simp only [if_true] at hmm
    have hml : len0 ≤ m := by omega
    obtain ⟨L, hL⟩ := choose_lt (α := Ins) (n := m) (p := fun i v => (W.cell? (a.add (i * 3)) = some (.int .i64 v.op) ∧ W.cell? (a.add (i * 3 + 1)) = some (.int .i64 v.n) ∧ W.cell? (a.add (i * 3 + 2)) = some (st v.s)) ∧ (I v.op ∧ I v.n)) (fun i hi => by
      obtain ⟨cs', g1, g2⟩ := hx i hi
      rw [ce] at g1
      obtain ⟨v, rfl, hI⟩ := ins_cells he ce o0 o1 o2 c0 c1 c2 h0 h1 h2 g2
      obtain ⟨_, _, hcell⟩ := World.cells?_some g1
      have k0 := hcell 0 (by omega)
      have k1 := hcell 1 (by omega)
      have k2 := hcell 2 (by omega)
      rw [add_add] at k0 k1 k2
      exact ⟨v, ⟨by simpa using k0, by simpa using k1, by simpa using k2⟩, hI⟩)
    refine ⟨some a, len0, cap0, (List.range len0).map L, rfl, ⟨by rw [ics_len]; simp, hl, hm, fun hn => ?_⟩, by omega, fun q hq => ?_⟩
    · have hc0 := (hL 0 (by omega)).1.1
      obtain ⟨b, off, spot⟩ := a
      have hspot : spot = none := by simpa [Addr.add] using World.cell?_spot hc0
      subst hspot
      have hlt := World.block_lt_of_cell? W _ hc0
      rw [add_at'] at hlt
      refine ⟨b, off, rfl, hlt, fun j u hj => ?_⟩
      obtain ⟨i, v, hv, hor⟩ := ics_inv _ j u hj
      rw [List.getElem?_map, Option.map_eq_some_iff] at hv
      obtain ⟨k, hk, rfl⟩ := hv
      obtain ⟨hk1, hk2⟩ := List.getElem?_eq_some_iff.1 hk
      rw [List.getElem_range] at hk2
      subst hk2
      have hil : i < len0 := by simpa using hk1
      obtain ⟨⟨g0, g1, g2⟩, _⟩ := hL i (by omega)
      rw [add_at'] at g0 g1 g2
      rcases hor with ⟨rfl, rfl⟩ | ⟨rfl, rfl⟩ | ⟨rfl, rfl⟩
      · exact g0
      · exact g1
      · exact g2
    · obtain ⟨i, hi, rfl⟩ := List.mem_map.1 hq
      have hi' : i < len0 := List.mem_range.1 hi
      exact (hL i (by omega)).2


/-- An 'api.Ins' that came in. -/
theorem ins_open {t : TypeId} {f0 f1 f2 : Field} {v : Value} {d : DataW H} {p : List MemPlace} {r : Reach} {b0 : Nat} (he : P.underlying t = some (.struct #[f0, f1, f2])) (ce : P.cellsOf t = 3)
    (o0 : f0.offset = 0) (o1 : f1.offset = 1) (o2 : f2.offset = 2) (c0 : P.cellsOf f0.type = 1) (c1 : P.cellsOf f1.type = 1) (c2 : P.cellsOf f2.type = 1)
    (h0 : P.underlying f0.type = some (.int .i64)) (h1 : P.underlying f1.type = some (.int .i64)) (h2 : P.underlying f2.type = some .string)
    (hv : Value.okWide P W r b0 t v) (h : DataW.Trod enc P W 0 (fun _ => true) true t v d p) :
    ∃ x : Ins, v = iv x ∧ I x.op ∧ I x.n := by
  simp only [Value.okWide, he] at hv
  obtain ⟨cs, rfl, hsz, _⟩ := hv
  obtain ⟨fuel, hf⟩ := h
  have hf' : DataW.trod enc P W 0 (fun _ => true) true fuel t cs.toList = some (d, p) := hf
  obtain ⟨x, hx, hI⟩ := ins_cells he ce o0 o1 o2 c0 c1 c2 h0 h1 h2 hf'
  refine ⟨x, ?_, hI⟩
  show Value.agg cs = .agg #[_, _, _]
  rw [← Array.toList_inj.1 (show cs.toList = (#[.int .i64 x.op, .int .i64 x.n, st x.s] : Array Value).toList from hx)]
end
end Go.Proofs.YtpdapgbamlcjjaaGreatDoor
