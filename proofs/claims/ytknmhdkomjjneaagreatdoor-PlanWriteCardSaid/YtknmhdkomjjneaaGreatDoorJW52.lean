/-
  Joined: LawC.
-/
import Derived.Test.YtknmhdkomjjneaaGreatDoorRows
import Derived.Test.YtknmhdkomjjneaaGreatDoorJW5
import Derived.Test.YtknmhdkomjjneaaGreatDoorJW6
import Derived.Test.YtknmhdkomjjneaaGreatDoorJW18
import Derived.ProofKit
import Derived.OpenShut
import Derived.ShutString
import Derived.ChangeOld
import Derived.Below
import Derived.Lib.SmallJoins
import Derived.Deep.SlicePairs
import Derived.Deep.Strs
import Derived.SizedLaws
import Derived.LaidMore
import Derived.Lay
import Derived.Stop.Joined
import Derived.Shelf.Vars
/-
  What the frame of a tied card needs: the wrap that keeps the world's shape beside what is laid; the library's own number out of that shape.
-/
namespace Go.Proofs.YtknmhdkomjjneaaGreatDoor
open Go.ChangeShapes Go.WideShapes Go.ChangeAt Go.RowKit Go.Joins Go.Deep
theorem laidOut_ok : laidOutB Tryz.prog = true := by kernel_rfl

theorem wf_i64 {a : Int} (h : (Lit.int .i64 a).wf = true) : I64 a := by
  have := bounds_i64 h
  unfold I64; omega
section
variable {H : Type} {enc : TypeId × Value → H} {P : Program} {W : World}
end
end Go.Proofs.YtknmhdkomjjneaaGreatDoor

namespace Go.Proofs.YtknmhdkomjjneaaGreatDoor
open Go.ChangeShapes Go.WideShapes Go.ChangeAt Go.RowKit Go.Joins Go.Deep

theorem weightsAll_mem {H : Type} {P : Program} {e : TypeId} : ∀ {l : List (DataW H)} {d : DataW H}, d ∈ l → ∀ n ∈ d.weights P e, n ∈ DataW.weightsAll P e l
  | x :: r, d, h, n, hn => by
    simp only [DataW.weightsAll, List.mem_append]
    rcases List.mem_cons.1 h with rfl | h
    · exact .inl hn
    · exact .inr (weightsAll_mem h n hn)
theorem weights_slice {H : Type} {P : Program} {t e : TypeId} {es sp : List (DataW H)} (ht : P.underlying t = some (.slice e)) {d : DataW H} (hd : d ∈ es) (n : Nat) (hn : n ∈ d.weights P e) : n ∈ (DataW.slice es sp).weights P t := by
  simp only [DataW.weights, ht]
  exact List.mem_cons_of_mem _ (List.mem_append_left _ (weightsAll_mem hd n hn))
theorem reach_le {H : Type} {P : Program} {ts : List TypeId} {ds : List (DataW H)} (h : (DataW.weightsEach P ts ds).all (· ≤ reachBytes) = true) {j : Nat} {t : TypeId} {d : DataW H} (ht : ts[j]? = some t) (hd : ds[j]? = some d) {n : Nat} (hn : n ∈ d.weights P t) : n ≤ 140737488355328 := by
  have h1 := List.all_eq_true.1 h _ (DataW.weights_mem_each ht hd n hn)
  have h2 := reachBytes_lt
  simp at h1
  omega
theorem add_at (b off k : Nat) : (⟨b, off, none⟩ : Addr).add k = ⟨b, off + k, none⟩ := by
  by_cases h : k = 0
  · subst h; simp [Addr.add]
  · simp [Addr.add, h]

section
variable {H : Type} {enc : TypeId × Value → H} {P : Program} {W : World}

theorem rec_open {e s : TypeId} {V : Value} {x : DataW H × List MemPlace} {n : Nat} (he : P.underlying e = some (.slice s)) (hs : P.underlying s = some .string) (cs : P.cellsOf s = 1) (h : DataW.trod enc P W 0 (fun _ => true) true n e [V] = some x) :
    ∃ (r : List (List UInt8)), Rr W W.heap.size V r ∧ ∀ q ∈ r, q.length ∈ x.1.weights P e := by
  rcases open_strs he hs cs h with ⟨hcs, _⟩ | ⟨a, len, cap, m, Sx, hcs, _, hl, hm, hmm, hd, hx⟩
  · have : V = .slice none 0 0 := by simpa using hcs
    subst this
    exact ⟨[], ⟨none, 0, 0, rfl, Rc.nil _ _ _⟩, fun q hq => by cases hq⟩
  · have : V = .slice (some a) len cap := by simpa using hcs
    subst this
    simp only [if_true] at hmm
    refine ⟨(List.range len).map fun i => (Sx i).data.toList, ⟨some a, len, cap, rfl, by simp [lvs], hl, hm, fun hn => ?_⟩, fun q hq => ?_⟩
    · have hc0 := (hx 0 (by omega)).1
      obtain ⟨b, off, spot⟩ := a
      have hspot : spot = none := by simpa [Addr.add] using World.cell?_spot hc0
      subst hspot
      have hlt := World.block_lt_of_cell? W _ hc0
      rw [add_at] at hlt
      refine ⟨b, off, rfl, hlt, fun j v hj => ?_⟩
      simp only [lvs, List.map_map, List.getElem?_map, Option.map_eq_some_iff] at hj
      obtain ⟨k, hk, rfl⟩ := hj
      obtain ⟨hk1, hk2⟩ := List.getElem?_eq_some_iff.1 hk
      rw [List.getElem_range] at hk2
      subst hk2
      have hjl : j < len := by simpa using hk1
      have g := (hx j (by omega)).1
      rw [add_at] at g
      exact g
    · obtain ⟨i, hi, rfl⟩ := List.mem_map.1 hq
      rw [hd]
      exact weights_slice he (List.mem_map.2 ⟨i, hi, rfl⟩) _ (by simp [DataW.weights])

theorem rl_open {t e s : TypeId} {v : Value} {d : DataW H} {p : List MemPlace} {r : Reach} {b0 : Nat} (ht : P.underlying t = some (.slice e)) (he : P.underlying e = some (.slice s)) (hs : P.underlying s = some .string) (ce : P.cellsOf e = 1) (cs : P.cellsOf s = 1)
    (hv : Value.okWide P W r b0 t v) (h : DataW.Trod enc P W 0 (fun _ => true) true t v d p) :
    ∃ A n c l, v = .slice A n c ∧ RL W W.heap.size A n c l ∧ ∀ r ∈ l, ∀ q ∈ r, q.length ∈ d.weights P t := by
  obtain ⟨a0, len0, cap0, rfl⟩ := okWide_slice ht hv
  obtain ⟨fuel, hf⟩ := h
  rcases open_slice1 ht ce hf with ⟨hcs, _⟩ | ⟨a, len, cap, m, n, V, D, Pl, hcs, _, hl, hm, hmm, hd, hx⟩
  · simp [Value.cells] at hcs
    obtain ⟨rfl, rfl, rfl⟩ := hcs
    exact ⟨none, 0, 0, [], rfl, ⟨[], Rc.nil _ _ _, Rrs.nil _ _⟩, fun r hr => by cases hr⟩
  · simp [Value.cells] at hcs
    obtain ⟨rfl, rfl, rfl⟩ := hcs
    simp only [if_true] at hmm
    have hml : len0 ≤ m := by omega
    obtain ⟨R, hR⟩ := choose_lt (α := List (List UInt8)) (n := m) (p := fun i r => Rr W W.heap.size (V i) r ∧ ∀ q ∈ r, q.length ∈ (D i).weights P e) (fun i hi => rec_open he hs cs (hx i hi).2)
    refine ⟨some a, len0, cap0, (List.range len0).map R, rfl, ⟨(List.range len0).map V, ⟨by simp, hl, hm, fun hn => ?_⟩, by simp, fun j u r hu hr => ?_⟩, fun r hr q hq => ?_⟩
    · have hc0 := (hx 0 (by omega)).1
      obtain ⟨b, off, spot⟩ := a
      have hspot : spot = none := by simpa [Addr.add] using World.cell?_spot hc0
      subst hspot
      have hlt := World.block_lt_of_cell? W _ hc0
      rw [add_at] at hlt
      refine ⟨b, off, rfl, hlt, fun j v hj => ?_⟩
      rw [List.getElem?_map, Option.map_eq_some_iff] at hj
      obtain ⟨k, hk, rfl⟩ := hj
      obtain ⟨hk1, hk2⟩ := List.getElem?_eq_some_iff.1 hk
      rw [List.getElem_range] at hk2
      subst hk2
      have hjl : j < len0 := by simpa using hk1
      have g := (hx j (by omega)).1
      rw [add_at] at g
      exact g
    · rw [List.getElem?_map, Option.map_eq_some_iff] at hu hr
      obtain ⟨k, hk, rfl⟩ := hu
      obtain ⟨k', hk', rfl⟩ := hr
      rw [hk] at hk'
      injection hk' with hk'
      subst hk'
      obtain ⟨hk1, hk2⟩ := List.getElem?_eq_some_iff.1 hk
      rw [List.getElem_range] at hk2
      subst hk2
      have hjl : j < len0 := by simpa using hk1
      exact (hR j (by omega)).1
    · obtain ⟨i, hi, rfl⟩ := List.mem_map.1 hr
      have hi' : i < len0 := List.mem_range.1 hi
      simp only [Prod.mk.injEq] at hd
      rw [hd.1]
      exact weights_slice ht (List.mem_map.2 ⟨i, hi, rfl⟩) _ ((hR i (by omega)).2 q hq)
end
end Go.Proofs.YtknmhdkomjjneaaGreatDoor

namespace Go.Proofs.YtknmhdkomjjneaaGreatDoor
open Go.ChangeShapes Go.WideShapes Go.ChangeAt Go.RowKit

theorem shaped_and {H : Type} {enc : TypeId × Value → H} {C : Checked} {os : Os} {f : FuncId} {fn : Func} {s : ChangeSpec} {conds : List PathCond} {apart fresh handsOn again : Bool} {X : World → Array Value → Prop}
    (own : ownKnob C.prog.godebug = none) (started : os.Started) (noInit : C.prog.inits.idxOf? f = none) (hfn : C.prog.funcs[f]? = some fn)
    (hwit : ∃ (w : World) (tape : Tape) (i : Input), w.os = os ∧ (w.forCall tape i).Shaped C.prog ∧ i.vars = [] ∧ Input.okWide C.prog (w.forCall tape i) .any w.heap.size f i ∧
      ((s.pre enc C.prog fn conds apart (w.forCall tape i).memory i.args ∧ X (w.forCall tape i).memory i.args) ∧ sizedMet enc C.prog fn (OpenSpec.ofChange s) apart (w.forCall tape i).memory i.args) ∧ ({} : Assume).holds C.prog (lone (Frame.enter C.prog f i.args .normal) [] (w.forCall tape i)))
    (hcon : ∀ (W : World) (args : Array Value) (ds gs : List (DataW H)) (before : List MemPlace),
      (∀ (j : Nat) t v, fn.params[j]? = some t → args[j]? = some v → Value.okWide C.prog W .any W.heap.size t v) →
      DataW.Whole enc C.prog fn.params.toList s.vars apart W args.toList ds gs before →
      (DataW.weightsEach C.prog (fn.params.toList ++ s.plain.varTypes C.prog) (ds ++ gs)).all (· ≤ reachBytes) = true → W.ShapedOpen C.prog →
      Calls C.prog f args W fun e W' => ∃ v, e = .returned v ∧ s.post enc C.prog fn apart fresh handsOn again W args v W') :
    ReturnsInHanded {} C os f .any (fun w args => (s.pre enc C.prog fn conds apart w args ∧ X w args) ∧ sizedMet enc C.prog fn (OpenSpec.ofChange s) apart w args) (s.post enc C.prog fn apart fresh handsOn again) := by
  refine returnsInHanded_of_calls own started noInit hwit ?_
  intro w tape i _ hsh _ hok hpre _
  obtain ⟨_, _, _, fn', hfn', _, _, _, _, hval⟩ := hok
  obtain rfl : fn' = fn := Option.some.inj (hfn'.symm.trans hfn)
  obtain ⟨⟨⟨ds, gs, before, hw, _⟩, _⟩, hz⟩ := hpre
  have hw' := DataW.Whole.of_heap (w' := w.forCall tape i) (by rfl) hw
  refine (hcon (w.forCall tape i) i.args ds gs before hval hw' (hz.weights hw) hsh).mono fun e W' ⟨v, he, hp⟩ => ?_
  subst he
  exact ChangeSpec.post_blind hp

theorem mx_of {W : World} (h : W.ShapedOpen Tryz.prog) : Sq.Mx W := by
  obtain ⟨m, hm⟩ := cell_of_shapedOpen_int (P := Tryz.prog) (g := 0) (t := 3) (zero := #[.int .i64 0]) (k := .i64) h (by rw [show Tryz.prog.globals.size = 3 by kernel_rfl]; omega) (by kernel_rfl) rfl (by kernel_rfl) (by kernel_rfl) Tryz.underlying3
  exact ⟨⟨m, hm⟩, World.block_lt_of_cell? W _ hm⟩
end Go.Proofs.YtknmhdkomjjneaaGreatDoor
