/-
  Joined: Za.
-/
import Derived.Test.YtplkjljhpmldfaaJ38
import Derived.RangeFuncNested
import Derived.RangeFuncBound
import Derived.RangeFuncCalls
import Derived.RangeFuncLeaves
import Derived.Shelf.Abstract
import Derived.Shelf.RegionOpen
import Derived.OwnWalkIn
import Derived.TacticsInMore
import Derived.LoopNIn
import Derived.LoopIn
import Derived.Laws.ResultCell
/-
  Words for range over a function: which blocks may turn, results that lie in cells of the call's own. (Seq's Ub and Uc without seq.)
-/
namespace Go.Proofs.Ytplkjljhpmldfaa
open Go.RowKit Go.Shelf
attribute [local go_sem] Oper.semAt_some

/-- Below n₀ only the blocks from lo to hi may have changed. -/
structure But (lo hi n₀ : Nat) (W W' : World) : Prop where
  os : W'.os = W.os
  tape : W'.tape = W.tape
  output : W'.output = W.output
  size : W.heap.size ≤ W'.heap.size
  block : ∀ k, k < n₀ → ¬ (lo ≤ k ∧ k < hi) → W'.heap[k]? = W.heap[k]?
section
variable {lo hi n₀ : Nat} {W W' W'' : World}
theorem But.refl (W : World) : But lo hi n₀ W W := ⟨rfl, rfl, rfl, Nat.le_refl _, fun _ _ _ => rfl⟩
theorem But.trans (h : But lo hi n₀ W W') (k : But lo hi n₀ W' W'') : But lo hi n₀ W W'' :=
  ⟨k.os.trans h.os, k.tape.trans h.tape, k.output.trans h.output, Nat.le_trans h.size k.size, fun i hi hn => (k.block i hi hn).trans (h.block i hi hn)⟩
theorem but_of {B : Nat} (h : Below B W W') (hB : n₀ ≤ B) : But lo hi n₀ W W' := ⟨h.os, h.tape, h.output, h.size, fun k hk _ => h.block k (by omega)⟩
theorem But.cell (h : But lo hi n₀ W W') {p : Addr} (hp : p.block < n₀) (hn : ¬ (lo ≤ p.block ∧ p.block < hi)) : W'.cell? p = W.cell? p := by
  unfold World.cell?
  rw [h.block _ hp hn]
theorem But.set (W : World) {b : Nat} (hp : lo ≤ b ∧ b < hi) (v : Value) : But lo hi n₀ W (W.setCell ⟨b, 0, none⟩ v) :=
  let g := grownBy_setCell' W b v
  ⟨g.os, g.tape, g.output, g.size, fun k hk hn => by
    rcases Nat.lt_or_ge k W.heap.size with h | h
    · exact g.block k h (fun e => by cases e; exact hn hp)
    · have hs : (W.setCell ⟨b, 0, none⟩ v).heap.size = W.heap.size := by simp
      rw [Array.getElem?_eq_none h, Array.getElem?_eq_none (by omega)]⟩
theorem But.below (h : But lo hi n₀ W W') (hlo : lo ≤ n₀) : Below lo W W' := ⟨h.os, h.tape, h.output, h.size, fun k hk => h.block k (by omega) (by omega)⟩
end

/-- Where a cut of a slice begins. -/
def cutA (A : Option Addr) (c i : Nat) : Option Addr := if c = i then A else A.map (·.add i)
theorem U8.midE {P : Program} {t e s : TypeId} (u : U8 P t e s) {w : World} {B n c : Nat} {A : Option Addr} {l : List UInt8} (h : Rb w B A n c l) {i k : Nat} (hi : i ≤ k) (hk : k ≤ n) (W : World) :
    (Instr.slice t (.slice A n c) (some (.int .i64 (i : Int))) (some (.int .i64 (k : Int))) none).run P W = .ok (.slice (cutA A c i) (k - i) (c - i)) W := by
  rw [run_slice_lh W t _ _ _ u.sl' .i64 .i64 (i : Int) (k : Int) (by omega) (by omega) (by have := h.2.1; omega), u.sz]
  simp [Result.andThen, sliced, cutA]
theorem Rb.midE {w : World} {B n c : Nat} {A : Option Addr} {l : List UInt8} (h : Rb w B A n c l) {i k : Nat} (hi : i ≤ k) (hk : k ≤ n) : Rb w B (cutA A c i) (k - i) (c - i) ((l.take k).drop i) := h.mid hi hk

/-- A block between two places. -/
abbrev Bk (n : Nat) := { p : Nat × Nat // p.1 ≤ p.2 ∧ p.2 ≤ n }
end Go.Proofs.Ytplkjljhpmldfaa

namespace Go.Proofs.Ytplkjljhpmldfaa
open Go.RowKit Go.Shelf

def isC (w : World) (b : Nat) : Prop := ∃ o : Obj, w.heap[b]? = some o ∧ o.isCells = true
theorem isC_of_cell {w : World} {p : Addr} {v : Value} (h : w.cell? p = some v) : isC w p.block := by
  unfold World.cell? at h
  cases hp : w.heap[p.block]? with
  | none => rw [hp] at h; simp at h
  | some o =>
    refine ⟨o, hp, ?_⟩
    rw [hp] at h
    cases o <;> simp_all [Obj.isCells]
/-- Blocks made from 'base' on, but for a slice's own, that hold cells. -/
def Sc (base : Nat) (w : World) (A : Option Addr) (b : Nat) : Prop := Sf base w A b ∧ isC w b
theorem sc_sf {base : Nat} {w : World} {A : Option Addr} : ∀ b, Sc base w A b → Sf base w A b := fun _ h => h.1
theorem RcS.cells {z : Nat} {w : World} {S : Nat → Prop} {A : Option Addr} {n c : Nat} {vs : List Value} (h : RcS z w S A n c vs) (hz : 0 < z) : RcS z w (fun b => S b ∧ isC w b) A n c vs :=
  ⟨h.1, h.2.1, h.2.2.1, fun hn => by
    obtain ⟨b, off, e, hb, hc⟩ := h.2.2.2 hn
    have hl : 0 < vs.length := by rw [h.1]; exact Nat.mul_pos hn hz
    exact ⟨b, off, e, ⟨hb, isC_of_cell (hc 0 _ (List.getElem?_eq_getElem hl))⟩, hc⟩⟩
theorem RrS.cells {w : World} {S : Nat → Prop} {v : Value} {r : List (List UInt8)} (h : RrS w S v r) : RrS w (fun b => S b ∧ isC w b) v r := by
  obtain ⟨A, n, c, e, h⟩ := h
  exact ⟨A, n, c, e, h.cells (by omega)⟩
theorem RrsS.cells {w : World} {S : Nat → Prop} {vs : List Value} {l : List (List (List UInt8))} (h : RrsS w S vs l) : RrsS w (fun b => S b ∧ isC w b) vs l := ⟨h.1, fun j v r h1 h2 => (h.2 j v r h1 h2).cells⟩
theorem RLS.cells {w : World} {S : Nat → Prop} {A : Option Addr} {n c : Nat} {l : List (List (List UInt8))} (h : RLS w S A n c l) : RLS w (fun b => S b ∧ isC w b) A n c l := by
  obtain ⟨vs, h1, h2⟩ := h
  exact ⟨vs, h1.cells (by omega), h2.cells⟩
theorem PrS.cells {w : World} {S : Nat → Prop} {u v : Value} {p : Nat × List (List (List UInt8))} (h : PrS w S u v p) : PrS w (fun b => S b ∧ isC w b) u v p := by
  obtain ⟨e, A, n, c, e2, h⟩ := h
  exact ⟨e, A, n, c, e2, h.cells⟩
theorem PsS.cells {w : World} {S : Nat → Prop} {vs : List Value} {l : List (Nat × List (List (List UInt8)))} (h : PsS w S vs l) : PsS w (fun b => S b ∧ isC w b) vs l :=
  ⟨h.1, fun j p hp => by
    obtain ⟨u, v, h1, h2, h3⟩ := h.2 j p hp
    exact ⟨u, v, h1, h2, h3.cells⟩⟩
/-- A turn of a block that holds no cells. -/
theorem sc_turn {base : Nat} {W W' : World} {A : Option Addr} {row : Option Nat} (hg : W.grownBy W' row) (hr : ∀ r, row = some r → ∃ o : Obj, W.heap[r]? = some o ∧ o.isCells = false) : Stays W W' (Sc base W A) (Sc base W' A) := by
  have hk : ∀ b, isC W b → b < W.heap.size → W'.heap[b]? = W.heap[b]? := fun b hb hlt => hg.block b hlt fun e => by
    obtain ⟨o, h1, h2⟩ := hr b e.symm
    obtain ⟨o', h3, h4⟩ := hb
    rw [h1] at h3
    injection h3 with h3
    subst h3
    rw [h2] at h4
    cases h4
  refine ⟨fun b ⟨⟨h1, h2, h3⟩, h4⟩ => ⟨⟨h1, Nat.lt_of_lt_of_le h2 hg.size, h3⟩, ?_⟩, fun p ⟨⟨_, h2, _⟩, h4⟩ => ?_⟩
  · obtain ⟨o, h5, h6⟩ := h4
    exact ⟨o, (hk b ⟨o, h5, h6⟩ h2).trans h5, h6⟩
  · unfold World.cell?
    rw [hk _ h4 h2]
theorem oc_turn {z : Nat} {W W' : World} {e : TypeId} {base n c : Nat} {A : Option Addr} {vs : List Value} {row : Option Nat} (h : Oc z W e base A n c vs) (hg : W.grownBy W' row) (hr : ∀ r, row = some r → ∃ o : Obj, W.heap[r]? = some o ∧ o.isCells = false) : Oc z W' e base A n c vs := by
  refine World.ownsRow.kept h hg ?_
  rw [ownBlock_slice]
  cases hA : ob A with
  | none => exact .inl rfl
  | some b =>
    refine .inr fun e2 => ?_
    obtain ⟨o, h1, h2⟩ := hr b e2.symm
    rcases h.2 with ⟨hv, hn⟩ | ⟨g, cap, cur, hv, hbg, hg2, _⟩
    · injection hv with hv
      subst hv
      cases hA
    · injection hv with hv
      subst hv
      cases hA
      rw [hg2] at h1
      injection h1 with h1
      subst h1
      cases h2
/-- A store below the row's base. -/
theorem sf_low {w : World} {base lo : Nat} {A : Option Addr} (h : lo < base) (v : Value) : Stays w (w.setCell ⟨lo, 0, none⟩ v) (Sf base w A) (Sf base (w.setCell ⟨lo, 0, none⟩ v) A) :=
  ⟨fun b ⟨h1, h2, h3⟩ => ⟨h1, by simpa using h2, h3⟩, fun p ⟨h1, _, _⟩ => World.cell?_setCell_other w _ _ v (fun e => by subst e; dsimp only at h1; omega)⟩
theorem oc_low {z : Nat} {w : World} {e : TypeId} {base n c lo : Nat} {A : Option Addr} {vs : List Value} (h : Oc z w e base A n c vs) (hl : lo < base) (v : Value) : Oc z (w.setCell ⟨lo, 0, none⟩ v) e base A n c vs := by
  refine World.ownsRow.kept h (grownBy_setCell' w lo v) ?_
  rw [ownBlock_slice]
  cases hA : ob A with
  | none => exact .inl rfl
  | some b => exact .inr fun e2 => by have := (oc_ob h b hA).1; cases e2; omega
theorem but_turn {lo hi n₀ : Nat} {w W W' : World} {row : Option Nat} (h : But lo hi n₀ w W) (hg : W.grownBy W' row) (hr : ∀ r, row = some r → n₀ ≤ r) (hs : n₀ ≤ W.heap.size) : But lo hi n₀ w W' :=
  h.trans ⟨hg.os, hg.tape, hg.output, hg.size, fun k hk _ => hg.block k (by omega) fun e => by have := hr k e.symm; omega⟩
theorem but_grow {lo hi n₀ base : Nat} {W W' : World} {A A' : Option Addr} (hg : Grows W W' A A') (hA : ∀ g, ob A = some g → base ≤ g) (hb : n₀ ≤ base) (hs : n₀ ≤ W.heap.size) : But lo hi n₀ W W' :=
  ⟨hg.1.os, hg.1.tape, hg.1.output, hg.1.size, fun k hk _ => hg.1.block k (by omega) fun e => by have := hA k e.symm; omega⟩
theorem but_put {lo hi n₀ l : Nat} {W : World} {o o' : Obj} (h : n₀ ≤ l) (hl : W.heap[l]? = some o) : But lo hi n₀ W (W.putObj l o') :=
  let g := grownBy_putObj' W l o'
  ⟨g.os, g.tape, g.output, g.size, fun k hk _ => g.block k (by have := (Array.getElem?_eq_some_iff.1 hl).1; omega) (fun e => by cases e; omega)⟩
theorem boxed_below {W W' : World} {B k : Nat} {t : TypeId} {v : Value} (h : Boxed W k t v) (hb : Below B W W') (hk : k < B) : Boxed W' k t v := (hb.block k hk).trans h
theorem boxed_but {lo hi n₀ k : Nat} {W W' : World} {t : TypeId} {v : Value} (h : Boxed W k t v) (hb : But lo hi n₀ W W') (hk : k < n₀) (hn : ¬ (lo ≤ k ∧ k < hi)) : Boxed W' k t v := (hb.block k hk hn).trans h
theorem keeps_of_below {W W' : World} (h : Below W.heap.size W W') (B : Nat) : KeepsFrom B W W' := ⟨h.size, fun k _ _ hk _ => (h.block k (Array.getElem?_eq_some_iff.1 hk).1).trans hk⟩
/-- An append to a row of cells leaves what holds no cells. -/
theorem keeps_grow {z : Nat} {W W' : World} {e : TypeId} {base n c : Nat} {A A' : Option Addr} {vs : List Value} (hg : Grows W W' A A') (h : Oc z W e base A n c vs) (B : Nat) : KeepsFrom B W W' :=
  ⟨hg.1.size, fun k o _ hk ho => (hg.1.block k (Array.getElem?_eq_some_iff.1 hk).1 fun e2 => by
    rcases h.2 with ⟨hv, hn⟩ | ⟨g, cap, cur, hv, hbg, hg2, _⟩
    · injection hv with hv
      subst hv
      cases e2
    · injection hv with hv
      subst hv
      cases e2
      rw [hg2] at hk
      injection hk with hk
      subst hk
      cases ho).trans hk⟩
theorem rrs_one {w : World} {S : Nat → Prop} {vs : List Value} {l : List (List (List UInt8))} (h : RrsS w S vs l) : ∀ v ∈ vs, v.oneCell' = true := by
  intro v hv
  obtain ⟨j, hj, rfl⟩ := List.getElem_of_mem hv
  obtain ⟨A, n, c, e, _⟩ := h.2 j vs[j] (l[j]'(by rw [← h.1]; exact hj)) (List.getElem?_eq_getElem hj) (List.getElem?_eq_getElem _)
  rw [e]; rfl
theorem Rn.other {w w' : World} {B n c g : Nat} {l : List Nat} (h : Rn w B (some ⟨g, 0, none⟩) n c l) (hg : w'.heap[g]? = w.heap[g]?) : Rn w' B (some ⟨g, 0, none⟩) n c l :=
  ⟨h.1, h.2.1, h.2.2.1, h.2.2.2.1, fun hn => by
    obtain ⟨b, off, e, hb, hc⟩ := h.2.2.2.2 hn
    injection e with e
    injection e with e1 e2
    subst e1 e2
    refine ⟨g, 0, rfl, hb, fun j x hx => ?_⟩
    have := hc j x hx
    unfold World.cell? at this ⊢
    dsimp only at this ⊢
    rw [hg]
    exact this⟩
section
variable {F : Fence} {nF : Nat} {P : Program} {t e : TypeId} {zv : Value} {z y : Nat}
/-- 'append(x, y...)' in a round. -/
theorem Sl.wpInApp (u : Sl P t e zv z y) {w : World} {ops : Array Oper} {rest : List Oper} {o : Oper} {a : Act} {Q : Exit → Act → World → Prop} (hgd : o.guard = none) (p q : Operand)
    (ho : o.op = .call { callee := .builtin .append, args := #[p, q], argTypes := #[t, t] })
    {base n c B m d N : Nat} {A D : Option Addr} {vs us ws : List Value} (hx : a.eval p = .slice A n c) (hy : a.eval q = .slice D m d) (hown : Oc z w e base A n c vs) (hr : Rc z w B D m d us) (h1 : ∀ v ∈ us, v.oneCell' = true)
    (hN : n + m = N) (hvs : vs ++ us = ws) (hsm : N * y ≤ 140737488355328) (hnm : N ≤ 140737488355328) (hbase : base ≤ w.heap.size)
    (h : ∀ A' c' w', Oc z w' e base A' N c' ws → Grows w w' A A' → wpListIn F nF P ops Q rest (a.put o.dst (.slice A' N c')) w') : wpListIn F nF P ops Q (o :: rest) a w := by
  subst hN hvs
  refine wpListIn_plain hgd fun K hK => ?_
  obtain ⟨A', c', w', hrun, h2, h3⟩ := u.appendAt o.type hown hr h1 hsm hnm hbase
  unfold Oper.wpIn
  refine ⟨by simp [Oper.about, ho, resolve, Target.leads, Sem.run_pure], ?_⟩
  rw [Oper.semAt_plain F _ _ (by rw [ho]; intro c hc'; cases hc')]
  simp [execOp, ho, resolve, invoke, builtin, hx, hy, hrun, Result.andThen]
  exact hK _ _ (h A' c' w' h2 h3)
end
end Go.Proofs.Ytplkjljhpmldfaa

namespace Go.Proofs.Ytplkjljhpmldfaa
open Go.RowKit Go.Shelf

theorem loadVar_box {P : Program} {W : World} {b : Nat} {t : TypeId} {v : Value} (hB : W.cell? ⟨b, 0, none⟩ = some v) (ht : ∀ w, (isAgg t).run P w = .ok false w) : (loadVar t ⟨b, 0, none⟩).run P W = .ok v W := by
  simp [loadVar, Sem.run_bind, ht, Result.andThen, run_load, hB]
theorem results_cells3 {fn : Func} {p q r : Tmp} {tp tq tr : TypeId} (h : fn.results = #[.cell p tp, .cell q tq, .cell r tr]) {tmps : Array Value} {P : Program} {w : World} {bp bq br : Nat} {vp vq vr : Value}
    (hp : tmps.getD p undef = .pointer (some ⟨bp, 0, none⟩)) (hq : tmps.getD q undef = .pointer (some ⟨bq, 0, none⟩)) (hr : tmps.getD r undef = .pointer (some ⟨br, 0, none⟩))
    (cp : w.cell? ⟨bp, 0, none⟩ = some vp) (cq : w.cell? ⟨bq, 0, none⟩ = some vq) (cr : w.cell? ⟨br, 0, none⟩ = some vr)
    (ap : ∀ w, (isAgg tp).run P w = .ok false w) (aq : ∀ w, (isAgg tq).run P w = .ok false w) (ar : ∀ w, (isAgg tr).run P w = .ok false w) :
    (results fn tmps).run P w = .ok (.tuple #[vp, vq, vr]) w := by
  rw [Array.getD_eq_getD_getElem?] at hp hq hr
  simp only [results, h]
  simp [Sem.run_bind, Result.andThen, hp, hq, hr, asAddr, loadVar_box cp ap, loadVar_box cq aq, loadVar_box cr ar]
theorem results_cells2 {fn : Func} {p q : Tmp} {tp tq : TypeId} (h : fn.results = #[.cell p tp, .cell q tq]) {tmps : Array Value} {P : Program} {w : World} {bp bq : Nat} {vp vq : Value}
    (hp : tmps.getD p undef = .pointer (some ⟨bp, 0, none⟩)) (hq : tmps.getD q undef = .pointer (some ⟨bq, 0, none⟩))
    (cp : w.cell? ⟨bp, 0, none⟩ = some vp) (cq : w.cell? ⟨bq, 0, none⟩ = some vq)
    (ap : ∀ w, (isAgg tp).run P w = .ok false w) (aq : ∀ w, (isAgg tq).run P w = .ok false w) :
    (results fn tmps).run P w = .ok (.tuple #[vp, vq]) w := by
  rw [Array.getD_eq_getD_getElem?] at hp hq
  simp only [results, h]
  simp [Sem.run_bind, Result.andThen, hp, hq, asAddr, loadVar_box cp ap, loadVar_box cq aq]
end Go.Proofs.Ytplkjljhpmldfaa
