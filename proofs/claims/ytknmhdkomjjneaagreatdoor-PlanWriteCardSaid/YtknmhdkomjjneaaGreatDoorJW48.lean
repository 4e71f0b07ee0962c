/-
  Joined: Za Zb Zc Zd Ze Zf Zg.
-/
import Derived.Test.YtknmhdkomjjneaaGreatDoorJW30
import Derived.RangeFuncNested
import Derived.RangeFuncBound
import Derived.RangeFuncCalls
import Derived.RangeFuncLeaves
import Derived.Shelf.Abstract
import Derived.Shelf.RegionOpen
import Derived.OwnWalkIn
import Derived.TacticsInMore
import Derived.LoopNIn
import Derived.LoopIn
import Derived.Laws.ResultCell
import Derived.Test.YtknmhdkomjjneaaGreatDoorJW20
import Derived.Test.YtknmhdkomjjneaaGreatDoorJW24
import Derived.Test.YtknmhdkomjjneaaGreatDoorJW6
import Derived.Test.YtknmhdkomjjneaaGreatDoorJW27
import Derived.Test.YtknmhdkomjjneaaGreatDoorJW8
import Derived.Test.YtknmhdkomjjneaaGreatDoorJW28
import Derived.Lib.MinMax
/-
  Words for range over a function: which blocks may turn, results that lie in cells of the call's own. (Seq's Ub and Uc without seq.)
-/
namespace Go.Proofs.YtknmhdkomjjneaaGreatDoor.Cht
open Go.RowKit Go.Shelf
attribute [local go_sem] Oper.semAt_some

structure But (lo hi n₀ : Nat) (W W' : World) : Prop where
  os : W'.os = W.os
  tape : W'.tape = W.tape
  output : W'.output = W.output
  size : W.heap.size ≤ W'.heap.size
  block : ∀ k, k < n₀ → ¬ (lo ≤ k ∧ k < hi) → W'.heap[k]? = W.heap[k]?
section
variable {lo hi n₀ : Nat} {W W' W'' : World}
theorem But.refl (W : World) : But lo hi n₀ W W := ⟨rfl, rfl, rfl, Nat.le_refl _, fun _ _ _ => rfl⟩
theorem But.trans (h : But lo hi n₀ W W') (k : But lo hi n₀ W' W'') : But lo hi n₀ W W'' :=
  ⟨k.os.trans h.os, k.tape.trans h.tape, k.output.trans h.output, Nat.le_trans h.size k.size, fun i hi hn => (k.block i hi hn).trans (h.block i hi hn)⟩
theorem but_of {B : Nat} (h : Below B W W') (hB : n₀ ≤ B) : But lo hi n₀ W W' := ⟨h.os, h.tape, h.output, h.size, fun k hk _ => h.block k (by omega)⟩
theorem But.cell (h : But lo hi n₀ W W') {p : Addr} (hp : p.block < n₀) (hn : ¬ (lo ≤ p.block ∧ p.block < hi)) : W'.cell? p = W.cell? p := by
  unfold World.cell?
  rw [h.block _ hp hn]
theorem But.set (W : World) {b : Nat} (hp : lo ≤ b ∧ b < hi) (v : Value) : But lo hi n₀ W (W.setCell ⟨b, 0, none⟩ v) :=
  let g := grownBy_setCell' W b v
  ⟨g.os, g.tape, g.output, g.size, fun k hk hn => by
    rcases Nat.lt_or_ge k W.heap.size with h | h
    · exact g.block k h (fun e => by cases e; exact hn hp)
    · have hs : (W.setCell ⟨b, 0, none⟩ v).heap.size = W.heap.size := by simp
      rw [Array.getElem?_eq_none h, Array.getElem?_eq_none (by omega)]⟩
theorem But.below (h : But lo hi n₀ W W') (hlo : lo ≤ n₀) : Below lo W W' := ⟨h.os, h.tape, h.output, h.size, fun k hk => h.block k (by omega) (by omega)⟩
end

def cutA (A : Option Addr) (c i : Nat) : Option Addr := if c = i then A else A.map (·.add i)
abbrev Bk (n : Nat) := { p : Nat × Nat // p.1 ≤ p.2 ∧ p.2 ≤ n }
end Go.Proofs.YtknmhdkomjjneaaGreatDoor.Cht

namespace Go.Proofs.YtknmhdkomjjneaaGreatDoor.Cht
open Go.RowKit Go.Shelf
theorem oc_turn {z : Nat} {W W' : World} {e : TypeId} {base n c : Nat} {A : Option Addr} {vs : List Value} {row : Option Nat} (h : Oc z W e base A n c vs) (hg : W.grownBy W' row) (hr : ∀ r, row = some r → ∃ o : Obj, W.heap[r]? = some o ∧ o.isCells = false) : Oc z W' e base A n c vs := by
  refine World.ownsRow.kept h hg ?_
  rw [ownBlock_slice]
  cases hA : ob A with
  | none => exact .inl rfl
  | some b =>
    refine .inr fun e2 => ?_
    obtain ⟨o, h1, h2⟩ := hr b e2.symm
    rcases h.2 with ⟨hv, hn⟩ | ⟨g, cap, cur, hv, hbg, hg2, _⟩
    · injection hv with hv
      subst hv
      cases hA
    · injection hv with hv
      subst hv
      cases hA
      rw [hg2] at h1
      injection h1 with h1
      subst h1
      cases h2
theorem oc_low {z : Nat} {w : World} {e : TypeId} {base n c lo : Nat} {A : Option Addr} {vs : List Value} (h : Oc z w e base A n c vs) (hl : lo < base) (v : Value) : Oc z (w.setCell ⟨lo, 0, none⟩ v) e base A n c vs := by
  refine World.ownsRow.kept h (grownBy_setCell' w lo v) ?_
  rw [ownBlock_slice]
  cases hA : ob A with
  | none => exact .inl rfl
  | some b => exact .inr fun e2 => by have := (oc_ob h b hA).1; cases e2; omega
theorem but_turn {lo hi n₀ : Nat} {w W W' : World} {row : Option Nat} (h : But lo hi n₀ w W) (hg : W.grownBy W' row) (hr : ∀ r, row = some r → n₀ ≤ r) (hs : n₀ ≤ W.heap.size) : But lo hi n₀ w W' :=
  h.trans ⟨hg.os, hg.tape, hg.output, hg.size, fun k hk _ => hg.block k (by omega) fun e => by have := hr k e.symm; omega⟩
theorem but_grow {lo hi n₀ base : Nat} {W W' : World} {A A' : Option Addr} (hg : Grows W W' A A') (hA : ∀ g, ob A = some g → base ≤ g) (hb : n₀ ≤ base) (hs : n₀ ≤ W.heap.size) : But lo hi n₀ W W' :=
  ⟨hg.1.os, hg.1.tape, hg.1.output, hg.1.size, fun k hk _ => hg.1.block k (by omega) fun e => by have := hA k e.symm; omega⟩
theorem but_put {lo hi n₀ l : Nat} {W : World} {o o' : Obj} (h : n₀ ≤ l) (hl : W.heap[l]? = some o) : But lo hi n₀ W (W.putObj l o') :=
  let g := grownBy_putObj' W l o'
  ⟨g.os, g.tape, g.output, g.size, fun k hk _ => g.block k (by have := (Array.getElem?_eq_some_iff.1 hl).1; omega) (fun e => by cases e; omega)⟩
theorem boxed_below {W W' : World} {B k : Nat} {t : TypeId} {v : Value} (h : Boxed W k t v) (hb : Below B W W') (hk : k < B) : Boxed W' k t v := (hb.block k hk).trans h
theorem boxed_but {lo hi n₀ k : Nat} {W W' : World} {t : TypeId} {v : Value} (h : Boxed W k t v) (hb : But lo hi n₀ W W') (hk : k < n₀) (hn : ¬ (lo ≤ k ∧ k < hi)) : Boxed W' k t v := (hb.block k hk hn).trans h
theorem keeps_of_below {W W' : World} (h : Below W.heap.size W W') (B : Nat) : KeepsFrom B W W' := ⟨h.size, fun k _ _ hk _ => (h.block k (Array.getElem?_eq_some_iff.1 hk).1).trans hk⟩
theorem keeps_grow {z : Nat} {W W' : World} {e : TypeId} {base n c : Nat} {A A' : Option Addr} {vs : List Value} (hg : Grows W W' A A') (h : Oc z W e base A n c vs) (B : Nat) : KeepsFrom B W W' :=
  ⟨hg.1.size, fun k o _ hk ho => (hg.1.block k (Array.getElem?_eq_some_iff.1 hk).1 fun e2 => by
    rcases h.2 with ⟨hv, hn⟩ | ⟨g, cap, cur, hv, hbg, hg2, _⟩
    · injection hv with hv
      subst hv
      cases e2
    · injection hv with hv
      subst hv
      cases e2
      rw [hg2] at hk
      injection hk with hk
      subst hk
      cases ho).trans hk⟩
theorem _root_.Go.Proofs.YtknmhdkomjjneaaGreatDoor.Rn.otherK {w w' : World} {B n c g : Nat} {l : List Nat} (h : Rn w B (some ⟨g, 0, none⟩) n c l) (hg : w'.heap[g]? = w.heap[g]?) : Rn w' B (some ⟨g, 0, none⟩) n c l :=
  ⟨h.1, h.2.1, h.2.2.1, h.2.2.2.1, fun hn => by
    obtain ⟨b, off, e, hb, hc⟩ := h.2.2.2.2 hn
    injection e with e
    injection e with e1 e2
    subst e1 e2
    refine ⟨g, 0, rfl, hb, fun j x hx => ?_⟩
    have := hc j x hx
    unfold World.cell? at this ⊢
    dsimp only at this ⊢
    rw [hg]
    exact this⟩
section
variable {F : Fence} {nF : Nat} {P : Program} {t e : TypeId} {zv : Value} {z y : Nat}
theorem _root_.Go.Proofs.YtknmhdkomjjneaaGreatDoor.Sl.wpInAppK (u : Sl P t e zv z y) {w : World} {ops : Array Oper} {rest : List Oper} {o : Oper} {a : Act} {Q : Exit → Act → World → Prop} (hgd : o.guard = none) (p q : Operand)
    (ho : o.op = .call { callee := .builtin .append, args := #[p, q], argTypes := #[t, t] })
    {base n c B m d N : Nat} {A D : Option Addr} {vs us ws : List Value} (hx : a.eval p = .slice A n c) (hy : a.eval q = .slice D m d) (hown : Oc z w e base A n c vs) (hr : Rc z w B D m d us) (h1 : ∀ v ∈ us, v.oneCell' = true)
    (hN : n + m = N) (hvs : vs ++ us = ws) (hsm : N * y ≤ 140737488355328) (hnm : N ≤ 140737488355328) (hbase : base ≤ w.heap.size)
    (h : ∀ A' c' w', Oc z w' e base A' N c' ws → Grows w w' A A' → wpListIn F nF P ops Q rest (a.put o.dst (.slice A' N c')) w') : wpListIn F nF P ops Q (o :: rest) a w := by
  subst hN hvs
  refine wpListIn_plain hgd fun K hK => ?_
  obtain ⟨A', c', w', hrun, h2, h3⟩ := u.appendAt o.type hown hr h1 hsm hnm hbase
  unfold Oper.wpIn
  refine ⟨by simp [Oper.about, ho, resolve, Target.leads, Sem.run_pure], ?_⟩
  rw [Oper.semAt_plain F _ _ (by rw [ho]; intro c hc'; cases hc')]
  simp [execOp, ho, resolve, invoke, builtin, hx, hy, hrun, Result.andThen]
  exact hK _ _ (h A' c' w' h2 h3)
end
end Go.Proofs.YtknmhdkomjjneaaGreatDoor.Cht

namespace Go.Proofs.YtknmhdkomjjneaaGreatDoor.Cht
open Go.RowKit Go.Shelf

theorem loadVar_box {P : Program} {W : World} {b : Nat} {t : TypeId} {v : Value} (hB : W.cell? ⟨b, 0, none⟩ = some v) (ht : ∀ w, (isAgg t).run P w = .ok false w) : (loadVar t ⟨b, 0, none⟩).run P W = .ok v W := by
  simp [loadVar, Sem.run_bind, ht, Result.andThen, run_load, hB]
theorem results_cells2 {fn : Func} {p q : Tmp} {tp tq : TypeId} (h : fn.results = #[.cell p tp, .cell q tq]) {tmps : Array Value} {P : Program} {w : World} {bp bq : Nat} {vp vq : Value}
    (hp : tmps.getD p undef = .pointer (some ⟨bp, 0, none⟩)) (hq : tmps.getD q undef = .pointer (some ⟨bq, 0, none⟩))
    (cp : w.cell? ⟨bp, 0, none⟩ = some vp) (cq : w.cell? ⟨bq, 0, none⟩ = some vq)
    (ap : ∀ w, (isAgg tp).run P w = .ok false w) (aq : ∀ w, (isAgg tq).run P w = .ok false w) :
    (results fn tmps).run P w = .ok (.tuple #[vp, vq]) w := by
  rw [Array.getD_eq_getD_getElem?] at hp hq
  simp only [results, h]
  simp [Sem.run_bind, Result.andThen, hp, hq, asAddr, loadVar_box cp ap, loadVar_box cq aq]
end Go.Proofs.YtknmhdkomjjneaaGreatDoor.Cht

/-
  The iterator over chunks of records: what the function that slices.Chunk returns hands over.
-/

namespace Go.Proofs.YtknmhdkomjjneaaGreatDoor.Cht
open Go.RowKit Go.Shelf
attribute [local go_sem] Oper.semAt_some

def cks (n : Nat) : Nat → Nat → List (Nat × Nat)
  | 0, _ => []
  | k + 1, i => if i < n then (i, min (i + 4) n) :: cks n k (i + 4) else []
def ck (n i : Nat) : List (Nat × Nat) := cks n (n - i) i
theorem cks_more (n : Nat) : ∀ (k m i : Nat), n - i ≤ k → n - i ≤ m → cks n k i = cks n m i
  | 0, m, i, h1, h2 => by
    cases m with
    | zero => rfl
    | succ m => rw [cks, cks, if_neg (by omega)]
  | k + 1, m, i, h1, h2 => by
    cases m with
    | zero => rw [cks, cks, if_neg (by omega)]
    | succ m =>
      rw [cks, cks]
      split
      · rw [cks_more n k m _ (by omega) (by omega)]
      · rfl
theorem ck_step {n i : Nat} (h : i < n) : ck n i = (i, min (i + 4) n) :: ck n (i + 4) := by
  unfold ck
  rw [show n - i = (n - i - 1) + 1 by omega, cks, if_pos h, cks_more n (n - i - 1) (n - (i + 4)) _ (by omega) (by omega)]
theorem ck_end {n i : Nat} (h : n ≤ i) : ck n i = [] := by unfold ck; rw [show n - i = 0 by omega, cks]
def encC (A : Option Addr) {n : Nat} (x : Bk n) : Array Value := #[.slice (cutA A x.1.2 x.1.1) (x.1.2 - x.1.1) (x.1.2 - x.1.1)]

theorem rty_el : Tryz.prog.elem 55 = 78 := by simp only [Program.elem, rty.sl]
theorem rty_sz (W : World) : (sizeOf (Tryz.prog.elem 55)).run Tryz.prog W = .ok 1 W := by
  obtain ⟨i, hi, hz0, hz1, hz2⟩ := info_parts rty.inf
  rw [rty_el]
  simp [sizeOf, typeInfo, hi, hz1]
theorem rty_sl : Tryz.prog.underlying 55 = some (.slice (Tryz.prog.elem 55)) := by rw [rty_el]; exact rty.sl
theorem sl1 (A : Option Addr) (n c k : Nat) (hk : k ≤ n) (W : World) : (Instr.slice 55 (.slice A n c) (some (.int .i64 (k : Int))) none none).run Tryz.prog W = .ok (.slice (cutA A c k) (n - k) (c - k)) W := by
  rw [run_slice_l W 55 _ _ _ rty_sl .i64 (k : Int) (by omega) (by omega), rty_sz]
  simp [Result.andThen, sliced, cutA]
theorem sl2 (A : Option Addr) (n c k e : Nat) (hk : k ≤ e) (he : e ≤ n) (hc : n ≤ c) (W : World) : (Instr.slice 55 (.slice A n c) (some (.int .i64 (k : Int))) (some (.int .i64 (e : Int))) (some (.int .i64 (e : Int)))).run Tryz.prog W = .ok (.slice (cutA A e k) (e - k) (e - k)) W := by
  rw [run_slice_lhm W 55 _ _ _ rty_sl .i64 .i64 .i64 (k : Int) (e : Int) (e : Int) (by omega) (by omega) (by omega) (by omega), rty_sz]
  simp [Result.andThen, sliced, cutA]

set_option maxRecDepth 100000 in
theorem chunk_c (A : Option Addr) (n c : Nat) (w : World) :
    Calls Tryz.prog 127 #[.slice A n c, .int .i64 4] w fun e w' =>
      e = .returned (.func (.func 157) #[] #[.pointer (some ⟨w.heap.size, 0, none⟩), .pointer (some ⟨w.heap.size + 1, 0, none⟩)]) ∧
      w' = (w.alloc (.cells #[.slice A n c] 55)).alloc (.cells #[.int .i64 4] 3) := by
  go_enter Tryz.func127, Tryz.ntmps127
  go_wp2
  go_ret
  exact ⟨rfl, rfl⟩

set_option maxRecDepth 100000 in
set_option maxHeartbeats 2000000 in
theorem chunk_stops (A : Option Addr) (n c : Nat) (lo hi : Nat) (w : World) (hn : n ≤ 1000000) (hnc : n ≤ c) (Bs Bn : Nat) (hBs : w.cell? ⟨Bs, 0, none⟩ = some (.slice A n c) ∧ hi ≤ Bs ∧ Bs < w.heap.size)
    (hBn : w.cell? ⟨Bn, 0, none⟩ = some (.int .i64 4) ∧ hi ≤ Bn ∧ Bn < w.heap.size) (m : Nat) :
    SeqStopsK Fence.wide (m + 1) Tryz.prog 157 #[.pointer (some ⟨Bs, 0, none⟩), .pointer (some ⟨Bn, 0, none⟩)] (encC A (n := n)) (But lo hi w.heap.size)
      (fun xs => xs.map (·.1) = ck n 0) (fun pre => pre.map (·.1) <+: ck n 0) (n + 1) w := fun L J Jx W hW hJ hJx hY h0 => by
  have hWs := hW.size
  refine callsIn_of_wp Tryz.func157 rfl trivial ?_ rfl
  simp only [Tryz.ntmps157, List.size_toArray, List.length_cons, List.length_nil, Nat.reduceAdd, Nat.reduceSub, Array.replicate_succ, Array.replicate_zero, List.push_toArray, List.append_toArray, List.nil_append, List.cons_append]
  gi_wp2
  gi_loopw [4] (fun a wr => ∃ (pre : List (Bk n)) (k : Nat), a = .int .i64 (k : Int) ∧ J pre wr ∧ But lo hi w.heap.size W wr ∧ W.heap.size ≤ wr.heap.size ∧ Hid (ck n 0 = pre.map (·.1) ++ ck n k) ∧ pre.length ≤ k ∧ k ≤ n + 4)
    (fun a _ => n - (intOf a).toNat)
  case atStart => exact ⟨[], 0, rfl, h0, But.refl W, Nat.le_refl _, Lib.hid rfl, Nat.zero_le _, by omega⟩
  case round =>
    obtain ⟨pre, k, rfl, hJs, hbut, hws, hseg, hpl, hk3⟩ := hrel
    have kBs : wr.cell? ⟨Bs, 0, none⟩ = some (.slice A n c) := (hbut.cell (p := ⟨Bs, 0, none⟩) hBs.2.2 (by show ¬ (lo ≤ Bs ∧ Bs < hi); omega)).trans ((hW.cell (p := ⟨Bs, 0, none⟩) hBs.2.2).trans hBs.1)
    have kBn : wr.cell? ⟨Bn, 0, none⟩ = some (.int .i64 4) := (hbut.cell (p := ⟨Bn, 0, none⟩) hBn.2.2 (by show ¬ (lo ≤ Bn ∧ Bn < hi); omega)).trans ((hW.cell (p := ⟨Bn, 0, none⟩) hBn.2.2).trans hBn.1)
    by_cases hlt : k < n
    · obtain ⟨e, he⟩ : ∃ e, e = min (k + 4) n := ⟨_, rfl⟩
      obtain ⟨E, hE⟩ : ∃ E, E = e - k := ⟨_, rfl⟩
      obtain ⟨x, hxv⟩ : ∃ x : Bk n, x.1 = (k, e) := ⟨⟨(k, e), by dsimp only; omega⟩, rfl⟩
      have henc : encC A x = #[.slice (cutA A e k) (e - k) (e - k)] := by unfold encC; rw [hxv]
      have hs1 : ∀ W, (Instr.slice 55 (.slice A n c) (some (.int .i64 (k : Int))) none none).run Tryz.prog W = .ok (.slice (cutA A c k) (n - k) (c - k)) W := fun W => sl1 A n c k (by omega) W
      have hs2 : ∀ W, (Instr.slice 55 (.slice A n c) (some (.int .i64 (k : Int))) (some (.int .i64 ((k : Int) + (E : Int)))) (some (.int .i64 ((k : Int) + (E : Int))))).run Tryz.prog W = .ok (.slice (cutA A e k) (e - k) (e - k)) W := fun W => by
        have := sl2 A n c k e (by omega) (by omega) hnc W
        rwa [show ((e : Nat) : Int) = (k : Int) + (E : Int) by omega] at this
      have hseg2 : Hid (ck n 0 = (pre ++ [x]).map (·.1) ++ ck n (k + 4)) := Lib.hid (by
        rw [hseg.out, ck_step hlt, ← he]
        simp [hxv])
      have Henc := Lib.hid henc; have He := Lib.hid he; have hE3 : k + E ≤ n ∧ E ≤ 4 ∧ (E = 4 ∨ k + E = n) := by omega
      clear henc he hE
      gi_wp2
      have zq : wr.drew.heap.size = wr.heap.size := rfl
      refine wpIn_wide.2 ?_
      refine wp_region_sched [(false, 0), (false, 1), (false, 2), (false, 3), (false, 4), (false, 5), (false, 6)] (by kernel_rfl) (by kernel_rfl) (by kernel_rfl) (by kernel_rfl) (fun _ _ d _ _ h => by cases d <;> exact h) ?_
      refine wpS_read (o := { dst := some 13, op := Go.Op.load 3 (Go.Operand.tmp 2), type := 3, pos := "iter.go:105", after := #[], guard := none }) (v := .int .i64 4) rfl (by rfl) ?_ ?_
      · intro w' hg; have hc' := (hg.cell (p := ⟨Bn, 0, none⟩) (by show Bn < wr.heap.size; omega)).trans kBn; go_simp
      try simp only [Act.put, List.setIfInBounds_toArray, List.set_cons_zero, List.set_cons_succ]
      refine wpS_read (o := { dst := some 14, op := Go.Op.load 55 (Go.Operand.tmp 1), type := 55, pos := "iter.go:105", after := #[], guard := none }) (v := .slice A n c) rfl (by rfl) ?_ ?_
      · intro w' hg; have hc' := (hg.cell (p := ⟨Bs, 0, none⟩) (by show Bs < wr.heap.size; omega)).trans kBs; go_simp
      try simp only [Act.put, List.setIfInBounds_toArray, List.set_cons_zero, List.set_cons_succ]
      refine wpS_read (o := { dst := some 15, op := Go.Op.move (Go.Operand.tmp 4), type := 3, pos := "iter.go:105", after := #[], guard := none }) (v := .int .i64 (k : Int)) rfl (by rfl) ?_ ?_
      · intro w' hg; go_simp
      try simp only [Act.put, List.setIfInBounds_toArray, List.set_cons_zero, List.set_cons_succ]
      refine wpS_read (o := { dst := some 16, op := Go.Op.slice 55 (Go.Operand.tmp 14) (some (Go.Operand.tmp 15)) none none, type := 55, pos := "iter.go:105", after := #[{ on := 1, ground := Go.Ground.data }, { on := 2, ground := Go.Ground.data }], guard := none }) (v := .slice (cutA A c k) (n - k) (c - k)) rfl (by rfl) ?_ ?_
      · intro w' hg; go_simp
      try simp only [Act.put, List.setIfInBounds_toArray, List.set_cons_zero, List.set_cons_succ]
      refine wpS_read (o := { dst := some 17, op := Go.Op.call { callee := Go.Callee.builtin Go.Builtin.len, args := #[Go.Operand.tmp 16], argTypes := #[55] }, type := 3, pos := "iter.go:105", after := #[{ on := 3, ground := Go.Ground.data }], guard := none }) (v := .int .i64 ((n - k : Nat) : Int)) rfl (by rfl) ?_ ?_
      · intro w' hg; go_simp
      try simp only [Act.put, List.setIfInBounds_toArray, List.set_cons_zero, List.set_cons_succ]
      refine wpS_read (o := { dst := some 18, op := Go.Op.call { callee := Go.Callee.builtin Go.Builtin.min, args := #[Go.Operand.tmp 13, Go.Operand.tmp 17], argTypes := #[3, 3] }, type := 3, pos := "iter.go:105", after := #[{ on := 0, ground := Go.Ground.data }, { on := 4, ground := Go.Ground.data }], guard := none }) (v := .int .i64 ((E : Nat) : Int)) rfl (by rfl) ?_ ?_
      · intro w' hg; go_simp; omega
      try simp only [Act.put, List.setIfInBounds_toArray, List.set_cons_zero, List.set_cons_succ]
      refine wpS_read (o := { dst := some 5, op := Go.Op.assign (Go.Operand.tmp 18), type := 3, pos := "iter.go:105", after := #[{ on := 5, ground := Go.Ground.data }, { on := 0, ground := Go.Ground.phase }, { on := 1, ground := Go.Ground.phase }, { on := 2, ground := Go.Ground.phase }, { on := 3, ground := Go.Ground.phase }, { on := 4, ground := Go.Ground.phase }, { on := 5, ground := Go.Ground.phase }], guard := none }) (v := .int .i64 ((E : Nat) : Int)) rfl (by rfl) ?_ ?_
      · intro w' hg; go_simp
      try simp only [Act.put, List.setIfInBounds_toArray, List.set_cons_zero, List.set_cons_succ]
      refine wpS_done ?_
      obtain ⟨wd, hwd⟩ : ∃ wd, wd = wr.drew := ⟨_, rfl⟩
      have hbd : Below wr.heap.size wr wd := by rw [hwd]; exact grow_drew wr
      have zd := hbd.size
      have kBsd : wd.cell? ⟨Bs, 0, none⟩ = some (.slice A n c) := (hbd.cell (p := ⟨Bs, 0, none⟩) (by show Bs < wr.heap.size; omega)).trans kBs
      have kBnd : wd.cell? ⟨Bn, 0, none⟩ = some (.int .i64 4) := (hbd.cell (p := ⟨Bn, 0, none⟩) (by show Bn < wr.heap.size; omega)).trans kBn
      rw [← hwd]
      clear hwd zq
      obtain ⟨fn, tmps, assign, body, hy, hR⟩ := hY pre x wd (hJ pre wr wd none hJs (grown_below hbd none) (fun r e => by cases e)) (by omega)
      rw [Henc.out] at hy
      gi_wp2
      refine hR.mono ?_
      rintro e3 W3 (⟨rfl, hJ3, hk3⟩ | ⟨rfl, hJx3⟩)
      · have hbut3 := (hbut.trans (but_of hbd (by omega))).trans hk3
        have hs3 := hk3.size
        have kBn3 : W3.cell? ⟨Bn, 0, none⟩ = some (.int .i64 4) := (hk3.cell (p := ⟨Bn, 0, none⟩) hBn.2.2 (by show ¬ (lo ≤ Bn ∧ Bn < hi); omega)).trans kBnd
        clear hR hy
        gi_wp2
        go_roundw
        case rel => exact ⟨pre ++ [x], k + 4, by go_num, hJ3, hbut3, by omega, hseg2, by simp; omega, by omega⟩
        case measure => simp [intOf]; omega
      · clear hR hy
        gi_wp2
        refine bodyPost_ret (results_none rfl _ _ _) rfl ?_
        exact ⟨⟨_, rfl⟩, .inr ⟨pre ++ [x], by rw [hseg2.out]; exact List.prefix_append _ _, hJx3⟩⟩
    · have hend : ck n 0 = pre.map (·.1) := by rw [hseg.out, ck_end (by omega), List.append_nil]
      have Hend := Lib.hid hend; clear hend
      gi_wp2
      go_end0
      exact ⟨⟨_, rfl⟩, .inl ⟨pre, Hend.out.symm, hJs⟩⟩
end Go.Proofs.YtknmhdkomjjneaaGreatDoor.Cht

/-
  chest.addSize, blockOf: what each call returns and leaves.
-/

namespace Go.Proofs.YtknmhdkomjjneaaGreatDoor.Cht
open Go.RowKit

def SzA (base : Nat) (w : World) (A0 : Option Addr) (L : List UInt8) (n : Nat) (o i : Value) (wr : World) : Prop :=
  ∃ A c M, ∃ k : Nat, o = .slice A (M : List UInt8).length c ∧ i = .int .i64 (k : Int) ∧ k ≤ 4 ∧ M = L ++ (Cm.four n).take k ∧ Own wr 5 base A c M ∧ Grows w wr A0 A ∧ base ≤ wr.heap.size
theorem four_take (n k : Nat) (h : k < 4) : (Cm.four n).take (k + 1) = (Cm.four n).take k ++ [Cm.byteAt n k] := by
  rw [List.take_add_one, Cm.four_get n k h]
  rfl

set_option maxRecDepth 100000 in
set_option maxHeartbeats 2000000 in
theorem addSize_c (A : Option Addr) (c base n : Nat) (L : List UInt8) (w : World) (ho : Own w 5 base A c L) (hb : base ≤ w.heap.size) (hn : n ≤ 1000000) (hL : L.length ≤ 1000000) :
    Calls Tryz.prog 168 #[.slice A L.length c, .int .i64 (n : Int)] w fun e w' => ∃ A' c', e = .returned (.slice A' (L ++ Cm.four n).length c') ∧ Own w' 5 base A' c' (L ++ Cm.four n) ∧ Grows w w' A A' := by
  have Ho := Lib.hid ho; clear ho
  go_enter Tryz.func168, Tryz.ntmps168
  go_wp2
  go_loopw [0, 6] (fun o i wr => SzA base w A L n o i wr) (fun _ i _ => 4 - (intOf i).toNat)
  case atStart => exact ⟨A, c, L, 0, rfl, rfl, Nat.zero_le _, by simp, Ho.out, Grows.refl _ _, hb⟩
  case round =>
    obtain ⟨A3, c3, M, k, rfl, rfl, hk, hM, ho3, hb3, hz3⟩ := hrel
    by_cases hlt : k < 4
    · have hN : M ++ [Cm.byteAt n k] = L ++ (Cm.four n).take (k + 1) := by rw [hM, four_take n k hlt, List.append_assoc]
      have hMl : M.length ≤ 1000004 := by rw [hM, List.length_append, List.length_take, Cm.four_len]; omega
      obtain ⟨N, hN2⟩ : ∃ N, N = M ++ [Cm.byteAt n k] := ⟨_, rfl⟩
      have hNl : N.length ≤ 1000005 := by rw [hN2, List.length_append]; simp; omega
      have Ho3 := Lib.hid ho3; have HN := Lib.hid hN; have HN2 := Lib.hid hN2
      clear ho3 hM hN hN2
      obtain rfl | rfl | rfl | rfl : k = 0 ∨ k = 1 ∨ k = 2 ∨ k = 3 := by omega
      all_goals
        have hv := Cm.byteAt_nat n
        have Hv := Lib.hid hv
        clear hv
        go_wp2_with (at_builtin; go_must (refine bty.wpAppTo rfl (.tmp 9) (.tmp 15) rfl (l := M) (N := N) rfl rfl (Ho3.out.alloc _) (Rb.oneI _ _ _ _ ?hz) HN2.out.symm ?h1 ?h2 ?_))
        case hz => rw [Hv.out]; first | (simp; done) | (simp; omega)
        case h1 => omega
        case h2 => simp; omega
        intro A7 c7 w7 ho7 hg7
        have b7 := hb3.trans (Grows.pre ((Below.refl _ _).alloc (Nat.le_refl _) _) hg7)
        have z7 := b7.size
        have s7 : base ≤ w7.heap.size := by omega
        have Ho7 := Lib.hid ho7
        clear ho7 hg7
        go_wp2
        go_roundw
        case rel =>
          first
            | exact ⟨A7, c7, N, 1, rfl, rfl, by omega, by rw [HN2.out, HN.out], Ho7.out, b7, s7⟩
            | exact ⟨A7, c7, N, 2, rfl, rfl, by omega, by rw [HN2.out, HN.out], Ho7.out, b7, s7⟩
            | exact ⟨A7, c7, N, 3, rfl, rfl, by omega, by rw [HN2.out, HN.out], Ho7.out, b7, s7⟩
            | exact ⟨A7, c7, N, 4, rfl, rfl, by omega, by rw [HN2.out, HN.out], Ho7.out, b7, s7⟩
        case measure => simp [intOf]
    · obtain rfl : k = 4 := by omega
      have hM' : M = L ++ Cm.four n := by rw [hM]; rfl
      have HM := Lib.hid hM'; have Ho3 := Lib.hid ho3
      clear hM hM' ho3
      go_wp2
      go_ret
      rw [← HM.out]
      exact ⟨A3, c3, rfl, Ho3.out, hb3⟩

theorem mayC (c : List (List (List UInt8))) : (∀ r ∈ c, Fm.May r) ∨ ¬ ∀ r ∈ c, Fm.May r := Decidable.em _
def RetBl (w : World) (c : List (List (List UInt8))) (e : Ending) (w' : World) : Prop :=
  Below w.heap.size w w' ∧ if ∀ r ∈ c, Fm.May r then (∃ A k, e = .returned (.tuple #[.slice A (Hm.blkw c).length k, .bool true]) ∧ Own w' 5 w.heap.size A k (Hm.blkw c)) else e = .returned (.tuple #[.slice none 0 0, .bool false])

set_option maxRecDepth 100000 in
set_option maxHeartbeats 2000000 in
theorem blockOf_c (At : Option Addr) (ct : Nat) (D : Option Addr) (m d : Nat) (c : List (List (List UInt8))) (w : World) (ht : Rn w w.heap.size At 256 ct Cm.tab) (hr : RL w w.heap.size D m d c) (hm : m ≤ 5000) (hsz : (Fm.enc c).length ≤ 3200) :
    Calls Tryz.prog 132 #[.slice At 256 ct, .slice D m d] w (RetBl w c) := by
  rcases mayC c with hmay | hmay
  · obtain ⟨E, hE⟩ : ∃ E, E = Fm.enc c := ⟨_, rfl⟩
    obtain ⟨p, hp⟩ : ∃ p, p = Pm.pressS E := ⟨_, rfl⟩
    obtain ⟨bl, hbl⟩ : ∃ bl, bl = Hm.blkw c := ⟨_, rfl⟩
    obtain ⟨q, hq⟩ : ∃ q, q = bl.length := ⟨_, rfl⟩
    have hs : Cm.sealS Cm.tab p = (bl, 0) := by rw [sealS_ok _ _ Cm.tab_len, hbl, hp, hE]; rfl
    have hql := (Hm.blkw_len (c := c) (by omega)).2
    rw [← hbl, ← hq] at hql
    have hEl : E.length ≤ 3200 := by rw [hE]; exact hsz
    have hpl : p.length ≤ 20000 := by rw [hp]; have := Pm.press_len E (by omega); omega
    obtain ⟨el, hel⟩ : ∃ el, el = E.length := ⟨_, rfl⟩
    obtain ⟨pl, hpl2⟩ : ∃ pl, pl = p.length := ⟨_, rfl⟩
    rw [← hel] at hEl
    rw [← hpl2] at hpl
    have henc := fun W (hW : RL W W.heap.size D m d c) => encode_c D m d W.heap.size c W hW (Nat.le_refl _) (by omega) (by omega)
    rw [encS_ok hmay, ← hE] at henc
    have hpr := fun W A k (hW : Rb W W.heap.size A el k E) => press_c A el k E W hW (by omega)
    rw [← hp] at hpr
    have hse := fun W A k (hT : Rn W W.heap.size At 256 ct Cm.tab) (hW : Rb W W.heap.size A pl k p) => seal_lit At 256 ct Cm.tab A pl k p W hT (by omega) hW (by omega) bl q 0 hs hq.symm
    have Ht := Lib.hid ht; have Hr := Lib.hid hr; have Henc := Lib.hid henc; have Hpr := Lib.hid hpr; have Hse := Lib.hid hse; have Hmay := Lib.hid hmay; have HB := Lib.hid hbl; have HQ := Lib.hid hq; have HEL := Lib.hid hel; have HPL := Lib.hid hpl2
    clear ht hr henc hpr hse hs hE hp hsz hmay hbl hq hel hpl2
    go_enter Tryz.func132, Tryz.ntmps132
    go_wp2_with fail
    refine (Henc.out _ Hr.out).mono ?_
    rintro e w1 ⟨A1, c1, rfl, ho1, hb1⟩
    dsimp only at ho1 ⊢
    rw [← HEL.out]
    have z1 := hb1.size
    have hr1 := ho1.rb
    rw [← HEL.out] at hr1
    have Hr1 := Lib.hid hr1
    have ht1 := (Ht.out.below hb1).more z1
    have Ht1 := Lib.hid ht1
    clear ho1 hr1 ht1
    go_wp2_with fail
    refine (Hpr.out _ _ _ Hr1.out).mono ?_
    rintro e w2 ⟨A2, c2, rfl, ho2, hb2⟩
    rw [← HPL.out]
    have z2 := hb2.size
    have hr2 := ho2.rb
    rw [← HPL.out] at hr2
    have Hr2 := Lib.hid hr2
    have ht2 := (Ht1.out.below hb2).more z2
    have Ht2 := Lib.hid ht2
    clear ho2 hr2 ht2
    go_wp2_with fail
    refine (Hse.out _ _ _ Ht2.out Hr2.out).mono ?_
    rintro e w3 ⟨A3, c3, rfl, ho3, hb3⟩
    have b2 := hb1.trans (hb2.mono z1)
    have Ho3 := Lib.hid (ho3.1.mono (base' := w.heap.size) b2.size)
    clear ho3
    go_wp2
    go_ret2
    refine ⟨b2.trans (hb3.mono b2.size), ?_⟩
    rw [if_pos Hmay.out, ← HB.out]
    refine ⟨A3, c3, ?_, Ho3.out⟩
    rw [← HQ.out]
    have hd : decide ((q : Int) ≤ 20000) = true := by simp; omega
    show Ending.returned (.tuple #[.slice A3 q c3, .bool (decide ((q : Int) ≤ 20000))]) = _
    rw [hd]
  · have henc := fun W (hW : RL W W.heap.size D m d c) => encode_c D m d W.heap.size c W hW (Nat.le_refl _) (by omega) (by omega)
    rw [encS_err hmay] at henc
    have Hr := Lib.hid hr; have Henc := Lib.hid henc; have Hmay := Lib.hid hmay
    clear ht hr henc hsz hmay
    go_enter Tryz.func132, Tryz.ntmps132
    go_wp2_with fail
    refine (Henc.out _ Hr.out).mono ?_
    rintro e w1 ⟨A1, c1, rfl, ho1, hb1⟩
    clear ho1
    go_wp2
    go_ret2
    refine ⟨hb1, ?_⟩
    rw [if_neg Hmay.out]
    rfl
end Go.Proofs.YtknmhdkomjjneaaGreatDoor.Cht

/-
  chest.addIndex: what the call returns and leaves.
-/

namespace Go.Proofs.YtknmhdkomjjneaaGreatDoor.Cht
open Go.RowKit

theorem _root_.Go.Proofs.YtknmhdkomjjneaaGreatDoor.Grows.then {a b c : World} {A B : Option Addr} (h : Grows a b A B) (k : b.grownBy c (ob B)) : a.grownBy c (ob A) := by
  have hs := h.1.size
  refine ⟨k.os.trans h.1.os, k.tape.trans h.1.tape, k.output.trans h.1.output, Nat.le_trans hs k.size, fun i hi hne => ?_⟩
  refine (k.block i (Nat.lt_of_lt_of_le hi hs) fun e => ?_).trans (h.1.block i hi hne)
  rcases h.2 with h1 | ⟨g, h1, h2⟩
  · exact hne (e.trans h1)
  · rw [h1] at e; cases e; omega
theorem _root_.Go.Proofs.YtknmhdkomjjneaaGreatDoor.U8.wpAppStrK {P : Program} {t e s : TypeId} (u : U8 P t e s) {w : World} {ops : Array Oper} {rest : List Oper} {o : Oper} {a : Act} {Q : Exit → Act → World → Prop} (hgd : o.guard = none) (x y : Operand)
    (ho : o.op = .call { callee := .builtin .append, args := #[x, y], argTypes := #[t, s] })
    {base c : Nat} {A : Option Addr} {l N : List UInt8} {r : ByteArray} (hx : a.eval x = .slice A l.length c) (hy : a.eval y = .string r) (hown : Own w e base A c l) (hN : l ++ r.data.toList = N)
    (hsm : l.length + r.size ≤ 140737488355328) (hbase : base ≤ w.heap.size)
    (h : ∀ A' c' w', Own w' e base A' c' N → w.grownBy w' (ob A) → wpList P ops Q rest (a.put o.dst (.slice A' N.length c')) w') : wpList P ops Q (o :: rest) a w := by
  subst hN
  obtain ⟨i, hi, hz0, hz1, hz2⟩ := info_parts u.inf
  have hrs : r.size = r.data.toList.length := by rw [Array.length_toList]; rfl
  refine Lib.wpList_append_own_string w hgd x y t s ho base e i u.sl u.st hi hz0 hz1 hz2 _ l.length (bvs l) hx hown r hy (by simp only [maxLen]; omega) hsm hbase fun v' w' ho hg _ => ?_
  have hsh : ∃ A' c', v' = .slice A' (l.length + r.size) c' := by
    rcases ho.2 with ⟨hv, hn⟩ | ⟨g, cap, cur, hv, _⟩
    · exact ⟨_, _, by rw [hv, hn]⟩
    · exact ⟨_, _, hv⟩
  obtain ⟨A', c', hv⟩ := hsh
  subst hv
  have hl : (l ++ r.data.toList).length = l.length + r.size := by rw [List.length_append, hrs]
  rw [ownBlock_slice] at hg
  have := h A' c' w' (by
    unfold Own
    rw [hl, bvs_append]
    exact ho) hg
  rwa [hl] at this
def e2 (x : Nat × Nat × Nat) : Nat × Nat := (x.2.1, x.2.2)
def AiRel (w : World) (E : List (Nat × Nat × Nat)) (m : Nat) (o i : Value) (wr : World) : Prop :=
  ∃ X d M, ∃ k : Nat, o = .slice X (M : List UInt8).length d ∧ i = .int .i64 (k : Int) ∧ k ≤ m ∧ M = Vm.vb m ++ ((E.take k).map e2).flatMap Hm.ixe ∧ M.length ≤ 10 + 20 * k ∧ Own wr 5 w.heap.size X d M ∧ Below w.heap.size w wr
theorem ai_step {E : List (Nat × Nat × Nat)} {k m : Nat} {M : List UInt8} {x : Nat × Nat × Nat} (h : M = Vm.vb m ++ ((E.take k).map e2).flatMap Hm.ixe) (hx : E[k]? = some x) :
    (M ++ Vm.vb x.2.1) ++ Vm.vb x.2.2 = Vm.vb m ++ ((E.take (k + 1)).map e2).flatMap Hm.ixe := by
  obtain ⟨hk, rfl⟩ := List.getElem?_eq_some_iff.1 hx
  rw [h, List.take_succ_eq_append_getElem hk, List.map_append, List.flatMap_append]
  simp [Hm.ixe, e2]
def RetAi (base : Nat) (w : World) (A : Option Addr) (N : List UInt8) (e : Ending) (w' : World) : Prop :=
  ∃ A' c', e = .returned (.slice A' N.length c') ∧ Own w' 5 base A' c' N ∧ w.grownBy w' (ob A)

set_option maxRecDepth 100000 in
set_option maxHeartbeats 4000000 in
theorem addIndex_c (A : Option Addr) (c base : Nat) (L : List UInt8) (At : Option Addr) (ct : Nat) (Ai : Option Addr) (m ci : Nat) (E : List (Nat × Nat × Nat)) (w : World) (ho : Own w 5 base A c L) (hb : base ≤ w.heap.size)
    (ht : Rn w w.heap.size At 256 ct Cm.tab) (hr : Re w w.heap.size Ai m ci E) (hm : m ≤ 5000) (hE : ∀ x ∈ E, x.2.1 ≤ 20000 ∧ x.2.2 ≤ 5000) (hL : L.length ≤ 800000) :
    Calls Tryz.prog 133 #[.slice A L.length c, .slice At 256 ct, .slice Ai m ci] w (RetAi base w A (L ++ Hm.tailw (E.map e2))) := by
  have hl := hr.len
  have Ho := Lib.hid ho; have Ht := Lib.hid ht; have Hr := Lib.hid hr; have Hl := Lib.hid hl; have HE := Lib.hid hE
  have hput := fun W (N : Nat) (hN : N ≤ 20000) => put_c none 0 0 [] N W (Rb.nil _ _) (by omega) (by omega)
  have Hput := Lib.hid hput
  clear ho ht hr hl hE hput
  go_enter Tryz.func133, Tryz.ntmps133
  go_wp2_with fail
  refine (Hput.out w m (by omega)).mono ?_
  rintro e w1 ⟨X1, d1, rfl, ho1, hb1⟩
  have z1 := hb1.size
  rw [List.nil_append] at ho1 ⊢
  have hvl : (Vm.vb m).length ≤ 10 := by have := Vm.vb_len_le 1 m (by omega); omega
  have Ho1 := Lib.hid ho1
  clear ho1
  go_wp2
  go_loopw [7, 18] (fun o i wr => AiRel w E m o i wr) (fun _ i _ => m - (intOf i).toNat)
  case atStart => exact ⟨X1, d1, Vm.vb m, 0, rfl, rfl, Nat.zero_le _, by simp, by omega, Ho1.out, hb1⟩
  case round =>
    obtain ⟨X, d, M, k, rfl, rfl, hk, hM, hMl, hoX, hbel⟩ := hrel
    have z3 := hbel.size
    by_cases hlt : k < m
    · have hrw := (Hr.out.below hbel)
      obtain ⟨eb, eo, x, rfl, heb, hx, c0, c1, c2⟩ := hrw.at_ hlt
      have hst := ai_step hM hx
      obtain ⟨hx1, hx2⟩ := HE.out x (List.mem_of_getElem? hx)
      obtain ⟨a, s, n⟩ := x
      dsimp only at hst hx1 hx2 c0 c1 c2
      obtain ⟨w4, hw4⟩ : ∃ w4, w4 = wr.alloc (.cells #[.int .i64 (a : Int), .int .i64 (s : Int), .int .i64 (n : Int)] 159) := ⟨_, rfl⟩
      obtain ⟨b4, z4, x0, x1, x2⟩ := box3_new wr _ _ _ _ w4 hw4
      have hp1 := Hput.out w4 s (by omega)
      rw [List.nil_append] at hp1
      have hvs : (Vm.vb s).length ≤ 10 := by have := Vm.vb_len_le 2 s (by omega); omega
      have hvn : (Vm.vb n).length ≤ 10 := by have := Vm.vb_len_le 1 n (by omega); omega
      obtain ⟨M1, hM1⟩ : ∃ M1, M1 = M ++ Vm.vb s := ⟨_, rfl⟩
      obtain ⟨M2, hM2⟩ : ∃ M2, M2 = M1 ++ Vm.vb n := ⟨_, rfl⟩
      have hM1l : M1.length ≤ 20 + 20 * k := by rw [hM1, List.length_append]; omega
      have hM2l : M2.length ≤ 10 + 20 * (k + 1) := by rw [hM2, List.length_append]; omega
      rw [← hM1, ← hM2] at hst
      have hoX4 := hoX.keep b4
      have hXlt : ∀ g, ob X = some g → g < wr.heap.size := fun g hg => (own_ob hoX g hg).2
      have hp2 := fun W => Hput.out W n (by omega)
      simp only [List.nil_append] at hp2
      have Hp2 := Lib.hid hp2; have HXlt := Lib.hid hXlt
      clear hp2 hXlt
      have W4 := Lib.hid hw4; have Hp1 := Lib.hid hp1; have HM1 := Lib.hid hM1; have HM2 := Lib.hid hM2; have Hst := Lib.hid hst; have HoX4 := Lib.hid hoX4
      clear hrw hx hw4 hp1 hM1 hM2 hst hoX4 hoX hM
      go_wp2_with fail
      rw [← W4.out]
      refine Hp1.out.mono ?_
      rintro e w5 ⟨A5, c5, rfl, ho5, hb5⟩
      have z5 := hb5.size
      have y1 := (hb5.cell (p := ⟨wr.heap.size, 1, none⟩) (by show wr.heap.size < _; omega)).trans x1
      have y2 := (hb5.cell (p := ⟨wr.heap.size, 2, none⟩) (by show wr.heap.size < _; omega)).trans x2
      have bw5 := (hbel.trans (b4.mono z3)).trans (hb5.mono (by omega))
      have hr5 := ho5.rb
      have hoX5 := HoX4.out.keep hb5
      have Hr5 := Lib.hid hr5; have HoX5 := Lib.hid hoX5
      clear hr5 hoX5 ho5 HoX4 x0 x1 x2
      go_wp2_with (at_builtin; go_must (refine bty.wpAppTo rfl (.tmp 22) (.tmp 26) rfl (l := M) (N := M1) rfl rfl HoX5.out Hr5.out HM1.out.symm ?h1 ?h2 ?_))
      case h1 => omega
      case h2 => omega
      intro A6 c6 w6 ho6 hg6
      have z6 := hg6.size
      have u2 := (hg6.cell ⟨wr.heap.size, 2, none⟩ (by show wr.heap.size < _; omega) (fun e => by have := HXlt.out _ e.symm; dsimp only at this; omega)).trans y2
      have bw6 := bw5.trans (hg6.below HoX5.out (by omega))
      have Ho6 := Lib.hid ho6
      clear ho6 hg6 y1 y2 HoX5 Hr5
      go_wp2_with fail
      refine (Hp2.out w6).mono ?_
      rintro e w7 ⟨A7, c7, rfl, ho7, hb7⟩
      have z7 := hb7.size
      have bw7 := bw6.trans (hb7.mono (by omega))
      have hr7 := ho7.rb
      have ho67 := Ho6.out.keep hb7
      have Hr7 := Lib.hid hr7; have Ho67 := Lib.hid ho67
      clear hr7 ho67 ho7 Ho6 u2
      go_wp2_with (at_builtin; go_must (refine bty.wpAppTo rfl (.tmp 28) (.tmp 32) rfl (l := M1) (N := M2) rfl rfl Ho67.out Hr7.out HM2.out.symm ?h1 ?h2 ?_))
      case h1 => omega
      case h2 => omega
      intro A8 c8 w8 ho8 hg8
      have bw8 := bw7.trans (hg8.below Ho67.out (by omega))
      have Ho8 := Lib.hid ho8
      clear ho8 hg8 Ho67 Hr7
      go_wp2
      go_roundw
      case rel => exact ⟨A8, c8, M2, k + 1, rfl, by go_num, by omega, Hst.out, hM2l, Ho8.out, bw8⟩
      case measure => simp [intOf]; omega
    · have hkm : k = m := by omega
      subst hkm
      have hMx : M = Hm.ixc (E.map e2) := by
        rw [hM, List.take_of_length_le (by rw [Hl.out]; omega)]
        unfold Hm.ixc
        rw [List.length_map, Hl.out]
      obtain ⟨S, hS⟩ : ∃ S, S = Hm.sealed M := ⟨_, rfl⟩
      have hSl : S.length = M.length + 4 := by rw [hS, Hm.sealed_len]
      obtain ⟨q, hq⟩ : ∃ q, q = S.length := ⟨_, rfl⟩
      have hs : Cm.sealS Cm.tab M = (S, 0) := by rw [sealS_ok _ _ Cm.tab_len, hS]; rfl
      have hse := seal_lit At 256 ct Cm.tab X M.length d M wr ((Ht.out.below hbel).more z3) (by omega) hoX.rb (by omega) S q 0 hs hq.symm
      obtain ⟨N1, hN1⟩ : ∃ N1, N1 = L ++ S := ⟨_, rfl⟩
      obtain ⟨N2, hN2⟩ : ∃ N2, N2 = N1 ++ Cm.four q := ⟨_, rfl⟩
      obtain ⟨N3, hN3⟩ : ∃ N3, N3 = N2 ++ Hm.tl := ⟨_, rfl⟩
      have hN : L ++ Hm.tailw (E.map e2) = N3 := by
        rw [hN3, hN2, hN1, hq, hS, hMx]
        unfold Hm.tailw
        simp only [List.append_assoc]
      have hq9 : q ≤ 100100 := by omega
      have hN1l : N1.length ≤ 900100 := by rw [hN1, List.length_append]; omega
      have hN2l : N2.length ≤ 900104 := by rw [hN2, List.length_append, Cm.four_len]; omega
      have HN := Lib.hid hN; have Hse := Lib.hid hse; have HN1 := Lib.hid hN1; have HN2 := Lib.hid hN2; have HN3 := Lib.hid hN3; have HQ := Lib.hid hq
      clear hse hN1 hN2 hN3 hN hs hS hSl hMx hM hoX hq
      go_wp2_with fail
      refine Hse.out.mono ?_
      rintro e w4 ⟨A4, c4, rfl, ho4, hb4⟩
      have b4 : Below w.heap.size w w4 := hbel.trans (hb4.mono z3)
      have z4 := b4.size
      have hoA := Ho.out.keep b4
      have hr4 := Own.rbl ho4
      have HoA := Lib.hid hoA; have Hr4 := Lib.hid hr4
      clear hoA hr4 ho4
      go_wp2_with (at_builtin; go_must (refine bty.wpAppTo rfl (.tmp 41) (.tmp 42) rfl (l := L) (N := N1) rfl rfl HoA.out Hr4.out HN1.out.symm ?h1 ?h2 ?_))
      case h1 => omega
      case h2 => omega
      intro A5 c5 w5 ho5 hg5
      have g5 := Grows.pre b4 hg5
      have z5 := g5.size
      have hsz := addSize_c A5 c5 base q N1 w5 ho5 (by omega) (by omega) (by omega)
      rw [← HN2.out] at hsz
      have Hsz := Lib.hid hsz
      clear hsz ho5 hg5 HoA Hr4
      go_wp2_with fail
      refine Hsz.out.mono ?_
      rintro e w6 ⟨A6, c6, rfl, ho6, hg6⟩
      have g6 := g5.trans hg6
      have z6 := g6.size
      have Ho6 := Lib.hid ho6
      clear ho6
      go_wp2_with (at_builtin; go_must (refine bty.wpAppStrK rfl (.tmp 48) _ rfl (l := N2) (N := N3) rfl rfl Ho6.out ?h0 ?h1 ?h2 ?_))
      case h0 => rw [HN3.out]; rfl
      case h1 => show N2.length + 4 ≤ _; omega
      case h2 => omega
      intro A7 c7 w7 ho7 hg7
      go_wp2
      go_ret
      rw [HN.out]
      exact ⟨A7, c7, rfl, ho7, g6.then hg7⟩
end Go.Proofs.YtknmhdkomjjneaaGreatDoor.Cht

/-
  chest.Write: words and mathematics of its loop.
-/

namespace Go.Proofs.YtknmhdkomjjneaaGreatDoor.Cht
open Go.RowKit Go.Shelf

abbrev Rcs := List (List (List UInt8))
def chk (l : Rcs) (p : Nat × Nat) : Rcs := (l.take p.2).drop p.1
theorem _root_.Go.Proofs.YtknmhdkomjjneaaGreatDoor.RL.chunkK {w : World} {B n c i e : Nat} {A : Option Addr} {l : Rcs} (h : RL w B A n c l) (hi : i ≤ e) (he : e ≤ n) : RL w B (cutA A e i) (e - i) (e - i) (chk l (i, e)) := by
  have hl := h.len
  obtain ⟨vs, h1, h2⟩ := h
  have hvl := h1.len1
  refine ⟨(vs.take e).drop i, ⟨by rw [List.length_drop, List.length_take]; omega, Nat.le_refl _, by have := h1.2.1; have := h1.2.2.1; omega, fun hp => ?_⟩, by rw [List.length_drop, List.length_take]; unfold chk; rw [List.length_drop, List.length_take]; dsimp only; omega, fun j v r g1 g2 => ?_⟩
  · obtain ⟨b, off, rfl, hb, hc⟩ := h1.2.2.2 (by omega)
    refine ⟨b, off + i, ?_, hb, fun j v hj => ?_⟩
    · unfold cutA
      rw [if_neg (by omega)]
      by_cases h0 : i = 0
      · subst h0; simp [Addr.add]
      · simp [Addr.add, h0]
    · rw [List.getElem?_drop, List.getElem?_take] at hj
      split at hj
      · rw [Nat.add_assoc]; exact hc _ v hj
      · cases hj
  · unfold chk at g2
    rw [List.getElem?_drop, List.getElem?_take] at g1 g2
    dsimp only at g2
    split at g1
    · rw [if_pos (by assumption)] at g2
      exact h2.2 _ v r g1 g2
    · cases g1
theorem chk_four (l : Rcs) (i : Nat) : chk l (i, min (i + 4) l.length) = (l.drop i).take 4 := by
  unfold chk
  dsimp only
  rw [List.drop_take]
  by_cases h : i + 4 ≤ l.length
  · rw [Nat.min_eq_left h]; congr 1; omega
  · rw [Nat.min_eq_right (by omega), List.take_of_length_le (by rw [List.length_drop]; omega), List.take_of_length_le (by rw [List.length_drop]; omega)]
theorem chk_all (l : Rcs) : ∀ (k i : Nat), l.length - i ≤ k → (ck l.length i).map (chk l) = Hm.ch (l.drop i)
  | 0, i, h => by rw [ck_end (by omega), List.drop_of_length_le (by omega)]; rfl
  | k + 1, i, h => by
    by_cases hi : i < l.length
    · have hne : l.drop i ≠ [] := fun e => by have := congrArg List.length e; rw [List.length_drop] at this; simp at this; omega
      rw [ck_step hi, Hm.ch_step hne, List.drop_drop, List.map_cons, chk_four, chk_all l k (i + 4) (by omega)]
    · rw [ck_end (by omega), List.drop_of_length_le (by omega)]; rfl
theorem chk_ch (l : Rcs) : (ck l.length 0).map (chk l) = Hm.ch l := by
  have h := chk_all l l.length 0 (by omega)
  rwa [List.drop_zero] at h
theorem chk_wL (l : Rcs) (p : Nat × Nat) : wL (chk l p) ≤ wL l := by
  have h1 := wL_take l p.2
  have h2 := congrArg wL (List.take_append_drop p.1 (l.take p.2))
  rw [wL_app] at h2
  unfold chk
  omega
theorem enc_len60 (l : Rcs) (h : wL l ≤ 1500) (hl : l.length ≤ 60) : (Fm.enc l).length ≤ 3200 := by
  have h1 := Hm.encRs_len l h
  have h2 := Vm.vb_len_le 1 l.length (by omega)
  unfold Fm.enc
  rw [List.length_append]
  omega
theorem chk_enc {l : Rcs} (h : Hm.Few l) (p : Nat × Nat) : (Fm.enc (chk l p)).length ≤ 3200 := by
  have h1 := chk_wL l p
  refine enc_len60 _ (by have := h.1; omega) ?_
  unfold chk
  rw [List.length_drop, List.length_take]
  have := h.2
  omega
theorem may_chk {l : Rcs} (h : ∀ p ∈ ck l.length 0, ∀ r ∈ chk l p, Fm.May r) : ∀ r ∈ l, Fm.May r := fun r hr => by
  have h1 := Hm.ch_flat _ l (Nat.le_refl _)
  rw [← h1, ← chk_ch l] at hr
  obtain ⟨c, hc, hr⟩ := List.mem_flatten.1 hr
  obtain ⟨p, hp, rfl⟩ := List.mem_map.1 hc
  exact h p hp r hr
theorem chk_bad {l : Rcs} {p : Nat × Nat} (h : ¬ ∀ r ∈ chk l p, Fm.May r) : ¬ ∀ r ∈ l, Fm.May r := fun h2 => h fun r hr => h2 r (List.mem_of_mem_take (List.mem_of_mem_drop hr))
theorem bsl : Sl Tryz.prog 22 5 (.int .u8 0) 1 1 := ⟨Tryz.underlying22, by kernel_rfl, rfl, by omega⟩
theorem _root_.Go.Proofs.YtknmhdkomjjneaaGreatDoor.Rb.rc {w : World} {B n c : Nat} {A : Option Addr} {l : List UInt8} (h : Rb w B A n c l) : Rc 1 w B A n c (bvs l) :=
  ⟨by rw [bvs_length, h.1, Nat.mul_one], h.2.1, h.2.2.1, fun hn => by
    obtain ⟨b, off, e, hb, hc⟩ := h.2.2.2 hn
    refine ⟨b, off, e, hb, fun j v hj => ?_⟩
    obtain ⟨x, hx, rfl⟩ := bvs_get l j v hj
    exact hc j x hx⟩
theorem evs_snoc (E : List (Nat × Nat × Nat)) (x : Nat × Nat × Nat) : evs E ++ [.int .i64 (x.1 : Int), .int .i64 (x.2.1 : Int), .int .i64 (x.2.2 : Int)] = evs (E ++ [x]) := by rw [evs_app]; rfl
theorem oc_turn' {e : TypeId} {W W' : World} {base c : Nat} {A : Option Addr} {l : List UInt8} {row : Option Nat} (h : Own W e base A c l) (hg : W.grownBy W' row) (hr : ∀ r, row = some r → ∃ o : Obj, W.heap[r]? = some o ∧ o.isCells = false) : Own W' e base A c l :=
  oc_turn (z := 1) (vs := bvs l) h hg hr
def RetW (w : World) (p : List UInt8 × Nat) (e : Ending) (w' : World) : Prop :=
  ∃ A c, e = .returned (.tuple #[.slice A p.1.length c, .int .i64 (p.2 : Int)]) ∧ Own w' 5 w.heap.size A c p.1 ∧ Below w.heap.size w w'
def WrI (l : Rcs) (n s hi n₀ : Nat) (wL : World) (pre : List (Bk n)) (W : World) : Prop :=
  ∃ A c L Ai ci E, Boxed W (s + 1 + 1) 22 (.slice A (List.length L) c) ∧ Own W 5 n₀ A c L ∧ L = Hm.body ((pre.map (·.1)).map (chk l)) ∧ L.length ≤ 20000 * pre.length ∧
    Boxed W (s + 1 + 1 + 1) 155 (.slice Ai pre.length ci) ∧ Oc 3 W 159 n₀ Ai pre.length ci (evs E) ∧ E.map e2 = ((pre.map (·.1)).map (chk l)).map Hm.ew ∧ (∀ x ∈ E, x.2.1 ≤ 20000 ∧ x.2.2 ≤ 5000) ∧ (ob A = none ∨ ob A ≠ ob Ai) ∧
    But s hi n₀ wL W ∧ n₀ ≤ W.heap.size ∧ Boxed W s 22 (.slice none 0 0) ∧ Boxed W (s + 1) 28 (.int .i64 0) ∧ ∀ p ∈ pre, ∀ r ∈ chk l p.1, Fm.May r
def WrX (l : Rcs) (n s hi n₀ : Nat) (wL : World) (j : Code) (pre : List (Bk n)) (W : World) : Prop :=
  j = .ret ∧ (∃ p ∈ pre, ¬ ∀ r ∈ chk l p.1, Fm.May r) ∧ But s hi n₀ wL W ∧ n₀ ≤ W.heap.size ∧ Boxed W s 22 (.slice none 0 0) ∧ Boxed W (s + 1) 28 (.int .i64 10)
theorem wrI_own (l : Rcs) (n s hi n₀ : Nat) (wL : World) (hlo : hi ≤ n₀) (hsb : s + 4 ≤ hi) : OwnFrom n₀ (WrI l n s hi n₀ wL) := by
  rintro pre W W' row ⟨A, c, L, Ai, ci, E, h1, h2, h3, h3l, h4, h4r, h4e, h4b, h4a, h5, h6, h7, h8, h9⟩ hg hr
  have hk : ∀ {b : Nat} {t : TypeId} {v : Value}, Boxed W b t v → b < n₀ → Boxed W' b t v := fun {b} _ _ h hb => h.kept hg (fun e => by have := (hr b e.symm).1; omega)
  exact ⟨A, c, L, Ai, ci, E, hk h1 (by omega), oc_turn' h2 hg (fun r e => (hr r e).2), h3, h3l, hk h4 (by omega), oc_turn h4r hg (fun r e => (hr r e).2), h4e, h4b, h4a, but_turn h5 hg (fun r e => (hr r e).1) h6, Nat.le_trans h6 hg.size, hk h7 (by omega), hk h8 (by omega), h9⟩
theorem wrX_own (l : Rcs) (n s hi n₀ : Nat) (wL : World) (hlo : hi ≤ n₀) (hsb : s + 4 ≤ hi) (j : Code) : OwnFrom n₀ (WrX l n s hi n₀ wL j) := by
  rintro pre W W' row ⟨hj, h1, h5, h6, h7, h8⟩ hg hr
  have hk : ∀ {b : Nat} {t : TypeId} {v : Value}, Boxed W b t v → b < n₀ → Boxed W' b t v := fun {b} _ _ h hb => h.kept hg (fun e => by have := (hr b e.symm).1; omega)
  exact ⟨hj, h1, but_turn h5 hg (fun r e => (hr r e).1) h6, Nat.le_trans h6 hg.size, hk h7 (by omega), hk h8 (by omega)⟩
end Go.Proofs.YtknmhdkomjjneaaGreatDoor.Cht

/-
  chest.Write: what the call returns and leaves.
-/

namespace Go.Proofs.YtknmhdkomjjneaaGreatDoor.Cht
open Go.RowKit Go.Shelf
attribute [local go_sem] Oper.semAt_some

set_option maxRecDepth 100000 in
set_option maxHeartbeats 4000000 in
theorem write_c (A : Option Addr) (n c : Nat) (l : Rcs) (w : World) (hr : RL w w.heap.size A n c l) (hf : Hm.Few l) (hnc : n ≤ c) :
    Calls Tryz.prog 103 #[.slice A n c] w (RetW w (Hm.wrS l)) := by
  have hl := hr.len
  have hn : n ≤ 60 := by have := hf.2; omega
  obtain ⟨w2, hw2⟩ : ∃ w2, w2 = (((w.alloc (.cells #[.slice none 0 0] 22)).alloc (.cells #[.int .i64 0] 28)).alloc (.cells #[.slice none 0 0] 22)).alloc (.cells #[.slice none 0 0] 155) := ⟨_, rfl⟩
  have z2 : w2.heap.size = w.heap.size + 1 + 1 + 1 + 1 := by rw [hw2]; simp
  have b02 : Below w.heap.size w w2 := by rw [hw2]; exact ((((Below.refl _ _).alloc (Nat.le_refl _) _).alloc (by simp) _).alloc (by simp; omega) _).alloc (by simp; omega) _
  have c1 : Boxed w2 w.heap.size 22 (.slice none 0 0) := by rw [hw2]; exact (((Boxed.new w _ _).alloc _).alloc _).alloc _
  have c2 : Boxed w2 (w.heap.size + 1) 28 (.int .i64 0) := by
    rw [hw2]
    have := ((Boxed.new (w.alloc (.cells #[.slice none 0 0] 22)) 28 (.int .i64 0)).alloc (.cells #[.slice none 0 0] 22)).alloc (.cells #[.slice none 0 0] 155)
    rwa [World.size_alloc] at this
  have c3 : Boxed w2 (w.heap.size + 1 + 1) 22 (.slice none 0 0) := by
    rw [hw2]
    have := (Boxed.new ((w.alloc (.cells #[.slice none 0 0] 22)).alloc (.cells #[.int .i64 0] 28)) 22 (.slice none 0 0)).alloc (.cells #[.slice none 0 0] 155)
    rwa [World.size_alloc, World.size_alloc] at this
  have c4 : Boxed w2 (w.heap.size + 1 + 1 + 1) 155 (.slice none 0 0) := by
    rw [hw2]
    have := Boxed.new (((w.alloc (.cells #[.slice none 0 0] 22)).alloc (.cells #[.int .i64 0] 28)).alloc (.cells #[.slice none 0 0] 22)) 155 (.slice none 0 0)
    rwa [World.size_alloc, World.size_alloc, World.size_alloc] at this
  have Hr := Lib.hid hr; have Hl := Lib.hid hl; have B02 := Lib.hid b02; have C1 := Lib.hid c1; have C2 := Lib.hid c2; have C3 := Lib.hid c3; have C4 := Lib.hid c4; have W2 := Lib.hid hw2; have Hf := Lib.hid hf
  have q2 : w.heap.size + 4 ≤ w2.heap.size := by omega
  clear hr hl b02 hw2 c1 c2 c3 c4 hf z2
  refine (callsIn_wide (n := 9)).1 ?_
  refine callsIn_of_wp_marks Tryz.func103 rfl trivial ?_ rfl
  simp only [Tryz.ntmps103, List.size_toArray, List.length_cons, List.length_nil, Nat.reduceAdd, Nat.reduceSub, Array.replicate_succ, Array.replicate_zero, List.push_toArray, List.append_toArray, List.nil_append, List.cons_append]
  gi_wp2
  rw [← W2.out]
  refine ⟨trivial, (callsIn_wide.2 (table_c w2)).mono ?_⟩
  rintro e w4 ⟨rfl, ht4, hb4, hz4⟩
  have HT4 := Lib.hid ht4; have HB4 := Lib.hid hb4
  clear ht4 hb4
  gi_wp2
  obtain ⟨w5, hw5⟩ : ∃ w5, w5 = w4.alloc (.cells #[.slice (some ⟨w2.heap.size, 0, none⟩) 256 256] 145) := ⟨_, rfl⟩
  have ht5 : Boxed w5 w4.heap.size 145 (.slice (some ⟨w2.heap.size, 0, none⟩) 256 256) := by rw [hw5]; exact Boxed.new w4 _ _
  have b45 : Below w4.heap.size w4 w5 := by rw [hw5]; exact (Below.refl _ _).alloc (Nat.le_refl _) _
  have z5 : w5.heap.size = w4.heap.size + 1 := by rw [hw5]; simp
  rw [← hw5]
  clear hw5
  refine ⟨trivial, (callsIn_wide.2 (chunk_c A n c w5)).mono ?_⟩
  rintro e w6 ⟨rfl, hw6⟩
  have z6 : w6.heap.size = w5.heap.size + 2 := by rw [hw6]; simp
  have b56 : Below w5.heap.size w5 w6 := by rw [hw6]; exact ((Below.refl _ _).alloc (Nat.le_refl _) _).alloc (by simp) _
  have hBs : w6.cell? ⟨w5.heap.size, 0, none⟩ = some (.slice A n c) := by
    rw [hw6, World.cell?_alloc_lt _ _ _ (by simp)]; simp
  have hBn : w6.cell? ⟨w5.heap.size + 1, 0, none⟩ = some (.int .i64 4) := by
    rw [hw6]
    have := (Boxed.new (w5.alloc (.cells #[.slice A n c] 55)) 3 (.int .i64 4)).cell
    rwa [World.size_alloc] at this
  clear hw6
  have b46 : Below w4.heap.size w4 w6 := b45.trans (b56.mono (by omega))
  have b26 : Below w2.heap.size w2 w6 := HB4.out.trans (b46.mono (by omega))
  have b06 : Below w.heap.size w w6 := B02.out.trans (b26.mono (by omega))
  have ht6 : Boxed w6 w4.heap.size 145 (.slice (some ⟨w2.heap.size, 0, none⟩) 256 256) := boxed_below ht5 b56 (by omega)
  have hT6 : Rn w6 w4.heap.size (some ⟨w2.heap.size, 0, none⟩) 256 256 Cm.tab := HT4.out.below b46
  have c1 := boxed_below C1.out b26 (by omega)
  have c2 := boxed_below C2.out b26 (by omega)
  have c3 := boxed_below C3.out b26 (by omega)
  have c4 := boxed_below C4.out b26 (by omega)
  have q6 : w5.heap.size + 2 ≤ w6.heap.size := by omega
  have q5 : w4.heap.size + 1 ≤ w5.heap.size := by omega
  have q4 : w2.heap.size + 1 ≤ w4.heap.size := by omega
  clear z6 z5 b56 b45 b26 hz4
  gi_wp2
  refine wpIn_rangeFunc_ownG rfl (by omega) (gf := 157) (lb := #[.pointer (some ⟨w5.heap.size, 0, none⟩), .pointer (some ⟨w5.heap.size + 1, 0, none⟩)]) rfl trivial
    (enters_of Tryz.func157 (by kernel_rfl) rfl)
    (chunk_stops A n c w.heap.size w2.heap.size w6 (by omega) hnc w5.heap.size (w5.heap.size + 1) ⟨hBs, by omega, by omega⟩ ⟨hBn, by omega, by omega⟩ 7)
    (fun h k => h.trans k) (fun W L o o' h1 h2 _ _ => but_put h1 h2) (Below.refl _ _) (fun _ => rfl)
    (WrI l n w.heap.size w2.heap.size w6.heap.size w6) (WrX l n w.heap.size w2.heap.size w6.heap.size w6) (wrI_own l n _ _ _ w6 (by omega) (by omega)) (wrX_own l n _ _ _ w6 (by omega) (by omega))
    ⟨none, 0, [], none, 0, [], c3, Own.nil _ _ _, rfl, Nat.zero_le _, c4, Oc.nil _ _ _ _, rfl, fun x hx => (by cases hx), .inl rfl, But.refl _, Nat.le_refl _, c1, c2, fun p hp => (by cases hp)⟩
    (fun x => { tmps := #[.slice A n c, undef, .pointer (some ⟨w.heap.size, 0, none⟩), .pointer (some ⟨w.heap.size + 1, 0, none⟩), .pointer (some ⟨w.heap.size + 1 + 1, 0, none⟩), .pointer (some ⟨w.heap.size + 1 + 1 + 1, 0, none⟩), .pointer (some ⟨w4.heap.size, 0, none⟩),
      .slice (cutA A x.1.2 x.1.1) (x.1.2 - x.1.1) (x.1.2 - x.1.1), undef, undef, .slice A n c, .int .i64 (n : Int), .bool (decide ((4000 : Int) < (n : Int))), .slice (some ⟨w2.heap.size, 0, none⟩) 256 256, .slice A n c,
      .func (.func 157) #[] #[.pointer (some ⟨w5.heap.size, 0, none⟩), .pointer (some ⟨w5.heap.size + 1, 0, none⟩)], .slice (cutA A x.1.2 x.1.1) (x.1.2 - x.1.1) (x.1.2 - x.1.1),
      undef, undef, undef, undef, undef, undef, undef, undef, undef, undef, undef, undef, undef, undef, undef, undef, undef, undef, undef, undef, undef, undef, undef, undef, undef], defers := [] }) ?assign ?body ?done ?stop
  case assign =>
    intro L x W K hK
    simp only [encC]
    gi_wp2
    exact hK
  case body =>
    rintro j pre x W ⟨A2, d2, L, Ai, ci, E, hbo, hown, hL, hLl, hbi, hrow, hE, hEb, hap, hbut, hsz, r1, r2, hall⟩ hlen
    have hbel : Below w.heap.size w W := b06.trans (hbut.below (by omega))
    have hchk : RL W W.heap.size (cutA A x.1.2 x.1.1) (x.1.2 - x.1.1) (x.1.2 - x.1.1) (chk l x.1) := ((Hr.out.below hbel).more hbel.size).chunkK x.2.1 x.2.2
    have hTW := (hT6.otherK (hbut.block w2.heap.size (by omega) (by omega))).more (B' := W.heap.size) (by omega)
    have hct := (boxed_but ht6 hbut (by omega) (by omega)).cell
    have hcl := hchk.len
    have hx2 := x.2.2
    have hblk := blockOf_c (some ⟨w2.heap.size, 0, none⟩) 256 (cutA A x.1.2 x.1.1) (x.1.2 - x.1.1) (x.1.2 - x.1.1) (chk l x.1) W hTW hchk (by omega) (chk_enc Hf.out x.1)
    have hel := chk_enc Hf.out x.1
    rcases mayC (chk l x.1) with hmay | hmay
    rotate_left
    · have hb := hblk.mono (R' := fun e w' => Below W.heap.size W w' ∧ e = .returned (.tuple #[.slice none 0 0, .bool false])) fun e w' h => by
        unfold RetBl at h
        rw [if_neg hmay] at h
        exact h
      have Hb := Lib.hid hb; have R1 := Lib.hid r1; have R2 := Lib.hid r2; have Hmay := Lib.hid hmay
      clear hblk hb hown hrow hbo hbi hTW hchk r1 r2 hel hL hE hmay
      gi_wp2_with (refine ⟨trivial, ?_⟩; gi_at_call 132; refine (CallsIn.inRound j (callsIn_wide.2 Hb.out)).mono ?_; rintro e w7 ⟨hb7, rfl⟩; have g1 := boxed_below R1.out hb7 (by omega); have g2 := boxed_below R2.out hb7 (by omega); have g1c := g1.cell; have g1f := g1.frozen; have g2c := g2.cell; have g2f := g2.frozen)
      refine ⟨((keeps_of_below hb7 _).trans ((KeepsOthers.setCell _ _ _).from _)).trans ((KeepsOthers.setCell _ _ _).from _), rfl, ⟨x, by simp, Hmay.out⟩, ?_, by have := hb7.size; simp; omega, (g1.set _).other (by omega) _, (g2.other (by omega) _).set _⟩
      exact hbut.trans ((but_of hb7 hsz).trans ((But.set _ (by omega) _).trans (But.set _ (by omega) _)))
    · obtain ⟨BL, hBL⟩ : ∃ BL, BL = Hm.blkw (chk l x.1) := ⟨_, rfl⟩
      have hb := hblk.mono (R' := fun e w' => Below W.heap.size W w' ∧ ∃ A k, e = .returned (.tuple #[.slice A BL.length k, .bool true]) ∧ Own w' 5 W.heap.size A k BL) fun e w' h => by
        unfold RetBl at h
        rw [if_pos hmay, ← hBL] at h
        exact h
      have hBLl : BL.length ≤ 20000 := by rw [hBL]; exact (Hm.blkw_len (by omega)).2
      obtain ⟨xe, hxe⟩ : ∃ xe : Nat × Nat × Nat, xe = (L.length, BL.length, x.1.2 - x.1.1) := ⟨_, rfl⟩
      obtain ⟨LB, hLB⟩ : ∃ LB, LB = L ++ BL := ⟨_, rfl⟩
      have hLBl : LB.length = L.length + BL.length := by rw [hLB, List.length_append]
      have hLBb : LB.length ≤ 20000 * (pre ++ [x]).length := by rw [hLBl, List.length_append]; simp; omega
      have hvl : evs E ++ [.int .i64 (L.length : Int), .int .i64 (BL.length : Int), .int .i64 ((x.1.2 - x.1.1 : Nat) : Int)] = evs (E ++ [xe]) := by rw [hxe]; exact evs_snoc E (L.length, BL.length, x.1.2 - x.1.1)
      have hE2 : (E ++ [xe]).map e2 = (((pre ++ [x]).map (·.1)).map (chk l)).map Hm.ew := by
        simp only [List.map_append, List.map_cons, List.map_nil]
        rw [hE]
        simp only [List.map_map]
        congr 1
        rw [hxe]
        unfold e2 Hm.ew
        rw [← hBL, hcl]
      have hL2 : LB = Hm.body (((pre ++ [x]).map (·.1)).map (chk l)) := by
        rw [hLB, hL, List.map_append, List.map_append, List.map_cons, List.map_nil, List.map_cons, List.map_nil, Hm.body_snoc, hBL]
      have hEb2 : ∀ y ∈ E ++ [xe], y.2.1 ≤ 20000 ∧ y.2.2 ≤ 5000 := fun y hy => by
        rcases List.mem_append.1 hy with hy | hy
        · exact hEb y hy
        · simp at hy
          subst hy
          rw [hxe]
          exact ⟨hBLl, by dsimp only; omega⟩
      have hall2 : ∀ p ∈ pre ++ [x], ∀ r ∈ chk l p.1, Fm.May r := fun p hp => by
        rcases List.mem_append.1 hp with hp | hp
        · exact hall p hp
        · simp at hp; subst hp; exact hmay
      have hLn : L.length ≤ 20000 * (n + 1) := by omega
      have hap8 := ap_symm hap
      have Hb := Lib.hid hb; have R1 := Lib.hid r1; have R2 := Lib.hid r2; have Hall := Lib.hid hall2; have HEb := Lib.hid hEb2; have HL2 := Lib.hid hL2; have HE2 := Lib.hid hE2; have Hvl := Lib.hid hvl; have HLB := Lib.hid hLB; have HLBl := Lib.hid hLBl; have HLBb := Lib.hid hLBb
      have Hbo := Lib.hid hbo; have Hbi := Lib.hid hbi; have Hown := Lib.hid hown; have Hrow := Lib.hid hrow; have Hap := Lib.hid hap; have Hap8 := Lib.hid hap8
      clear hblk hb hown hrow hbo hbi hTW hchk r1 r2 hel hL hE hmay hall2 hEb2 hL2 hE2 hvl hLB hLBl hLBb hap hap8 hall hEb hBL hLl hcl
      obtain ⟨PL, hPL⟩ : ∃ PL, PL = (pre ++ [x]).length := ⟨_, rfl⟩
      have HPL := Lib.hid hPL
      clear hPL
      gi_wp2_with (first
        | (refine ⟨trivial, ?_⟩; gi_at_call 132; refine (CallsIn.inRound j (callsIn_wide.2 Hb.out)).mono ?_; rintro e w7 ⟨hb7, A6, k6, rfl, ho6⟩; have z7 := hb7.size; have hE7 := boxed_below Hbi.out hb7 (by omega); have hE7c := hE7.cell; have hO7 := boxed_below Hbo.out hb7 (by omega); have hO7c := hO7.cell; have Hrow7 := Lib.hid (Hrow.out.keep hb7); have Hown7 := Lib.hid (Hown.out.keep hb7); have Ho6 := Lib.hid ho6; clear ho6)
        | (gi_at_builtin; refine ety.wpInAppK rfl (.tmp 25) (.tmp 33) rfl (n := pre.length) (m := 1) (N := PL) (us := [.int .i64 (L.length : Int), .int .i64 (BL.length : Int), .int .i64 ((x.1.2 - x.1.1 : Nat) : Int)]) (ws := evs (E ++ [xe])) rfl rfl (Hrow7.out.alloc _) (Rc.lit (z := 3) w7 159 #[.int .i64 (L.length : Int), .int .i64 (BL.length : Int), .int .i64 ((x.1.2 - x.1.1 : Nat) : Int)] 1 rfl (by simp [maxLen])) (by intro v hv; simp at hv; rcases hv with rfl | rfl | rfl <;> rfl) (by have := HPL.out; simp at this; omega) Hvl.out (by have := HPL.out; simp at this; omega) (by have := HPL.out; simp at this; omega) (by simp; omega) ?_; intro A8 k8 w8 ho8 hg8; have hg78 := Grows.pre ((Below.refl _ _).alloc (Nat.le_refl _) _) hg8; have z8 := hg78.size; have hE8 : Boxed w8 (w.heap.size + 1 + 1 + 1) 155 (.slice Ai pre.length ci) := (hg78.1.block (w.heap.size + 1 + 1 + 1) (by omega) (fun e => by have := (oc_ob Hrow7.out _ e.symm).1; omega)).trans hE7; have hE8c := hE8.cell; have hE8f := hE8.frozen; have hO8 : Boxed w8 (w.heap.size + 1 + 1) 22 (.slice A2 L.length d2) := (hg78.1.block (w.heap.size + 1 + 1) (by omega) (fun e => by have := (oc_ob Hrow7.out _ e.symm).1; omega)).trans hO7; have hO9 : Boxed (w8.setCell ⟨w.heap.size + 1 + 1 + 1, 0, none⟩ (.slice A8 PL k8)) (w.heap.size + 1 + 1) 22 (.slice A2 L.length d2) := hO8.other (by omega) _; have hO9c := hO9.cell; have hO9f := hO9.frozen; have hown9 : Own (w8.setCell ⟨w.heap.size + 1 + 1 + 1, 0, none⟩ (.slice A8 PL k8)) 5 w6.heap.size A2 d2 L := (own_beside Hown7.out hg78 Hap.out).setLow (by show w.heap.size + 1 + 1 + 1 < _; omega) _; have ho69 : Own (w8.setCell ⟨w.heap.size + 1 + 1 + 1, 0, none⟩ (.slice A8 PL k8)) 5 W.heap.size A6 k6 BL := (own_beside Ho6.out hg78 (ob_apart (b := W.heap.size) (fun g hg => (own_ob Ho6.out g hg).1) (fun g hg => (oc_ob Hrow.out g hg).2))).setLow (by show w.heap.size + 1 + 1 + 1 < _; omega) _; have Hg78 := Lib.hid hg78; have Ho8 := Lib.hid ho8; have Hown9 := Lib.hid hown9; have Ho69 := Lib.hid ho69; clear hg8 hg78 ho8 hown9 ho69 hO7c hE7c)
        | (gi_at_builtin; refine bsl.wpInAppK rfl (.tmp 35) (.tmp 36) rfl (n := L.length) (m := BL.length) (N := LB.length) (us := bvs BL) (ws := bvs LB) rfl rfl (Hown9.out : Oc 1 _ 5 w6.heap.size A2 L.length d2 (bvs L)) (Rb.rc Ho69.out.rb) (bvs_one BL) HLBl.out.symm (by rw [← bvs_append, HLB.out]) (by have := HLBl.out; omega) (by have := HLBl.out; omega) (by simp; omega) ?_; intro A10 k10 w10 ho10 hg10; have z10 := hg10.size; rw [World.size_setCell] at z10; have hO10 : Boxed w10 (w.heap.size + 1 + 1) 22 (.slice A2 L.length d2) := (hg10.1.block (w.heap.size + 1 + 1) (by simp; omega) (fun e => by have := (own_ob Hown9.out _ e.symm).1; omega)).trans hO9; have hO10c := hO10.cell; have hO10f := hO10.frozen))
      have hPL := HPL.out
      subst hPL
      have ap8 := ap_grow Hg78.out (fun g hg => (own_ob Hown7.out g hg).2) Hap8.out
      have row9 := oc_low (lo := w.heap.size + 1 + 1 + 1) Ho8.out (by omega) (.slice A8 (pre ++ [x]).length k8)
      have ap11 := ap_grow hg10 (fun g hg => (oc_ob row9 g hg).2) (ap_symm ap8)
      have row11 := oc_low (lo := w.heap.size + 1 + 1) (oc_beside row9 hg10 ap8) (by omega) (.slice A10 LB.length k10)
      have hgo : ∀ {b : Nat} {tt : TypeId} {v : Value}, Boxed W b tt v → b < w.heap.size + 1 + 1 → Boxed (w10.setCell ⟨w.heap.size + 1 + 1, 0, none⟩ (.slice A10 LB.length k10)) b tt v := fun {b} tt v h hb => by
        have g1 := boxed_below h hb7 (by omega)
        have g2 : Boxed w8 b tt v := (Hg78.out.1.block b (by omega) (fun e => by have := (oc_ob Hrow7.out b e.symm).1; omega)).trans g1
        have g3 : Boxed (w8.setCell ⟨w.heap.size + 1 + 1 + 1, 0, none⟩ (.slice A8 (pre ++ [x]).length k8)) b tt v := g2.other (by omega) _
        have g4 : Boxed w10 b tt v := (hg10.1.block b (by simp; omega) (fun e => by have := (own_ob Hown9.out b e.symm).1; omega)).trans g3
        exact g4.other (by omega) _
      have hE9 : Boxed (w8.setCell ⟨w.heap.size + 1 + 1 + 1, 0, none⟩ (.slice A8 (pre ++ [x]).length k8)) (w.heap.size + 1 + 1 + 1) 155 (.slice A8 (pre ++ [x]).length k8) := hE8.set _
      have hE10 : Boxed w10 (w.heap.size + 1 + 1 + 1) 155 (.slice A8 (pre ++ [x]).length k8) := (hg10.1.block (w.heap.size + 1 + 1 + 1) (by simp; omega) (fun e => by have := (own_ob Hown9.out _ e.symm).1; omega)).trans hE9
      have hbt : But w.heap.size w2.heap.size w6.heap.size W (w10.setCell ⟨w.heap.size + 1 + 1, 0, none⟩ (.slice A10 LB.length k10)) :=
        (((but_of hb7 hsz).trans (but_grow Hg78.out (fun g hg => (oc_ob Hrow7.out g hg).1) (Nat.le_refl _) (by omega))).trans (But.set w8 (by omega) _)).trans
          ((but_grow hg10 (fun g hg => (own_ob Hown9.out g hg).1) (Nat.le_refl _) (by simp; omega)).trans (But.set w10 (by omega) _))
      refine ⟨((((keeps_of_below hb7 _).trans (keeps_grow Hg78.out Hrow7.out _)).trans ((KeepsOthers.setCell w8 ⟨w.heap.size + 1 + 1 + 1, 0, none⟩ (.slice A8 (pre ++ [x]).length k8)).from _)).trans (keeps_grow hg10 (Hown9.out : Oc 1 _ 5 w6.heap.size A2 L.length d2 (bvs L)) _)).trans ((KeepsOthers.setCell w10 ⟨w.heap.size + 1 + 1, 0, none⟩ (.slice A10 LB.length k10)).from _), hbt,
        A10, k10, LB, A8, k8, E ++ [xe], hO10.set _, Own.setLow (ho10 : Own w10 5 w6.heap.size A10 k10 LB) (by show w.heap.size + 1 + 1 < _; omega) _, HL2.out, HLBb.out, hE10.other (by omega) _, row11, HE2.out, HEb.out, ap11, hbut.trans hbt, by simp; omega, hgo R1.out (by omega), hgo R2.out (by omega), Hall.out⟩
  case done =>
    rintro D xs W hD hS ⟨A2, d2, L, Ai, ci, E, hbo, hown, hL, hLl, hbi, hrow, hE, hEb, hap, hbut, hsz, r1, r2, hall⟩ hK
    have hmay : ∀ r ∈ l, Fm.May r := may_chk fun p hp => by
      rw [Hl.out, ← hS] at hp
      obtain ⟨q, hq, rfl⟩ := List.mem_map.1 hp
      exact hall q hq
    have hC : (xs.map (·.1)).map (chk l) = Hm.ch l := by
      have h := chk_ch l
      rw [Hl.out] at h
      rw [← h]
      exact congrArg (List.map (chk l)) hS
    have hCl := congrArg List.length hC
    rw [List.length_map, List.length_map] at hCl
    have hc10 := Hm.ch_few Hf.out
    rw [hC] at hL hE
    have hbl := Hm.body_len (Hm.ch l) (fun c hc => Hm.ch_enc Hf.out hc)
    rw [← hL] at hbl
    obtain ⟨N, hN⟩ : ∃ N, N = L ++ Hm.tailw (E.map e2) := ⟨_, rfl⟩
    have hwr : Hm.wrS l = (N, 0) := by
      rw [Hm.wrS_ok hmay, hN, hL, hE]
      rfl
    have hbel : Below w.heap.size w W := b06.trans (hbut.below (by omega))
    have hTW := (hT6.otherK (hbut.block w2.heap.size (by omega) (by omega))).more (B' := W.heap.size) (by omega)
    have hct := (boxed_but ht6 hbut (by omega) (by omega)).cell
    have hai := addIndex_c A2 d2 w6.heap.size L (some ⟨w2.heap.size, 0, none⟩) 256 Ai xs.length ci E W hown hsz hTW hrow.rc (by omega) hEb (by omega)
    rw [← hN] at hai
    have hbo2 := hbo.cell
    have hbi2 := hbi.cell
    have hDb : W.heap[D]? = some (.deferred (some [])) := hK
    have hDne : some D ≠ ob A2 := fun e => by
      rcases hown.2 with ⟨hv, hn⟩ | ⟨g, cap, cur, hv, hbg, hg2, _⟩
      · injection hv with hv
        subst hv
        cases e
      · injection hv with hv
        subst hv
        cases e
        rw [hg2] at hDb
        injection hDb with hDb
        cases hDb
    have hlo : ∀ b, b < w6.heap.size → some b ≠ ob A2 := fun b hb e => by have := (own_ob hown b e.symm).1; omega
    have Hwr := Lib.hid hwr; have Hai := Lib.hid hai; have R1 := Lib.hid r1; have R2 := Lib.hid r2; have Hbut := Lib.hid hbut; have HDne := Lib.hid hDne; have Hlo := Lib.hid hlo
    clear hwr hai r1 r2 hbut hmay hC hCl hbl hN hTW hown hL hLl hE hEb hap hall hDb hDne hlo
    gi_wp2_with (refine ⟨trivial, ?_⟩; gi_at_call 133; refine (callsIn_wide.2 Hai.out).mono ?_; rintro e w7 ⟨A7, k7, rfl, ho7, hg7⟩; have z7 := hg7.size; have g1 := (hg7.block w.heap.size (by omega) (Hlo.out _ (by omega))).trans R1.out; have g2 := (hg7.block (w.heap.size + 1) (by omega) (Hlo.out _ (by omega))).trans R2.out; have g1' : Boxed w7 w.heap.size 22 (.slice none 0 0) := g1; have g2' : Boxed w7 (w.heap.size + 1) 28 (.int .i64 0) := g2; have g1c := g1'.cell; have g1f := g1'.frozen; have g2c := g2'.cell; have g2f := g2'.frozen)
    have hDl := (Array.getElem?_eq_some_iff.1 hK).1
    have hK7 : w7.heap[D]? = some (.deferred (some [])) := (hg7.block D hDl HDne.out).trans hK
    obtain ⟨W3, hW3⟩ : ∃ W3, W3 = (w7.setCell ⟨w.heap.size, 0, none⟩ (.slice A7 N.length k7)).setCell ⟨w.heap.size + 1, 0, none⟩ (.int .i64 0) := ⟨_, rfl⟩
    have hK3 : W3.heap[D]? = some (.deferred (some [])) := by
      rw [hW3]
      exact ((KeepsOthers.setCell w7 ⟨w.heap.size, 0, none⟩ (.slice A7 N.length k7)).trans (KeepsOthers.setCell _ _ _)).same D _ hK7 rfl
    have k1 : Boxed W3 w.heap.size 22 (.slice A7 N.length k7) := by rw [hW3]; exact (g1'.set _).other (by omega) _
    have k2 : Boxed W3 (w.heap.size + 1) 28 (.int .i64 0) := by rw [hW3]; exact (g2'.other (by omega) _).set _
    have ho3 : Own W3 5 w6.heap.size A7 k7 N := by rw [hW3]; exact (ho7.setLow (by show w.heap.size < w6.heap.size; omega) _).setLow (by show w.heap.size + 1 < w6.heap.size; omega) _
    have hb7 : But w.heap.size w2.heap.size w6.heap.size W w7 := ⟨hg7.os, hg7.tape, hg7.output, hg7.size, fun k hk _ => hg7.block k (by omega) (Hlo.out k hk)⟩
    have hb3 : But w.heap.size w2.heap.size w6.heap.size w6 W3 := by
      rw [hW3]
      exact (Hbut.out.trans hb7).trans ((But.set w7 (by omega) _).trans (But.set _ (by omega) _))
    rw [← hW3]
    have hg := grownBy_putObj' W3 D (.deferred none)
    have hnc : ∀ r, some D = some r → ∃ o : Obj, W3.heap[r]? = some o ∧ o.isCells = false := fun r e => by cases e; exact ⟨_, hK3, rfl⟩
    have hne : ∀ b, b < w6.heap.size → some b ≠ some D := fun b hb e => by cases e; omega
    refine ⟨by simp, .inl ⟨_, _, rfl, run_takeDeferred hK3, ?_⟩⟩
    refine ⟨_, results_cells2 rfl rfl rfl (k1.kept hg (hne _ (by omega))).cell (k2.kept hg (hne _ (by omega))).cell Tryz.isAgg22 Tryz.isAgg28, A7, k7, ?_, ?_, ?_⟩
    · rw [Hwr.out]; rfl
    · rw [Hwr.out]
      exact (oc_turn' ho3 hg hnc).mono (by omega)
    · exact (b06.trans (hb3.below (by omega))).trans ((but_put (lo := w.heap.size) (hi := w2.heap.size) (o' := .deferred none) hD hK3).below (by omega))
  case stop =>
    rintro D j pre W hD hpre ⟨rfl, ⟨p, hp, hpn⟩, hbut, hsz, r1, r2⟩ hK
    have hwr : Hm.wrS l = ([], 10) := Hm.wrS_err (chk_bad hpn)
    have Hwr := Lib.hid hwr; clear hwr
    gi_wp2
    have hg := grownBy_putObj' W D (.deferred none)
    have hne : ∀ b, b < w6.heap.size → some b ≠ some D := fun b hb e => by cases e; omega
    refine ⟨by simp, .inl ⟨_, _, rfl, run_takeDeferred hK, ?_⟩⟩
    refine ⟨_, results_cells2 rfl rfl rfl (r1.kept hg (hne _ (by omega))).cell (r2.kept hg (hne _ (by omega))).cell Tryz.isAgg22 Tryz.isAgg28, none, 0, ?_, ?_, ?_⟩
    · rw [Hwr.out]; rfl
    · rw [Hwr.out]; exact Own.nil _ _ _
    · exact (b06.trans (hbut.below (by omega))).trans ((but_put (lo := w.heap.size) (hi := w2.heap.size) (o' := .deferred none) hD hK).below (by omega))
end Go.Proofs.YtknmhdkomjjneaaGreatDoor.Cht

/-
  The document's four, Write: what each call returns and leaves.
-/
namespace Go.Proofs.YtknmhdkomjjneaaGreatDoor.Cht
open Go.RowKit Go.Shelf

theorem _root_.Go.Proofs.YtknmhdkomjjneaaGreatDoor.RL.fromK {w : World} {B n c k : Nat} {A : Option Addr} {l : Rcs} (h : RL w B A n c l) (hk : k ≤ n) : RL w B (cutA A c k) (n - k) (c - k) (l.drop k) := by
  have hl := h.len
  obtain ⟨vs, h1, h2⟩ := h
  have hvl := h1.len1
  have hnc := h1.2.1
  refine ⟨vs.drop k, ⟨by rw [List.length_drop]; omega, by omega, by have := h1.2.2.1; omega, fun hp => ?_⟩, by rw [List.length_drop, List.length_drop]; omega, fun j v r g1 g2 => ?_⟩
  · obtain ⟨b, off, rfl, hb, hc⟩ := h1.2.2.2 (by omega)
    refine ⟨b, off + k, ?_, hb, fun j v hj => ?_⟩
    · unfold cutA
      rw [if_neg (by omega)]
      by_cases h0 : k = 0
      · subst h0; simp [Addr.add]
      · simp [Addr.add, h0]
    · rw [List.getElem?_drop] at hj
      rw [Nat.add_assoc]; exact hc _ v hj
  · rw [List.getElem?_drop] at g1 g2
    exact h2.2 _ v r g1 g2
theorem _root_.Go.Proofs.YtknmhdkomjjneaaGreatDoor.RL.upto {w : World} {B n c k : Nat} {A : Option Addr} {l : Rcs} (h : RL w B A n c l) (hk : k ≤ n) : RL w B A k c (l.take k) := by
  have hl := h.len
  obtain ⟨vs, h1, h2⟩ := h
  have hvl := h1.len1
  have hnc := h1.2.1
  refine ⟨vs.take k, ⟨by rw [List.length_take]; omega, by omega, h1.2.2.1, fun hp => ?_⟩, by rw [List.length_take, List.length_take]; omega, fun j v r g1 g2 => ?_⟩
  · obtain ⟨b, off, rfl, hb, hc⟩ := h1.2.2.2 (by omega)
    refine ⟨b, off, rfl, hb, fun j v hj => ?_⟩
    rw [List.getElem?_take] at hj
    split at hj
    · exact hc _ v hj
    · cases hj
  · rw [List.getElem?_take] at g1 g2
    split at g1
    · rw [if_pos (by assumption)] at g2
      exact h2.2 _ v r g1 g2
    · cases g1
theorem sl0 (A : Option Addr) (n c k : Nat) (hk : k ≤ n) (hc : n ≤ c) (W : World) : (Instr.slice 55 (.slice A n c) none (some (.int .i64 (k : Int))) none).run Tryz.prog W = .ok (.slice A k c) W := by
  rw [run_slice_h W 55 _ _ _ rty_sl .i64 (k : Int) (by omega) (by omega), rty_sz]
  simp [Result.andThen, sliced]
  intro _
  cases A <;> simp [Addr.add]

set_option maxRecDepth 100000 in
theorem four8_c (r : Nat) (w : World) (hr : r < 4294967296) : Calls Tryz.prog 75 #[.int .i64 (r : Int)] w (RetFour w (Cm.four r)) := by
  have H := Lib.hid (rfour_c r w hr)
  have e1 : IntKind.u32.wrap (r : Int) = (r : Int) := by rw [IntKind.wrap_u32]; omega
  go_enter Tryz.func75, Tryz.ntmps75
  go_wp2_with fail
  refine H.out.mono ?_
  rintro e w1 ⟨A1, c1, rfl, ho1, hb1⟩
  go_wp2
  go_ret
  exact ⟨A1, c1, rfl, ho1, hb1⟩

def lenOf : Value → Nat
  | .slice _ n _ => n
  | _ => 0
def RwR (w : World) (l : Rcs) (N : Nat) (s o i : Value) (wr : World) : Prop :=
  ∃ A c O D m d X e M, ∃ rest : Rcs, ∃ C : List Rcs, s = .slice D m d ∧ o = .slice A (List.length O) c ∧ i = .slice X (List.length M) e ∧ Own wr 5 w.heap.size A c O ∧ Own wr 5 w.heap.size X e M ∧ RL w w.heap.size D m d rest ∧ m ≤ 60 ∧
    Hm.ch l = C ++ Hm.ch rest ∧ O = Hm.body C ∧ M = Vm.vb N ++ (C.map Hm.ew).flatMap Hm.ixe ∧ O.length ≤ 20000 * C.length ∧ M.length ≤ 10 + 20 * C.length ∧ (ob X = none ∨ ob X ≠ ob A) ∧ Below w.heap.size w wr
theorem rput_to (A : Option Addr) (n c : Nat) (l : List UInt8) (N : Nat) (w : World) (hr : Rb w w.heap.size A n c l) (hn : n ≤ 900000) (hN : N ≤ 100000) (R : List UInt8) (hR : l ++ Vm.vb N = R) :
    Calls Tryz.prog 68 #[.slice A n c, .int .u64 (N : Int)] w (RetB w.heap.size w R) := by
  subst hR
  exact rput_c A n c l N w hr hn (by omega)

set_option maxRecDepth 100000 in
set_option maxHeartbeats 8000000 in
theorem rwrite_c (A : Option Addr) (n c : Nat) (l : Rcs) (w : World) (hr : RL w w.heap.size A n c l) (hf : Hm.Few l) :
    Calls Tryz.prog 51 #[.slice A n c] w (RetW w (Hm.wrS l)) := by
  have hl := hr.len
  have hn : n ≤ 60 := by have := hf.2; omega
  rcases mayC l with hmay | hmay
  rotate_left
  · have hma := mayAll_c A n c w.heap.size l w hr (by omega) false (by simpa using hmay)
    have hwr := Hm.wrS_err hmay
    have Hma := Lib.hid hma; have Hwr := Lib.hid hwr
    clear hma hwr hr hl hf hmay
    go_enter Tryz.func51, Tryz.ntmps51
    go_wp2_with fail
    refine Hma.out.mono ?_
    rintro e w' ⟨rfl, rfl⟩
    go_wp2
    go_ret2
    rw [Hwr.out]
    exact ⟨none, 0, rfl, Own.nil _ _ _, Below.refl _ _⟩
  · have hma := mayAll_c A n c w.heap.size l w hr (by omega) true (by simpa using hmay)
    obtain ⟨N, hN⟩ : ∃ N, N = (Hm.ch l).length := ⟨_, rfl⟩
    have hN2 := Hm.ch_len _ l (Nat.le_refl _)
    rw [← hN, hl] at hN2
    obtain ⟨n3, hn3⟩ : ∃ n3, n3 = n + 3 := ⟨_, rfl⟩
    have e1 : IntKind.i64.wrap ((n : Int) + 3) = (n3 : Int) := by rw [IntWalk.i64_in _ (by omega)]; omega
    have e2' : ((n : Int) + 3) = (n3 : Int) := by omega
    have e3 : Int.tdiv (n3 : Int) 4 = (N : Int) := by rw [Int.tdiv_eq_ediv_of_nonneg (by omega)]; omega
    have hN10 : N ≤ 15 := by omega
    have Hma := Lib.hid hma; have Hr := Lib.hid hr; have Hl := Lib.hid hl; have Hf := Lib.hid hf; have Hmay := Lib.hid hmay; have HN := Lib.hid hN
    have hput := fun W => rput_to none 0 0 [] N W (Rb.nil _ _) (by omega) (by omega) (Vm.vb N) (by simp)
    have Hput := Lib.hid hput
    clear hma hr hl hf hmay hN hN2 hn3 hput
    go_enter Tryz.func51, Tryz.ntmps51
    go_wp2_with fail
    refine Hma.out.mono ?_
    rintro e w' ⟨rfl, rfl⟩
    obtain ⟨w1, hw1⟩ : ∃ w1, w1 = w.alloc (.cells #[] 5) := ⟨_, rfl⟩
    have b1 : Below w.heap.size w w1 := by rw [hw1]; exact (Below.refl _ _).alloc (Nat.le_refl _) _
    have z1 := b1.size
    have ho1 : Own w1 5 w.heap.size (some ⟨w.heap.size, 0, none⟩) 0 [] := by rw [hw1]; exact Own.made0 _ _
    have W1 := Lib.hid hw1; have Ho1 := Lib.hid ho1
    clear hw1 ho1
    go_wp2_with fail
    rw [← W1.out]
    refine (Hput.out w1).mono ?_
    rintro e w2 ⟨X2, d2, rfl, ho2, hb2⟩
    have b2 := b1.trans (hb2.mono z1)
    have hap : ob X2 = none ∨ ob X2 ≠ ob (some ⟨w.heap.size, 0, none⟩ : Option Addr) := ob_apart (b := w1.heap.size) (fun g hg => (own_ob ho2 g hg).1) (fun g hg => (own_ob Ho1.out g hg).2)
    have hvl : (Vm.vb N).length ≤ 10 := by have := Vm.vb_len_le 1 N (by omega); omega
    have ho12 := Ho1.out.keep hb2
    have Ho2 := Lib.hid (ho2.mono (base' := w.heap.size) z1); have Ho12 := Lib.hid ho12; have Hap := Lib.hid hap
    clear ho2 ho12 hap
    go_wp2
    go_loopw [0, 4, 5] (fun s o i wr => RwR w l N s o i wr) (fun s _ _ _ => lenOf s)
    case atStart => exact ⟨_, _, [], A, n, c, X2, d2, Vm.vb N, l, [], rfl, rfl, rfl, Ho12.out, Ho2.out, Hr.out, hn, rfl, rfl, by simp, by simp, by simpa using hvl, Hap.out, b2⟩
    case round =>
      obtain ⟨A3, c3, O, D, m, d, X, ce, M, rest, C, rfl, rfl, rfl, hoA, hoX, hrr, hm, hch, hO, hM, hOl, hMl, hap, hbel⟩ := hrel
      have z3 := hbel.size
      have hrl := hrr.len
      have hCl : C.length ≤ 15 := by
        have h1 := Hm.ch_few Hf.out
        rw [hch, List.length_append] at h1
        omega
      by_cases hlt : 0 < m
      · have hne : rest ≠ [] := fun e => by rw [e] at hrl; simp at hrl; omega
        obtain ⟨k, hk⟩ : ∃ k, k = min 4 m := ⟨_, rfl⟩
        have hmin : min (4 : Int) (m : Int) = (k : Int) := by omega
        have hkm : k ≤ m := by omega
        have hk4 : k ≤ 4 := by omega
        have hk1 : 1 ≤ k := by omega
        have htk : rest.take k = rest.take 4 := by
          rcases Nat.lt_or_ge m 4 with h | h
          · rw [List.take_of_length_le (by omega), List.take_of_length_le (by omega)]
          · rw [show k = 4 by omega]
        have hdk : rest.drop k = rest.drop 4 := by
          rcases Nat.lt_or_ge m 4 with h | h
          · rw [List.drop_of_length_le (by omega), List.drop_of_length_le (by omega)]
          · rw [show k = 4 by omega]
        have hst := Hm.ch_step hne
        rw [← htk, ← hdk] at hst
        rw [hst] at hch
        obtain ⟨ck1, hck⟩ : ∃ ck1, ck1 = rest.take k := ⟨_, rfl⟩
        obtain ⟨rs, hrs⟩ : ∃ rs, rs = rest.drop k := ⟨_, rfl⟩
        rw [← hck, ← hrs] at hch
        have hckm : ck1 ∈ Hm.ch l := by rw [hch]; simp
        have henl := Hm.ch_enc Hf.out hckm
        have hckl : ck1.length = k := by rw [hck, List.length_take]; omega
        have hcmay : ∀ r ∈ ck1, Fm.May r := fun r h => Hmay.out r ((Hm.ch_mem _ l (Nat.le_refl _) ck1 hckm).2.2.2 r h)
        obtain ⟨E, hE⟩ : ∃ E, E = Fm.enc ck1 := ⟨_, rfl⟩
        obtain ⟨p, hp⟩ : ∃ p, p = Pm.pressS E := ⟨_, rfl⟩
        obtain ⟨BL, hBL⟩ : ∃ BL, BL = Hm.blkw ck1 := ⟨_, rfl⟩
        have hBLl : BL.length ≤ 20000 := by rw [hBL]; exact (Hm.blkw_len (by omega)).2
        have hpl : p.length ≤ 20000 := by rw [hp]; have := Pm.press_len E (by rw [hE]; omega); rw [hE] at this ⊢; omega
        have hEl : E.length ≤ 3200 := by rw [hE]; exact henl
        have hbl2 : p ++ Cm.four (Cm.sum Cm.tab p) = BL := by rw [hBL, hp, hE]; rfl
        have hs0 := fun W => sl0 D m d k hkm (by obtain ⟨vs, h1, _⟩ := hrr; exact h1.2.1) W
        have hs1 := fun W => sl1 D m d k hkm W
        have henc := fun W (hW : RL W w.heap.size D k d ck1) (hb : w.heap.size ≤ W.heap.size) => rencode_c D k d w.heap.size ck1 W hW hb (by omega) (by omega)
        rw [encS_ok hcmay, ← hE] at henc
        have hpr := fun W A' k' (hW : Rb W W.heap.size A' E.length k' E) => rpress_c A' E.length k' E W hW (by omega)
        rw [← hp] at hpr
        have hse := fun W A' k' (hW : Rb W W.heap.size A' p.length k' p) => rsealed_c A' p.length k' p W hW (by omega)
        rw [hbl2] at hse
        obtain ⟨O2, hO2⟩ : ∃ O2, O2 = O ++ BL := ⟨_, rfl⟩
        have hO2l : O2.length ≤ 20000 * (C ++ [ck1]).length := by rw [hO2, List.length_append, List.length_append]; simp; omega
        have hO2b : O2 = Hm.body (C ++ [ck1]) := by rw [hO2, hO, Hm.body_snoc, hBL]
        obtain ⟨M1, hM1⟩ : ∃ M1, M1 = M ++ Vm.vb BL.length := ⟨_, rfl⟩
        obtain ⟨M2, hM2⟩ : ∃ M2, M2 = M1 ++ Vm.vb k := ⟨_, rfl⟩
        have hvl1 : (Vm.vb BL.length).length ≤ 10 := by have := Vm.vb_len_le 2 BL.length (by omega); omega
        have hvl2 : (Vm.vb k).length ≤ 10 := by have := Vm.vb_len_le 1 k (by omega); omega
        have hM1l : M1.length ≤ 20 + 20 * C.length := by rw [hM1, List.length_append]; omega
        have hM2l : M2.length ≤ 10 + 20 * (C ++ [ck1]).length := by rw [hM2, hM1, List.length_append, List.length_append, List.length_append]; simp; omega
        have hM2b : M2 = Vm.vb N ++ ((C ++ [ck1]).map Hm.ew).flatMap Hm.ixe := by
          rw [hM2, hM1, hM, List.map_append, List.flatMap_append]
          simp [Hm.ixe, Hm.ew, hBL, hckl]
        have hch2 : Hm.ch l = (C ++ [ck1]) ++ Hm.ch rs := by rw [hch, List.append_assoc]; rfl
        have hrr0 := hrr.upto hkm
        rw [← hck] at hrr0
        have hrr1 := hrr.fromK hkm
        rw [← hrs] at hrr1
        have hO2s : O2.length ≤ 1000000 := by rw [hO2, List.length_append]; omega
        have hput1 := fun W (hW : Rb W W.heap.size X M.length ce M) => rput_to X M.length ce M BL.length W hW (by omega) (by omega) M1 hM1.symm
        have hput2 := fun W X' c' (hW : Rb W W.heap.size X' M1.length c' M1) => rput_to X' M1.length c' M1 k W hW (by omega) (by omega) M2 hM2.symm
        have HoA := Lib.hid hoA; have HoX := Lib.hid hoX; have Hrr0 := Lib.hid hrr0; have Hrr1 := Lib.hid hrr1; have Henc := Lib.hid henc; have Hpr := Lib.hid hpr; have Hse := Lib.hid hse; have HO2 := Lib.hid hO2; have HO2l := Lib.hid hO2l; have HO2b := Lib.hid hO2b; have HM2l := Lib.hid hM2l; have HM2b := Lib.hid hM2b; have Hch2 := Lib.hid hch2; have Hput1 := Lib.hid hput1; have Hput2 := Lib.hid hput2; have Hap := Lib.hid hap
        clear hoA hoX hrr hrr0 hrr1 henc hpr hse hO2 hO2l hO2b hM2l hM2b hch2 hput1 hput2 hap hch hst htk hdk hne hckm hcmay hE hp hBL hbl2 hck hrs hM1 hM2 hO hM hrl hckl hk henl
        go_wp2_with fail
        refine (Henc.out _ (Hrr0.out.below hbel) z3).mono ?_
        rintro e w4 ⟨A4, c4, rfl, ho4, hb4⟩
        have b4 := hbel.trans (hb4.mono z3)
        have z4 := hb4.size
        dsimp only at ho4 ⊢
        have hr4 := ho4.rb
        have HoA4 := Lib.hid (HoA.out.keep hb4); have HoX4 := Lib.hid (HoX.out.keep hb4)
        have Hr4 := Lib.hid hr4
        clear ho4 hr4 HoA HoX
        go_wp2_with fail
        refine (Hpr.out _ _ _ Hr4.out).mono ?_
        rintro e w5 ⟨A5, c5, rfl, ho5, hb5⟩
        have b5 := b4.trans (hb5.mono b4.size)
        have hr5 := ho5.rb
        have HoA5 := Lib.hid (HoA4.out.keep hb5); have HoX5 := Lib.hid (HoX4.out.keep hb5)
        have Hr5 := Lib.hid hr5
        clear ho5 hr5 HoA4 HoX4 Hr4
        go_wp2_with fail
        refine (Hse.out _ _ _ Hr5.out).mono ?_
        rintro e w6 ⟨A6, c6, rfl, ho6, hb6⟩
        have b6 := b5.trans (hb6.mono b5.size)
        have z6 := b6.size
        have hr6 := ho6.rb
        have HoA6 := Lib.hid (HoA5.out.keep hb6); have HoX6 := Lib.hid (HoX5.out.keep hb6)
        have Hr6 := Lib.hid hr6
        clear ho6 hr6 HoA5 HoX5 Hr5
        go_wp2_with (at_builtin; go_must (refine bty.wpAppTo rfl (.tmp 53) (.tmp 54) rfl (l := O) (N := O2) rfl rfl HoA6.out Hr6.out HO2.out.symm ?h1 ?h2 ?_))
        case h1 => omega
        case h2 => omega
        intro A7 c7 w7 ho7 hg7
        have b7 := b6.trans (hg7.below HoA6.out (by omega))
        have z7 := b7.size
        have hoX7 := own_beside HoX6.out hg7 Hap.out
        have Ho7 := Lib.hid ho7; have HoX7 := Lib.hid hoX7
        clear ho7 hoX7 hg7 HoA6 HoX6 Hr6
        go_wp2_with fail
        refine (Hput1.out w7 HoX7.out.rb).mono ?_
        rintro e w8 ⟨X8, c8, rfl, ho8, hb8⟩
        have b8 := b7.trans (hb8.mono z7)
        have hr8 := ho8.rb
        have Hr8 := Lib.hid hr8; have Ho78 := Lib.hid (Ho7.out.keep hb8)
        clear hr8 ho8 Ho7 HoX7
        go_wp2_with fail
        refine (Hput2.out w8 _ _ Hr8.out).mono ?_
        rintro e w9 ⟨X9, c9, rfl, ho9, hb9⟩
        have b9 := b8.trans (hb9.mono b8.size)
        have hap9 : ob X9 = none ∨ ob X9 ≠ ob A7 := ob_apart (b := w8.heap.size) (fun g hg => (own_ob ho9 g hg).1) (fun g hg => (own_ob Ho78.out g hg).2)
        have Ho9 := Lib.hid (ho9.mono (base' := w.heap.size) b8.size); have Ho79 := Lib.hid (Ho78.out.keep hb9); have Hap9 := Lib.hid hap9
        clear ho9 hap9 Ho78 Hr8
        go_wp2
        go_roundw
        case rel => exact ⟨A7, c7, O2, cutA D d k, m - k, d - k, X9, c9, M2, rs, C ++ [ck1], rfl, rfl, rfl, Ho79.out, Ho9.out, Hrr1.out, by omega, Hch2.out, HO2b.out, HM2b.out, HO2l.out, HM2l.out, Hap9.out, b9⟩
        case measure => simp only [lenOf]; omega
      · obtain rfl : m = 0 := by omega
        obtain rfl : rest = [] := List.eq_nil_of_length_eq_zero hrl
        rw [Hm.ch_nil, List.append_nil] at hch
        have hMx : M = Hm.ixc (C.map Hm.ew) := by
          rw [hM, HN.out, hch]
          unfold Hm.ixc
          rw [List.length_map]
        obtain ⟨S, hS⟩ : ∃ S, S = Hm.sealed M := ⟨_, rfl⟩
        have hSl : S.length = M.length + 4 := by rw [hS, Hm.sealed_len]
        obtain ⟨N1, hN1⟩ : ∃ N1, N1 = O ++ S := ⟨_, rfl⟩
        obtain ⟨N2, hN2⟩ : ∃ N2, N2 = N1 ++ Cm.four S.length := ⟨_, rfl⟩
        obtain ⟨N3, hN3⟩ : ∃ N3, N3 = N2 ++ Hm.tl := ⟨_, rfl⟩
        have hwr : Hm.wrS l = (N3, 0) := by
          rw [Hm.wrS_ok Hmay.out, hN3, hN2, hN1, hO, hS, hMx]
          unfold Hm.wr Hm.file
          rw [hch]
          unfold Hm.tailw
          simp only [List.append_assoc]
        have hN1l : N1.length ≤ 400000 := by rw [hN1, List.length_append]; omega
        have hN2l : N2.length ≤ 400004 := by rw [hN2, List.length_append, Cm.four_len]; omega
        have hse := rsealed_c X M.length ce M wr hoX.rb (by omega)
        have hse2 : Calls Tryz.prog 71 #[.slice X M.length ce] wr (RetB wr.heap.size wr S) := by rw [hS]; exact hse
        have hS4 : S.length < 4294967296 := by omega
        have Hse := Lib.hid hse2; have HN1 := Lib.hid hN1; have HN2 := Lib.hid hN2; have HN3 := Lib.hid hN3; have Hwr := Lib.hid hwr; have HoA := Lib.hid hoA
        clear hse hse2 hN1 hN2 hN3 hwr hoA hoX hS hSl hMx hM hO hch hap hrr hrl
        go_wp2_with fail
        refine Hse.out.mono ?_
        rintro e w4 ⟨A4, c4, rfl, ho4, hb4⟩
        have b4 := hbel.trans (hb4.mono z3)
        have z4 := b4.size
        have hr4 := ho4.rb
        have HoA4 := Lib.hid (HoA.out.keep hb4); have Hr4 := Lib.hid hr4
        clear ho4 hr4 HoA
        go_wp2_with (at_builtin; go_must (refine bty.wpAppTo rfl (.tmp 70) (.tmp 71) rfl (l := O) (N := N1) rfl rfl HoA4.out Hr4.out HN1.out.symm ?h1 ?h2 ?_))
        case h1 => omega
        case h2 => omega
        intro A5 c5 w5 ho5 hg5
        have b5 := b4.trans (hg5.below HoA4.out (by omega))
        have z5 := b5.size
        have Ho5 := Lib.hid ho5
        clear ho5 hg5 HoA4 Hr4
        go_wp2_with fail
        refine (four8_c S.length w5 hS4).mono ?_
        rintro e w6 ⟨A6, c6, rfl, ho6, hb6⟩
        have b6 := b5.trans (hb6.mono z5)
        have z6 := b6.size
        have hr6 := Own.rbl ho6
        have Ho56 := Lib.hid (Ho5.out.keep hb6); have Hr6 := Lib.hid hr6
        clear ho6 hr6 Ho5
        go_wp2_with (at_builtin; go_must (refine bty.wpAppTo rfl (.tmp 73) (.tmp 76) rfl (l := N1) (N := N2) rfl rfl Ho56.out Hr6.out HN2.out.symm ?h1 ?h2 ?_))
        case h1 => omega
        case h2 => omega
        intro A7 c7 w7 ho7 hg7
        have b7 := b6.trans (hg7.below Ho56.out (by omega))
        have z7 := b7.size
        have Ho7 := Lib.hid ho7
        clear ho7 hg7 Ho56 Hr6
        go_wp2_with (at_builtin; go_must (refine bty.wpAppStrK rfl (.tmp 78) _ rfl (l := N2) (N := N3) rfl rfl Ho7.out ?h0 ?h1 ?h2 ?_))
        case h0 => rw [HN3.out]; rfl
        case h1 => show N2.length + 4 ≤ _; omega
        case h2 => omega
        intro A8 c8 w8 ho8 hg8
        have b8 : Below w.heap.size w w8 := b7.trans ((Below.refl w.heap.size w7).grown hg8 z7 (fun k hk => (own_ob Ho7.out k (by simpa using hk)).1))
        go_wp2
        go_ret2
        rw [Hwr.out]
        exact ⟨A8, c8, rfl, ho8, b8⟩
end Go.Proofs.YtknmhdkomjjneaaGreatDoor.Cht
