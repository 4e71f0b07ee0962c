/-
  The iterator over blocks: 'blocks' and the function that it returns: which blocks it hands over.
-/
import Derived.Test.YtddnlimkaagpdaaDoorUa
import Derived.RangeFuncNested
import Derived.RangeFuncBound
import Derived.RangeFuncCalls
import Derived.RangeFuncLeaves
import Derived.Shelf.Abstract
import Derived.Shelf.RegionOpen
import Derived.OwnWalkIn
import Derived.TacticsInMore
import Derived.LoopNIn
import Derived.LoopIn
namespace Go.Proofs.YtddnlimkaagpdaaDoor
open Go.RowKit Go.Shelf
attribute [local go_sem] Oper.semAt_some

/-- Below n₀ only the blocks from lo to hi may have changed. -/
structure But (lo hi n₀ : Nat) (W W' : World) : Prop where
  os : W'.os = W.os
  tape : W'.tape = W.tape
  output : W'.output = W.output
  size : W.heap.size ≤ W'.heap.size
  block : ∀ k, k < n₀ → ¬ (lo ≤ k ∧ k < hi) → W'.heap[k]? = W.heap[k]?
section
variable {lo hi n₀ : Nat} {W W' W'' : World}
theorem But.refl (W : World) : But lo hi n₀ W W := ⟨rfl, rfl, rfl, Nat.le_refl _, fun _ _ _ => rfl⟩
theorem But.trans (h : But lo hi n₀ W W') (k : But lo hi n₀ W' W'') : But lo hi n₀ W W'' :=
  ⟨k.os.trans h.os, k.tape.trans h.tape, k.output.trans h.output, Nat.le_trans h.size k.size, fun i hi hn => (k.block i hi hn).trans (h.block i hi hn)⟩
theorem but_of {B : Nat} (h : Below B W W') (hB : n₀ ≤ B) : But lo hi n₀ W W' := ⟨h.os, h.tape, h.output, h.size, fun k hk _ => h.block k (by omega)⟩
theorem But.cell (h : But lo hi n₀ W W') {p : Addr} (hp : p.block < n₀) (hn : ¬ (lo ≤ p.block ∧ p.block < hi)) : W'.cell? p = W.cell? p := by
  unfold World.cell?
  rw [h.block _ hp hn]
theorem But.set (W : World) {b : Nat} (hp : lo ≤ b ∧ b < hi) (v : Value) : But lo hi n₀ W (W.setCell ⟨b, 0, none⟩ v) :=
  let g := grownBy_setCell' W b v
  ⟨g.os, g.tape, g.output, g.size, fun k hk hn => by
    rcases Nat.lt_or_ge k W.heap.size with h | h
    · exact g.block k h (fun e => by cases e; exact hn hp)
    · have hs : (W.setCell ⟨b, 0, none⟩ v).heap.size = W.heap.size := by simp
      rw [Array.getElem?_eq_none h, Array.getElem?_eq_none (by omega)]⟩
theorem But.below (h : But lo hi n₀ W W') (hlo : lo ≤ n₀) : Below lo W W' := ⟨h.os, h.tape, h.output, h.size, fun k hk => h.block k (by omega) (by omega)⟩
end

/-- Where a cut of a slice begins. -/
def cutA (A : Option Addr) (c i : Nat) : Option Addr := if c = i then A else A.map (·.add i)
theorem U8.midE {P : Program} {t e s : TypeId} (u : U8 P t e s) {w : World} {B n c : Nat} {A : Option Addr} {l : List UInt8} (h : Rb w B A n c l) {i k : Nat} (hi : i ≤ k) (hk : k ≤ n) (W : World) :
    (Instr.slice t (.slice A n c) (some (.int .i64 (i : Int))) (some (.int .i64 (k : Int))) none).run P W = .ok (.slice (cutA A c i) (k - i) (c - i)) W := by
  rw [run_slice_lh W t _ _ _ u.sl' .i64 .i64 (i : Int) (k : Int) (by omega) (by omega) (by have := h.2.1; omega), u.sz]
  simp [Result.andThen, sliced, cutA]
theorem Rb.midE {w : World} {B n c : Nat} {A : Option Addr} {l : List UInt8} (h : Rb w B A n c l) {i k : Nat} (hi : i ≤ k) (hk : k ≤ n) : Rb w B (cutA A c i) (k - i) (c - i) ((l.take k).drop i) := h.mid hi hk

/-- A block between two places. -/
abbrev Bk (n : Nat) := { p : Nat × Nat // p.1 ≤ p.2 ∧ p.2 ≤ n }
def encB (A : Option Addr) (c : Nat) {n : Nat} (x : Bk n) : Array Value := #[.int .i64 (x.1.1 : Int), .slice (cutA A c x.1.1) (x.1.2 - x.1.1) (c - x.1.1)]

set_option maxRecDepth 100000 in
/-- blocks -/
theorem blocks_c (A : Option Addr) (n c : Nat) (f t : Int) (w : World) :
    Calls Tryd.prog 39 #[.slice A n c, .int .i64 f, .int .i64 t] w fun e w' =>
      e = .returned (.func (.func 57) #[] #[.pointer (some ⟨w.heap.size + 1, 0, none⟩), .pointer (some ⟨w.heap.size + 2, 0, none⟩), .pointer (some ⟨w.heap.size, 0, none⟩)]) ∧
      w' = ((w.alloc (.cells #[.slice A n c] 22)).alloc (.cells #[.int .i64 f] 3)).alloc (.cells #[.int .i64 t] 3) := by
  go_enter Tryd.func39, Tryd.ntmps39
  go_wp2
  go_ret
  exact ⟨rfl, rfl⟩

set_option maxRecDepth 100000 in
set_option maxHeartbeats 2000000 in
/-- What the function that blocks returns hands over, for every body that keeps the bytes and the boxes. -/
theorem blocks_stops (A : Option Addr) (n c : Nat) (l : List UInt8) (f t lo hi : Nat) (w : World) (hr : Rb w lo A n c l) (hn : n ≤ 1000000) (hx : Mx w) (hlo0 : 0 < lo) (Bf Bt Bb : Nat) (hBf : w.cell? ⟨Bf, 0, none⟩ = some (.int .i64 (f : Int)) ∧ hi ≤ Bf ∧ Bf < w.heap.size)
    (hBt : w.cell? ⟨Bt, 0, none⟩ = some (.int .i64 (t : Int)) ∧ hi ≤ Bt ∧ Bt < w.heap.size) (hBb : w.cell? ⟨Bb, 0, none⟩ = some (.slice A n c) ∧ hi ≤ Bb ∧ Bb < w.heap.size) (hlo : lo ≤ hi) (ht : t ≤ n) (m : Nat) :
    SeqStopsK Fence.wide (m + 1) Tryd.prog 57 #[.pointer (some ⟨Bf, 0, none⟩), .pointer (some ⟨Bt, 0, none⟩), .pointer (some ⟨Bb, 0, none⟩)] (encB A c (n := n)) (But lo hi w.heap.size)
      (fun xs => xs.map (·.1) = Sm.sg l f t) (fun pre => pre.map (·.1) <+: Sm.sg l f t) (n + 1) w := fun L J Jx W hW hJ hJx hY h0 => by
  have hl := hr.len
  have kBf : W.cell? ⟨Bf, 0, none⟩ = some (.int .i64 (f : Int)) := (hW.cell (p := ⟨Bf, 0, none⟩) hBf.2.2).trans hBf.1
  have hWs := hW.size
  have Hr := Lib.hid hr; have Hx := Lib.hid hx; have Hl := Lib.hid hl; clear hr hx hl
  refine callsIn_of_wp Tryd.func57 rfl trivial ?_ rfl
  simp only [Tryd.ntmps57, List.size_toArray, List.length_cons, List.length_nil, Nat.reduceAdd, Nat.reduceSub, Array.replicate_succ, Array.replicate_zero, List.push_toArray, List.append_toArray, List.nil_append, List.cons_append]
  gi_wp2
  gi_loopw [5] (fun a wr => ∃ (pre : List (Bk n)) (k : Nat), a = .int .i64 (k : Int) ∧ J pre wr ∧ But lo hi w.heap.size W wr ∧ W.heap.size ≤ wr.heap.size ∧ Hid (Sm.sg l f t = pre.map (·.1) ++ Sm.sg l k t) ∧ pre.length ≤ k)
    (fun a _ => t - (intOf a).toNat)
  case atStart => exact ⟨[], f, rfl, h0, But.refl W, Nat.le_refl _, Lib.hid rfl, Nat.zero_le _⟩
  case round =>
    obtain ⟨pre, k, rfl, hJs, hbut, hws, hseg, hpl⟩ := hrel
    have kBt : wr.cell? ⟨Bt, 0, none⟩ = some (.int .i64 (t : Int)) := (hbut.cell (p := ⟨Bt, 0, none⟩) hBt.2.2 (by show ¬ (lo ≤ Bt ∧ Bt < hi); omega)).trans ((hW.cell (p := ⟨Bt, 0, none⟩) hBt.2.2).trans hBt.1)
    have kBb : wr.cell? ⟨Bb, 0, none⟩ = some (.slice A n c) := (hbut.cell (p := ⟨Bb, 0, none⟩) hBb.2.2 (by show ¬ (lo ≤ Bb ∧ Bb < hi); omega)).trans ((hW.cell (p := ⟨Bb, 0, none⟩) hBb.2.2).trans hBb.1)
    by_cases hlt : k < t
    · have hbel : Below lo w wr := (hW.mono (by omega)).trans (hbut.below (by omega))
      have hrw := (Hr.out.below hbel).more (B' := wr.heap.size) (by omega)
      have hxw : Mx wr := Hx.out.below hbel hlo0
      obtain ⟨q, hq⟩ : ∃ q, q = Sm.nxt l (k + 1) := ⟨_, rfl⟩
      have hql := Sm.nxt_le (b := l) (k := k + 1) (by rw [Hl.out]; omega)
      rw [← hq, Hl.out] at hql
      have hmk := marker_c A n c l ((k : Int) + 1) wr hrw hn hxw q (by rw [hq, show clamp ((k : Int) + 1) n = k + 1 from clamp_at (k + 1) n (by omega)])
      have hsl := bty.midE hrw (i := k) (k := q) (by omega) hql.2
      obtain ⟨x, hxv⟩ : ∃ x : Bk n, x.1 = (k, q) := ⟨⟨(k, q), by dsimp only; omega⟩, rfl⟩
      have hseg2 : Hid (Sm.sg l f t = (pre ++ [x]).map (·.1) ++ Sm.sg l q t) := Lib.hid (by
        rw [hseg.out, Sm.sg_step hlt, ← hq]
        simp [hxv])
      have Hmk := Lib.hid hmk; have Hq := Lib.hid hq; clear hmk hq hrw hxw hbel
      have henc : encB A c x = #[.int .i64 (k : Int), .slice (cutA A c k) (q - k) (c - k)] := by unfold encB; rw [hxv]
      have Henc := Lib.hid henc; clear henc
      gi_wp2_with (refine ⟨trivial, ?_⟩; gi_at_call 25; refine (callsIn_wide.2 Hmk.out).mono ?_; rintro e w2 ⟨rfl, hb2⟩; have kBb2 : w2.cell? ⟨Bb, 0, none⟩ = some (.slice A n c) := (hb2.cell (p := ⟨Bb, 0, none⟩) (by show Bb < wr.heap.size; omega)).trans kBb; obtain ⟨fn, tmps, assign, body, hy, hR⟩ := hY pre x w2 (hJ pre wr w2 none hJs (grown_below hb2 none) (fun r e => by cases e)) (by omega); rw [Henc.out] at hy)
      have hb2s := hb2.size
      refine hR.mono ?_
      rintro e W3 (⟨rfl, hJ3, hk3⟩ | ⟨rfl, hJx3⟩)
      · have hbut3 := (hbut.trans (but_of hb2 (by omega))).trans hk3
        have hs3 := hk3.size
        clear hR hy
        gi_wp2
        go_roundw
        case rel => exact ⟨pre ++ [x], q, rfl, hJ3, hbut3, by omega, hseg2, by simp; omega⟩
        case measure => simp [intOf]; omega
      · clear hR hy
        gi_wp2
        refine bodyPost_ret (results_none rfl _ _ _) rfl ?_
        exact ⟨⟨_, rfl⟩, .inr ⟨pre ++ [x], by rw [hseg2.out]; exact List.prefix_append _ _, hJx3⟩⟩
    · have hend : Sm.sg l f t = pre.map (·.1) := by rw [hseg.out, Sm.sg_end (by omega), List.append_nil]
      have Hend := Lib.hid hend; clear hend
      gi_wp2
      go_end0
      exact ⟨⟨_, rfl⟩, .inl ⟨pre, Hend.out.symm, hJs⟩⟩
end Go.Proofs.YtddnlimkaagpdaaDoor
