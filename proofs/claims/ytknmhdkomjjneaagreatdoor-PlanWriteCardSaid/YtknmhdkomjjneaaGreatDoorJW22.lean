/-
  Joined: SqUb SqUc SqUf SqUi SqUk SqUm.
-/
import Derived.Test.YtknmhdkomjjneaaGreatDoorJW21
import Derived.RangeFuncNested
import Derived.RangeFuncBound
import Derived.RangeFuncCalls
import Derived.RangeFuncLeaves
import Derived.Shelf.Abstract
import Derived.Shelf.RegionOpen
import Derived.OwnWalkIn
import Derived.TacticsInMore
import Derived.LoopNIn
import Derived.LoopIn
import Derived.Laws.ResultCell
import Derived.Test.YtknmhdkomjjneaaGreatDoorJW10
import Derived.Test.YtknmhdkomjjneaaGreatDoorJW20
import Derived.BigQuiet
/-
  The iterator over blocks: 'blocks' and the function that it returns: which blocks it hands over.
-/
namespace Go.Proofs.YtknmhdkomjjneaaGreatDoor.Sq
open Go.RowKit Go.Shelf
attribute [local go_sem] Oper.semAt_some

structure But (lo hi n₀ : Nat) (W W' : World) : Prop where
  os : W'.os = W.os
  tape : W'.tape = W.tape
  output : W'.output = W.output
  size : W.heap.size ≤ W'.heap.size
  block : ∀ k, k < n₀ → ¬ (lo ≤ k ∧ k < hi) → W'.heap[k]? = W.heap[k]?
section
variable {lo hi n₀ : Nat} {W W' W'' : World}
theorem But.refl (W : World) : But lo hi n₀ W W := ⟨rfl, rfl, rfl, Nat.le_refl _, fun _ _ _ => rfl⟩
theorem But.trans (h : But lo hi n₀ W W') (k : But lo hi n₀ W' W'') : But lo hi n₀ W W'' :=
  ⟨k.os.trans h.os, k.tape.trans h.tape, k.output.trans h.output, Nat.le_trans h.size k.size, fun i hi hn => (k.block i hi hn).trans (h.block i hi hn)⟩
theorem but_of {B : Nat} (h : Below B W W') (hB : n₀ ≤ B) : But lo hi n₀ W W' := ⟨h.os, h.tape, h.output, h.size, fun k hk _ => h.block k (by omega)⟩
theorem But.cell (h : But lo hi n₀ W W') {p : Addr} (hp : p.block < n₀) (hn : ¬ (lo ≤ p.block ∧ p.block < hi)) : W'.cell? p = W.cell? p := by
  unfold World.cell?
  rw [h.block _ hp hn]
theorem But.set (W : World) {b : Nat} (hp : lo ≤ b ∧ b < hi) (v : Value) : But lo hi n₀ W (W.setCell ⟨b, 0, none⟩ v) :=
  let g := grownBy_setCell' W b v
  ⟨g.os, g.tape, g.output, g.size, fun k hk hn => by
    rcases Nat.lt_or_ge k W.heap.size with h | h
    · exact g.block k h (fun e => by cases e; exact hn hp)
    · have hs : (W.setCell ⟨b, 0, none⟩ v).heap.size = W.heap.size := by simp
      rw [Array.getElem?_eq_none h, Array.getElem?_eq_none (by omega)]⟩
theorem But.below (h : But lo hi n₀ W W') (hlo : lo ≤ n₀) : Below lo W W' := ⟨h.os, h.tape, h.output, h.size, fun k hk => h.block k (by omega) (by omega)⟩
end

def cutA (A : Option Addr) (c i : Nat) : Option Addr := if c = i then A else A.map (·.add i)
theorem _root_.Go.Proofs.YtknmhdkomjjneaaGreatDoor.U8.midE {P : Program} {t e s : TypeId} (u : U8 P t e s) {w : World} {B n c : Nat} {A : Option Addr} {l : List UInt8} (h : Rb w B A n c l) {i k : Nat} (hi : i ≤ k) (hk : k ≤ n) (W : World) :
    (Instr.slice t (.slice A n c) (some (.int .i64 (i : Int))) (some (.int .i64 (k : Int))) none).run P W = .ok (.slice (cutA A c i) (k - i) (c - i)) W := by
  rw [run_slice_lh W t _ _ _ u.sl' .i64 .i64 (i : Int) (k : Int) (by omega) (by omega) (by have := h.2.1; omega), u.sz]
  simp [Result.andThen, sliced, cutA]
theorem _root_.Go.Proofs.YtknmhdkomjjneaaGreatDoor.Rb.midE {w : World} {B n c : Nat} {A : Option Addr} {l : List UInt8} (h : Rb w B A n c l) {i k : Nat} (hi : i ≤ k) (hk : k ≤ n) : Rb w B (cutA A c i) (k - i) (c - i) ((l.take k).drop i) := h.mid hi hk

abbrev Bk (n : Nat) := { p : Nat × Nat // p.1 ≤ p.2 ∧ p.2 ≤ n }
def encB (A : Option Addr) (c : Nat) {n : Nat} (x : Bk n) : Array Value := #[.int .i64 (x.1.1 : Int), .slice (cutA A c x.1.1) (x.1.2 - x.1.1) (c - x.1.1)]

set_option maxRecDepth 100000 in
theorem blocks_c (A : Option Addr) (n c : Nat) (f t : Int) (w : World) :
    Calls Tryz.prog 125 #[.slice A n c, .int .i64 f, .int .i64 t] w fun e w' =>
      e = .returned (.func (.func 151) #[] #[.pointer (some ⟨w.heap.size + 1, 0, none⟩), .pointer (some ⟨w.heap.size + 2, 0, none⟩), .pointer (some ⟨w.heap.size, 0, none⟩)]) ∧
      w' = ((w.alloc (.cells #[.slice A n c] 22)).alloc (.cells #[.int .i64 f] 3)).alloc (.cells #[.int .i64 t] 3) := by
  go_enter Tryz.func125, Tryz.ntmps125
  go_wp2
  go_ret
  exact ⟨rfl, rfl⟩

set_option maxRecDepth 100000 in
set_option maxHeartbeats 2000000 in
theorem blocks_stops (A : Option Addr) (n c : Nat) (l : List UInt8) (f t lo hi : Nat) (w : World) (hr : Rb w lo A n c l) (hn : n ≤ 1000000) (hx : Mx w) (hlo0 : 0 < lo) (Bf Bt Bb : Nat) (hBf : w.cell? ⟨Bf, 0, none⟩ = some (.int .i64 (f : Int)) ∧ hi ≤ Bf ∧ Bf < w.heap.size)
    (hBt : w.cell? ⟨Bt, 0, none⟩ = some (.int .i64 (t : Int)) ∧ hi ≤ Bt ∧ Bt < w.heap.size) (hBb : w.cell? ⟨Bb, 0, none⟩ = some (.slice A n c) ∧ hi ≤ Bb ∧ Bb < w.heap.size) (hlo : lo ≤ hi) (ht : t ≤ n) (m : Nat) :
    SeqStopsK Fence.wide (m + 1) Tryz.prog 151 #[.pointer (some ⟨Bf, 0, none⟩), .pointer (some ⟨Bt, 0, none⟩), .pointer (some ⟨Bb, 0, none⟩)] (encB A c (n := n)) (But lo hi w.heap.size)
      (fun xs => xs.map (·.1) = Sm.sg l f t) (fun pre => pre.map (·.1) <+: Sm.sg l f t) (n + 1) w := fun L J Jx W hW hJ hJx hY h0 => by
  have hl := hr.len
  have kBf : W.cell? ⟨Bf, 0, none⟩ = some (.int .i64 (f : Int)) := (hW.cell (p := ⟨Bf, 0, none⟩) hBf.2.2).trans hBf.1
  have hWs := hW.size
  have Hr := Lib.hid hr; have Hx := Lib.hid hx; have Hl := Lib.hid hl; clear hr hx hl
  refine callsIn_of_wp Tryz.func151 rfl trivial ?_ rfl
  simp only [Tryz.ntmps151, List.size_toArray, List.length_cons, List.length_nil, Nat.reduceAdd, Nat.reduceSub, Array.replicate_succ, Array.replicate_zero, List.push_toArray, List.append_toArray, List.nil_append, List.cons_append]
  gi_wp2
  gi_loopw [5] (fun a wr => ∃ (pre : List (Bk n)) (k : Nat), a = .int .i64 (k : Int) ∧ J pre wr ∧ But lo hi w.heap.size W wr ∧ W.heap.size ≤ wr.heap.size ∧ Hid (Sm.sg l f t = pre.map (·.1) ++ Sm.sg l k t) ∧ pre.length ≤ k)
    (fun a _ => t - (intOf a).toNat)
  case atStart => exact ⟨[], f, rfl, h0, But.refl W, Nat.le_refl _, Lib.hid rfl, Nat.zero_le _⟩
  case round =>
    obtain ⟨pre, k, rfl, hJs, hbut, hws, hseg, hpl⟩ := hrel
    have kBt : wr.cell? ⟨Bt, 0, none⟩ = some (.int .i64 (t : Int)) := (hbut.cell (p := ⟨Bt, 0, none⟩) hBt.2.2 (by show ¬ (lo ≤ Bt ∧ Bt < hi); omega)).trans ((hW.cell (p := ⟨Bt, 0, none⟩) hBt.2.2).trans hBt.1)
    have kBb : wr.cell? ⟨Bb, 0, none⟩ = some (.slice A n c) := (hbut.cell (p := ⟨Bb, 0, none⟩) hBb.2.2 (by show ¬ (lo ≤ Bb ∧ Bb < hi); omega)).trans ((hW.cell (p := ⟨Bb, 0, none⟩) hBb.2.2).trans hBb.1)
    by_cases hlt : k < t
    · have hbel : Below lo w wr := (hW.mono (by omega)).trans (hbut.below (by omega))
      have hrw := (Hr.out.below hbel).more (B' := wr.heap.size) (by omega)
      have hxw : Mx wr := Hx.out.below hbel hlo0
      obtain ⟨q, hq⟩ : ∃ q, q = Sm.nxt l (k + 1) := ⟨_, rfl⟩
      have hql := Sm.nxt_le (b := l) (k := k + 1) (by rw [Hl.out]; omega)
      rw [← hq, Hl.out] at hql
      have hmk := marker_c A n c l ((k : Int) + 1) wr hrw hn hxw q (by rw [hq, show clamp ((k : Int) + 1) n = k + 1 from clamp_at (k + 1) n (by omega)])
      have hsl := bty.midE hrw (i := k) (k := q) (by omega) hql.2
      obtain ⟨x, hxv⟩ : ∃ x : Bk n, x.1 = (k, q) := ⟨⟨(k, q), by dsimp only; omega⟩, rfl⟩
      have hseg2 : Hid (Sm.sg l f t = (pre ++ [x]).map (·.1) ++ Sm.sg l q t) := Lib.hid (by
        rw [hseg.out, Sm.sg_step hlt, ← hq]
        simp [hxv])
      have Hmk := Lib.hid hmk; have Hq := Lib.hid hq; clear hmk hq hrw hxw hbel
      have henc : encB A c x = #[.int .i64 (k : Int), .slice (cutA A c k) (q - k) (c - k)] := by unfold encB; rw [hxv]
      have Henc := Lib.hid henc; clear henc
      gi_wp2_with (refine ⟨trivial, ?_⟩; gi_at_call 152; refine (callsIn_wide.2 Hmk.out).mono ?_; rintro e w2 ⟨rfl, hb2⟩; have kBb2 : w2.cell? ⟨Bb, 0, none⟩ = some (.slice A n c) := (hb2.cell (p := ⟨Bb, 0, none⟩) (by show Bb < wr.heap.size; omega)).trans kBb; obtain ⟨fn, tmps, assign, body, hy, hR⟩ := hY pre x w2 (hJ pre wr w2 none hJs (grown_below hb2 none) (fun r e => by cases e)) (by omega); rw [Henc.out] at hy)
      have hb2s := hb2.size
      refine hR.mono ?_
      rintro e W3 (⟨rfl, hJ3, hk3⟩ | ⟨rfl, hJx3⟩)
      · have hbut3 := (hbut.trans (but_of hb2 (by omega))).trans hk3
        have hs3 := hk3.size
        clear hR hy
        gi_wp2
        go_roundw
        case rel => exact ⟨pre ++ [x], q, rfl, hJ3, hbut3, by omega, hseg2, by simp; omega⟩
        case measure => simp [intOf]; omega
      · clear hR hy
        gi_wp2
        refine bodyPost_ret (results_none rfl _ _ _) rfl ?_
        exact ⟨⟨_, rfl⟩, .inr ⟨pre ++ [x], by rw [hseg2.out]; exact List.prefix_append _ _, hJx3⟩⟩
    · have hend : Sm.sg l f t = pre.map (·.1) := by rw [hseg.out, Sm.sg_end (by omega), List.append_nil]
      have Hend := Lib.hid hend; clear hend
      gi_wp2
      go_end0
      exact ⟨⟨_, rfl⟩, .inl ⟨pre, Hend.out.symm, hJs⟩⟩
end Go.Proofs.YtknmhdkomjjneaaGreatDoor.Sq

/-
  Results that lie in cells of the call's own.
-/
namespace Go.Proofs.YtknmhdkomjjneaaGreatDoor.Sq
open Go.RowKit Go.Shelf

def isC (w : World) (b : Nat) : Prop := ∃ o : Obj, w.heap[b]? = some o ∧ o.isCells = true
theorem isC_of_cell {w : World} {p : Addr} {v : Value} (h : w.cell? p = some v) : isC w p.block := by
  unfold World.cell? at h
  cases hp : w.heap[p.block]? with
  | none => rw [hp] at h; simp at h
  | some o =>
    refine ⟨o, hp, ?_⟩
    rw [hp] at h
    cases o <;> simp_all [Obj.isCells]
def Sc (base : Nat) (w : World) (A : Option Addr) (b : Nat) : Prop := Sf base w A b ∧ isC w b
theorem sc_sf {base : Nat} {w : World} {A : Option Addr} : ∀ b, Sc base w A b → Sf base w A b := fun _ h => h.1
theorem _root_.Go.Proofs.YtknmhdkomjjneaaGreatDoor.RcS.cells {z : Nat} {w : World} {S : Nat → Prop} {A : Option Addr} {n c : Nat} {vs : List Value} (h : RcS z w S A n c vs) (hz : 0 < z) : RcS z w (fun b => S b ∧ isC w b) A n c vs :=
  ⟨h.1, h.2.1, h.2.2.1, fun hn => by
    obtain ⟨b, off, e, hb, hc⟩ := h.2.2.2 hn
    have hl : 0 < vs.length := by rw [h.1]; exact Nat.mul_pos hn hz
    exact ⟨b, off, e, ⟨hb, isC_of_cell (hc 0 _ (List.getElem?_eq_getElem hl))⟩, hc⟩⟩
theorem _root_.Go.Proofs.YtknmhdkomjjneaaGreatDoor.RrS.cells {w : World} {S : Nat → Prop} {v : Value} {r : List (List UInt8)} (h : RrS w S v r) : RrS w (fun b => S b ∧ isC w b) v r := by
  obtain ⟨A, n, c, e, h⟩ := h
  exact ⟨A, n, c, e, h.cells (by omega)⟩
theorem _root_.Go.Proofs.YtknmhdkomjjneaaGreatDoor.RrsS.cells {w : World} {S : Nat → Prop} {vs : List Value} {l : List (List (List UInt8))} (h : RrsS w S vs l) : RrsS w (fun b => S b ∧ isC w b) vs l := ⟨h.1, fun j v r h1 h2 => (h.2 j v r h1 h2).cells⟩
theorem _root_.Go.Proofs.YtknmhdkomjjneaaGreatDoor.RLS.cells {w : World} {S : Nat → Prop} {A : Option Addr} {n c : Nat} {l : List (List (List UInt8))} (h : RLS w S A n c l) : RLS w (fun b => S b ∧ isC w b) A n c l := by
  obtain ⟨vs, h1, h2⟩ := h
  exact ⟨vs, h1.cells (by omega), h2.cells⟩
theorem _root_.Go.Proofs.YtknmhdkomjjneaaGreatDoor.PrS.cells {w : World} {S : Nat → Prop} {u v : Value} {p : Nat × List (List (List UInt8))} (h : PrS w S u v p) : PrS w (fun b => S b ∧ isC w b) u v p := by
  obtain ⟨e, A, n, c, e2, h⟩ := h
  exact ⟨e, A, n, c, e2, h.cells⟩
theorem _root_.Go.Proofs.YtknmhdkomjjneaaGreatDoor.PsS.cells {w : World} {S : Nat → Prop} {vs : List Value} {l : List (Nat × List (List (List UInt8)))} (h : PsS w S vs l) : PsS w (fun b => S b ∧ isC w b) vs l :=
  ⟨h.1, fun j p hp => by
    obtain ⟨u, v, h1, h2, h3⟩ := h.2 j p hp
    exact ⟨u, v, h1, h2, h3.cells⟩⟩
theorem sc_turn {base : Nat} {W W' : World} {A : Option Addr} {row : Option Nat} (hg : W.grownBy W' row) (hr : ∀ r, row = some r → ∃ o : Obj, W.heap[r]? = some o ∧ o.isCells = false) : Stays W W' (Sc base W A) (Sc base W' A) := by
  have hk : ∀ b, isC W b → b < W.heap.size → W'.heap[b]? = W.heap[b]? := fun b hb hlt => hg.block b hlt fun e => by
    obtain ⟨o, h1, h2⟩ := hr b e.symm
    obtain ⟨o', h3, h4⟩ := hb
    rw [h1] at h3
    injection h3 with h3
    subst h3
    rw [h2] at h4
    cases h4
  refine ⟨fun b ⟨⟨h1, h2, h3⟩, h4⟩ => ⟨⟨h1, Nat.lt_of_lt_of_le h2 hg.size, h3⟩, ?_⟩, fun p ⟨⟨_, h2, _⟩, h4⟩ => ?_⟩
  · obtain ⟨o, h5, h6⟩ := h4
    exact ⟨o, (hk b ⟨o, h5, h6⟩ h2).trans h5, h6⟩
  · unfold World.cell?
    rw [hk _ h4 h2]
theorem oc_turn {z : Nat} {W W' : World} {e : TypeId} {base n c : Nat} {A : Option Addr} {vs : List Value} {row : Option Nat} (h : Oc z W e base A n c vs) (hg : W.grownBy W' row) (hr : ∀ r, row = some r → ∃ o : Obj, W.heap[r]? = some o ∧ o.isCells = false) : Oc z W' e base A n c vs := by
  refine World.ownsRow.kept h hg ?_
  rw [ownBlock_slice]
  cases hA : ob A with
  | none => exact .inl rfl
  | some b =>
    refine .inr fun e2 => ?_
    obtain ⟨o, h1, h2⟩ := hr b e2.symm
    rcases h.2 with ⟨hv, hn⟩ | ⟨g, cap, cur, hv, hbg, hg2, _⟩
    · injection hv with hv
      subst hv
      cases hA
    · injection hv with hv
      subst hv
      cases hA
      rw [hg2] at h1
      injection h1 with h1
      subst h1
      cases h2
theorem sf_low {w : World} {base lo : Nat} {A : Option Addr} (h : lo < base) (v : Value) : Stays w (w.setCell ⟨lo, 0, none⟩ v) (Sf base w A) (Sf base (w.setCell ⟨lo, 0, none⟩ v) A) :=
  ⟨fun b ⟨h1, h2, h3⟩ => ⟨h1, by simpa using h2, h3⟩, fun p ⟨h1, _, _⟩ => World.cell?_setCell_other w _ _ v (fun e => by subst e; dsimp only at h1; omega)⟩
theorem oc_low {z : Nat} {w : World} {e : TypeId} {base n c lo : Nat} {A : Option Addr} {vs : List Value} (h : Oc z w e base A n c vs) (hl : lo < base) (v : Value) : Oc z (w.setCell ⟨lo, 0, none⟩ v) e base A n c vs := by
  refine World.ownsRow.kept h (grownBy_setCell' w lo v) ?_
  rw [ownBlock_slice]
  cases hA : ob A with
  | none => exact .inl rfl
  | some b => exact .inr fun e2 => by have := (oc_ob h b hA).1; cases e2; omega
theorem but_turn {lo hi n₀ : Nat} {w W W' : World} {row : Option Nat} (h : But lo hi n₀ w W) (hg : W.grownBy W' row) (hr : ∀ r, row = some r → n₀ ≤ r) (hs : n₀ ≤ W.heap.size) : But lo hi n₀ w W' :=
  h.trans ⟨hg.os, hg.tape, hg.output, hg.size, fun k hk _ => hg.block k (by omega) fun e => by have := hr k e.symm; omega⟩
theorem but_grow {lo hi n₀ base : Nat} {W W' : World} {A A' : Option Addr} (hg : Grows W W' A A') (hA : ∀ g, ob A = some g → base ≤ g) (hb : n₀ ≤ base) (hs : n₀ ≤ W.heap.size) : But lo hi n₀ W W' :=
  ⟨hg.1.os, hg.1.tape, hg.1.output, hg.1.size, fun k hk _ => hg.1.block k (by omega) fun e => by have := hA k e.symm; omega⟩
theorem but_put {lo hi n₀ l : Nat} {W : World} {o o' : Obj} (h : n₀ ≤ l) (hl : W.heap[l]? = some o) : But lo hi n₀ W (W.putObj l o') :=
  let g := grownBy_putObj' W l o'
  ⟨g.os, g.tape, g.output, g.size, fun k hk _ => g.block k (by have := (Array.getElem?_eq_some_iff.1 hl).1; omega) (fun e => by cases e; omega)⟩
theorem boxed_below {W W' : World} {B k : Nat} {t : TypeId} {v : Value} (h : Boxed W k t v) (hb : Below B W W') (hk : k < B) : Boxed W' k t v := (hb.block k hk).trans h
theorem boxed_but {lo hi n₀ k : Nat} {W W' : World} {t : TypeId} {v : Value} (h : Boxed W k t v) (hb : But lo hi n₀ W W') (hk : k < n₀) (hn : ¬ (lo ≤ k ∧ k < hi)) : Boxed W' k t v := (hb.block k hk hn).trans h
theorem keeps_of_below {W W' : World} (h : Below W.heap.size W W') (B : Nat) : KeepsFrom B W W' := ⟨h.size, fun k _ _ hk _ => (h.block k (Array.getElem?_eq_some_iff.1 hk).1).trans hk⟩
theorem keeps_grow {z : Nat} {W W' : World} {e : TypeId} {base n c : Nat} {A A' : Option Addr} {vs : List Value} (hg : Grows W W' A A') (h : Oc z W e base A n c vs) (B : Nat) : KeepsFrom B W W' :=
  ⟨hg.1.size, fun k o _ hk ho => (hg.1.block k (Array.getElem?_eq_some_iff.1 hk).1 fun e2 => by
    rcases h.2 with ⟨hv, hn⟩ | ⟨g, cap, cur, hv, hbg, hg2, _⟩
    · injection hv with hv
      subst hv
      cases e2
    · injection hv with hv
      subst hv
      cases e2
      rw [hg2] at hk
      injection hk with hk
      subst hk
      cases ho).trans hk⟩
theorem _root_.Go.Proofs.YtknmhdkomjjneaaGreatDoor.Rn.other {w w' : World} {B n c g : Nat} {l : List Nat} (h : Rn w B (some ⟨g, 0, none⟩) n c l) (hg : w'.heap[g]? = w.heap[g]?) : Rn w' B (some ⟨g, 0, none⟩) n c l :=
  ⟨h.1, h.2.1, h.2.2.1, h.2.2.2.1, fun hn => by
    obtain ⟨b, off, e, hb, hc⟩ := h.2.2.2.2 hn
    injection e with e
    injection e with e1 e2
    subst e1 e2
    refine ⟨g, 0, rfl, hb, fun j x hx => ?_⟩
    have := hc j x hx
    unfold World.cell? at this ⊢
    dsimp only at this ⊢
    rw [hg]
    exact this⟩
section
variable {F : Fence} {nF : Nat} {P : Program} {t e : TypeId} {zv : Value} {z y : Nat}
theorem _root_.Go.Proofs.YtknmhdkomjjneaaGreatDoor.Sl.wpInApp (u : Sl P t e zv z y) {w : World} {ops : Array Oper} {rest : List Oper} {o : Oper} {a : Act} {Q : Exit → Act → World → Prop} (hgd : o.guard = none) (p q : Operand)
    (ho : o.op = .call { callee := .builtin .append, args := #[p, q], argTypes := #[t, t] })
    {base n c B m d N : Nat} {A D : Option Addr} {vs us ws : List Value} (hx : a.eval p = .slice A n c) (hy : a.eval q = .slice D m d) (hown : Oc z w e base A n c vs) (hr : Rc z w B D m d us) (h1 : ∀ v ∈ us, v.oneCell' = true)
    (hN : n + m = N) (hvs : vs ++ us = ws) (hsm : N * y ≤ 140737488355328) (hnm : N ≤ 140737488355328) (hbase : base ≤ w.heap.size)
    (h : ∀ A' c' w', Oc z w' e base A' N c' ws → Grows w w' A A' → wpListIn F nF P ops Q rest (a.put o.dst (.slice A' N c')) w') : wpListIn F nF P ops Q (o :: rest) a w := by
  subst hN hvs
  refine wpListIn_plain hgd fun K hK => ?_
  obtain ⟨A', c', w', hrun, h2, h3⟩ := u.appendAt o.type hown hr h1 hsm hnm hbase
  unfold Oper.wpIn
  refine ⟨by simp [Oper.about, ho, resolve, Target.leads, Sem.run_pure], ?_⟩
  rw [Oper.semAt_plain F _ _ (by rw [ho]; intro c hc'; cases hc')]
  simp [execOp, ho, resolve, invoke, builtin, hx, hy, hrun, Result.andThen]
  exact hK _ _ (h A' c' w' h2 h3)
end
end Go.Proofs.YtknmhdkomjjneaaGreatDoor.Sq

namespace Go.Proofs.YtknmhdkomjjneaaGreatDoor.Sq
open Go.RowKit Go.Shelf

theorem loadVar_box {P : Program} {W : World} {b : Nat} {t : TypeId} {v : Value} (hB : W.cell? ⟨b, 0, none⟩ = some v) (ht : ∀ w, (isAgg t).run P w = .ok false w) : (loadVar t ⟨b, 0, none⟩).run P W = .ok v W := by
  simp [loadVar, Sem.run_bind, ht, Result.andThen, run_load, hB]
theorem results_cells3 {fn : Func} {p q r : Tmp} {tp tq tr : TypeId} (h : fn.results = #[.cell p tp, .cell q tq, .cell r tr]) {tmps : Array Value} {P : Program} {w : World} {bp bq br : Nat} {vp vq vr : Value}
    (hp : tmps.getD p undef = .pointer (some ⟨bp, 0, none⟩)) (hq : tmps.getD q undef = .pointer (some ⟨bq, 0, none⟩)) (hr : tmps.getD r undef = .pointer (some ⟨br, 0, none⟩))
    (cp : w.cell? ⟨bp, 0, none⟩ = some vp) (cq : w.cell? ⟨bq, 0, none⟩ = some vq) (cr : w.cell? ⟨br, 0, none⟩ = some vr)
    (ap : ∀ w, (isAgg tp).run P w = .ok false w) (aq : ∀ w, (isAgg tq).run P w = .ok false w) (ar : ∀ w, (isAgg tr).run P w = .ok false w) :
    (results fn tmps).run P w = .ok (.tuple #[vp, vq, vr]) w := by
  rw [Array.getD_eq_getD_getElem?] at hp hq hr
  simp only [results, h]
  simp [Sem.run_bind, Result.andThen, hp, hq, hr, asAddr, loadVar_box cp ap, loadVar_box cq aq, loadVar_box cr ar]
theorem results_cells2 {fn : Func} {p q : Tmp} {tp tq : TypeId} (h : fn.results = #[.cell p tp, .cell q tq]) {tmps : Array Value} {P : Program} {w : World} {bp bq : Nat} {vp vq : Value}
    (hp : tmps.getD p undef = .pointer (some ⟨bp, 0, none⟩)) (hq : tmps.getD q undef = .pointer (some ⟨bq, 0, none⟩))
    (cp : w.cell? ⟨bp, 0, none⟩ = some vp) (cq : w.cell? ⟨bq, 0, none⟩ = some vq)
    (ap : ∀ w, (isAgg tp).run P w = .ok false w) (aq : ∀ w, (isAgg tq).run P w = .ok false w) :
    (results fn tmps).run P w = .ok (.tuple #[vp, vq]) w := by
  rw [Array.getD_eq_getD_getElem?] at hp hq
  simp only [results, h]
  simp [Sem.run_bind, Result.andThen, hp, hq, asAddr, loadVar_box cp ap, loadVar_box cq aq]
end Go.Proofs.YtknmhdkomjjneaaGreatDoor.Sq

/-
  seq's Scan: what the call returns and leaves.
-/

namespace Go.Proofs.YtknmhdkomjjneaaGreatDoor.Sq
open Go.RowKit Go.Shelf
attribute [local go_sem] Oper.semAt_some

theorem sg_lt {b : List UInt8} {t : Nat} : ∀ (k f : Nat) (p : Nat × Nat), p ∈ Sm.segs b t k f → p.1 < t
  | 0, f, p, h => by simp [Sm.segs] at h
  | k + 1, f, p, h => by
    rw [Sm.segs] at h
    split at h
    · rcases List.mem_cons.1 h with rfl | h
      · assumption
      · exact sg_lt k _ p h
    · cases h
def ScI (l : List UInt8) (n s bl n₀ : Nat) (wL : World) (pre : List (Bk n)) (W : World) : Prop :=
  ∃ A k c vs, Boxed W bl 27 (.slice A k c) ∧ Oc 2 W 63 n₀ A k c vs ∧ PsS W (Sc n₀ W A) vs (Sm.pcs l (pre.map (·.1))) ∧ But s (bl + 1) n₀ wL W ∧ n₀ ≤ W.heap.size ∧
    Boxed W s 27 (.slice none 0 0) ∧ Boxed W (s + 1) 3 (.int .i64 0) ∧ Boxed W (s + 1 + 1) 28 (.int .i64 0) ∧ ∀ p ∈ pre, (Sm.val l p.1).isSome = true
def ScX (l : List UInt8) (n s bl n₀ : Nat) (wL : World) (j : Code) (pre : List (Bk n)) (W : World) : Prop :=
  j = .ret ∧ ∃ A k c vs q, ∃ x : Bk n, pre = q ++ [x] ∧ Sm.val l x.1 = none ∧ (∀ p ∈ q, (Sm.val l p.1).isSome = true) ∧ Oc 2 W 63 n₀ A k c vs ∧ PsS W (Sc n₀ W A) vs (Sm.pcs l (q.map (·.1))) ∧ But s (bl + 1) n₀ wL W ∧ n₀ ≤ W.heap.size ∧
    Boxed W s 27 (.slice A k c) ∧ Boxed W (s + 1) 3 (.int .i64 (x.1.1 : Int)) ∧ Boxed W (s + 1 + 1) 28 (.int .i64 3)
theorem scI_own (l : List UInt8) (n s bl n₀ : Nat) (wL : World) (hlo : bl + 1 ≤ n₀) (hsb : s + 3 ≤ bl) : OwnFrom n₀ (ScI l n s bl n₀ wL) := by
  rintro pre W W' row ⟨A, k, c, vs, h1, h2, h3, h4, h5, h6, h7, h8, h9⟩ hg hr
  have hk : ∀ {b : Nat} {t : TypeId} {v : Value}, Boxed W b t v → b < n₀ → Boxed W' b t v := fun {b} _ _ h hb => h.kept hg (fun e => by have := (hr b e.symm).1; omega)
  exact ⟨A, k, c, vs, hk h1 (by omega), oc_turn h2 hg (fun r e => (hr r e).2), h3.keep (sc_turn hg fun r e => (hr r e).2), but_turn h4 hg (fun r e => (hr r e).1) h5, Nat.le_trans h5 hg.size, hk h6 (by omega), hk h7 (by omega), hk h8 (by omega), h9⟩
theorem scX_own (l : List UInt8) (n s bl n₀ : Nat) (wL : World) (hlo : bl + 1 ≤ n₀) (hsb : s + 3 ≤ bl) (j : Code) : OwnFrom n₀ (ScX l n s bl n₀ wL j) := by
  rintro pre W W' row ⟨hj, A, k, c, vs, q, x, g1, g2, g3, h2, h3, h4, h5, h6, h7, h8⟩ hg hr
  have hk : ∀ {b : Nat} {t : TypeId} {v : Value}, Boxed W b t v → b < n₀ → Boxed W' b t v := fun {b} _ _ h hb => h.kept hg (fun e => by have := (hr b e.symm).1; omega)
  exact ⟨hj, A, k, c, vs, q, x, g1, g2, g3, oc_turn h2 hg (fun r e => (hr r e).2), h3.keep (sc_turn hg fun r e => (hr r e).2), but_turn h4 hg (fun r e => (hr r e).1) h5, Nat.le_trans h5 hg.size, hk h6 (by omega), hk h7 (by omega), hk h8 (by omega)⟩

def RetSc (w : World) (l : List UInt8) (e : Ending) (w' : World) : Prop :=
  ∃ A c, e = .returned (.tuple #[.slice A (Sm.ps l).1.length c, .int .i64 ((Sm.ps l).2 : Int), .int .i64 (Sm.er l : Int)]) ∧ PLS w' (Fr w.heap.size w') A (Sm.ps l).1.length c (Sm.ps l).1 ∧ Below w.heap.size w w'

set_option maxRecDepth 100000 in
set_option maxHeartbeats 4000000 in
theorem scan_c (A : Option Addr) (n c : Nat) (l : List UInt8) (w : World) (hr : Rb w w.heap.size A n c l) (hn : n ≤ 900000) (hx : Mx w) :
    Calls Tryz.prog 100 #[.slice A n c] w (RetSc w l) := by
  have hl := hr.len
  have hw0 := hx.2
  obtain ⟨w1, hw1⟩ : ∃ w1, w1 = ((w.alloc (.cells #[.slice none 0 0] 27)).alloc (.cells #[.int .i64 0] 3)).alloc (.cells #[.int .i64 0] 28) := ⟨_, rfl⟩
  have z1 : w1.heap.size = w.heap.size + 1 + 1 + 1 := by rw [hw1]; simp
  have b1 : Below w.heap.size w w1 := by rw [hw1]; exact (((Below.refl _ _).alloc (Nat.le_refl _) _).alloc (by simp) _).alloc (by simp; omega) _
  have c1 : Boxed w1 w.heap.size 27 (.slice none 0 0) := by rw [hw1]; exact ((Boxed.new w _ _).alloc _).alloc _
  have c2 : Boxed w1 (w.heap.size + 1) 3 (.int .i64 0) := by
    rw [hw1]
    have := (Boxed.new (w.alloc (.cells #[.slice none 0 0] 27)) 3 (.int .i64 0)).alloc (.cells #[.int .i64 0] 28)
    rwa [World.size_alloc] at this
  have c3 : Boxed w1 (w.heap.size + 1 + 1) 28 (.int .i64 0) := by
    rw [hw1]
    have := Boxed.new ((w.alloc (.cells #[.slice none 0 0] 27)).alloc (.cells #[.int .i64 0] 3)) 28 (.int .i64 0)
    rwa [World.size_alloc, World.size_alloc] at this
  obtain ⟨w2, hw2⟩ : ∃ w2, w2 = w1.alloc (.cells #[.int .u8 84, .int .u8 83, .int .u8 81, .int .u8 49] 5 (4, 5)) := ⟨_, rfl⟩
  have z2 : w2.heap.size = w1.heap.size + 1 := by rw [hw2]; simp
  have b2 : Below w1.heap.size w1 w2 := by rw [hw2]; exact (Below.refl _ _).alloc (Nat.le_refl _) _
  have hlit : Rb w2 (w1.heap.size + 1) (some ⟨w1.heap.size, 0, none⟩) 4 4 Sm.hd := by rw [hw2]; exact Rb.lit w1 _ _ _ _ 4 rfl rfl (by omega)
  have hcv : (convert 22 22 (.slice (some ⟨w1.heap.size, 0, none⟩) 4 4)).run Tryz.prog (w1.alloc (.cells #[.int .u8 84, .int .u8 83, .int .u8 81, .int .u8 49] 5)) = .ok (.slice (some ⟨w1.heap.size, 0, none⟩) 4 4) w2 := by
    rw [hw2]; exact Lib.run_convert_bytes_const (P := Tryz.prog) w1 22 5 #[.int .u8 84, .int .u8 83, .int .u8 81, .int .u8 49] 4 4 Tryz.underlying22 Tryz.underlying5
  rw [z1] at hlit hcv
  rw [hw1] at hcv
  have q2 : w.heap.size + 4 ≤ w2.heap.size := by omega
  have b02 : Below w.heap.size w w2 := b1.trans (b2.mono (by omega))
  have hpre := hasp_c A (some ⟨w.heap.size + 1 + 1 + 1, 0, none⟩) n c 4 4 _ _ l Sm.hd w2 (hr.below b02) hlit (decide (l.take 4 = Sm.hd)) rfl
  have Hr := Lib.hid hr; have Hx := Lib.hid hx; have Hl := Lib.hid hl; have B02 := Lib.hid b02; have C1 := Lib.hid (boxed_below c1 b2 (by omega)); have C2 := Lib.hid (boxed_below c2 b2 (by omega)); have C3 := Lib.hid (boxed_below c3 b2 (by omega))
  clear hr hx hl b1 b2 b02 hlit hw1 hw2 c1 c2 c3 z1 z2
  by_cases hhd : l.take 4 = Sm.hd
  · rw [decide_eq_true hhd] at hpre
    have Hpre := Lib.hid hpre; clear hpre
    refine (callsIn_wide (n := 9)).1 ?_
    refine callsIn_of_wp_marks Tryz.func100 rfl trivial ?_ rfl
    simp only [Tryz.ntmps100, List.size_toArray, List.length_cons, List.length_nil, Nat.reduceAdd, Nat.reduceSub, Array.replicate_succ, Array.replicate_zero, List.push_toArray, List.append_toArray, List.nil_append, List.cons_append]
    gi_wp2_with (refine ⟨trivial, ?_⟩; gi_at_call 123; refine (callsIn_wide.2 Hpre.out).mono ?_; rintro e w3 ⟨rfl, rfl⟩)
    obtain ⟨w3, hw3⟩ : ∃ w3, w3 = w2.alloc (.cells #[.slice none 0 0] 27) := ⟨_, rfl⟩
    have b23 : Below w2.heap.size w2 w3 := by rw [hw3]; exact (Below.refl _ _).alloc (Nat.le_refl _) _
    have z3 : w3.heap.size = w2.heap.size + 1 := by rw [hw3]; simp
    have hl3 : Boxed w3 w2.heap.size 27 (.slice none 0 0) := by rw [hw3]; exact Boxed.new w2 _ _
    rw [← hw3]
    clear hw3 hcv
    refine ⟨trivial, (callsIn_wide.2 (table_c w3)).mono ?_⟩
    rintro e w4 ⟨rfl, ht4, hb4, hz4⟩
    have HL3 := Lib.hid (boxed_below hl3 hb4 (by omega))
    rw [z3] at ht4 hb4
    rw [z3]
    have HT4 := Lib.hid ht4; have HB4 := Lib.hid hb4
    clear hl3 ht4
    have q4 : w2.heap.size + 1 < w4.heap.size := by omega
    clear hz4 z3 hb4
    gi_wp2
    obtain ⟨w5, hw5⟩ : ∃ w5, w5 = w4.alloc (.cells #[.slice (some ⟨w2.heap.size + 1, 0, none⟩) 256 256] 145) := ⟨_, rfl⟩
    have ht5 : Boxed w5 w4.heap.size 145 (.slice (some ⟨w2.heap.size + 1, 0, none⟩) 256 256) := by rw [hw5]; exact Boxed.new w4 _ _
    have b45 : Below w4.heap.size w4 w5 := by rw [hw5]; exact (Below.refl _ _).alloc (Nat.le_refl _) _
    have z5 : w5.heap.size = w4.heap.size + 1 := by rw [hw5]; simp
    rw [← hw5]
    clear hw5
    refine ⟨trivial, (callsIn_wide.2 (blocks_c A n c 4 (n : Int) w5)).mono ?_⟩
    rintro e w6 ⟨rfl, hw6⟩
    have z6 : w6.heap.size = w5.heap.size + 3 := by rw [hw6]; simp
    have b56 : Below w5.heap.size w5 w6 := by rw [hw6]; exact (((Below.refl _ _).alloc (Nat.le_refl _) _).alloc (by simp) _).alloc (by simp; omega) _
    have hBb : w6.cell? ⟨w5.heap.size, 0, none⟩ = some (.slice A n c) := by
      rw [hw6, World.cell?_alloc_lt _ _ _ (by simp; omega), World.cell?_alloc_lt _ _ _ (by simp)]; simp
    have hBf : w6.cell? ⟨w5.heap.size + 1, 0, none⟩ = some (.int .i64 ((4 : Nat) : Int)) := by
      rw [hw6, World.cell?_alloc_lt _ _ _ (by simp)]
      have := (Boxed.new (w5.alloc (.cells #[.slice A n c] 22)) 3 (.int .i64 4)).cell
      rwa [World.size_alloc] at this
    have hBt : w6.cell? ⟨w5.heap.size + 2, 0, none⟩ = some (.int .i64 (n : Int)) := by
      rw [hw6]
      have := (Boxed.new ((w5.alloc (.cells #[.slice A n c] 22)).alloc (.cells #[.int .i64 4] 3)) 3 (.int .i64 (n : Int))).cell
      rwa [World.size_alloc, World.size_alloc] at this
    clear hw6
    have b26 : Below (w2.heap.size + 1) w4 w6 := (b45.trans (b56.mono (by omega))).mono (by omega)
    have b46 : Below w4.heap.size w4 w6 := b45.trans (b56.mono (by omega))
    have b36 : Below (w2.heap.size + 1) w3 w6 := HB4.out.trans b26
    have b06 : Below w.heap.size w w6 := (B02.out.trans (b23.mono (by omega))).trans (b36.mono (by omega))
    have hl6 : Boxed w6 w2.heap.size 27 (.slice none 0 0) := boxed_below HL3.out b46 (by omega)
    have ht6 : Boxed w6 w4.heap.size 145 (.slice (some ⟨w2.heap.size + 1, 0, none⟩) 256 256) := boxed_below ht5 b56 (by omega)
    have hT6 : Rn w6 w4.heap.size (some ⟨w2.heap.size + 1, 0, none⟩) 256 256 Cm.tab := HT4.out.below b46
    have b2to6 : Below w2.heap.size w2 w6 := b23.trans (b36.mono (by omega))
    have c1 := boxed_below C1.out b2to6 (by omega)
    have c2 := boxed_below C2.out b2to6 (by omega)
    have c3 := boxed_below C3.out b2to6 (by omega)
    have hr6 := Hr.out.below b06
    have hx6 := Hx.out.below' b06
    have q6 : w5.heap.size + 3 ≤ w6.heap.size := by omega
    have q5 : w4.heap.size + 1 ≤ w5.heap.size := by omega
    clear z6 z5 b56 b45 b23 b2to6
    gi_wp2
    refine wpIn_rangeFunc_ownG rfl (by omega) (gf := 151) (lb := #[.pointer (some ⟨w5.heap.size + 1, 0, none⟩), .pointer (some ⟨w5.heap.size + 2, 0, none⟩), .pointer (some ⟨w5.heap.size, 0, none⟩)]) rfl trivial
      (enters_of Tryz.func151 (by kernel_rfl) rfl)
      (blocks_stops A n c l 4 n w.heap.size (w2.heap.size + 1) w6 hr6 (by omega) hx6 hw0 (w5.heap.size + 1) (w5.heap.size + 2) w5.heap.size ⟨hBf, by omega, by omega⟩ ⟨hBt, by omega, by omega⟩ ⟨hBb, by omega, by omega⟩ (by omega) (Nat.le_refl _) 7)
      (fun h k => h.trans k) (fun W L o o' h1 h2 _ _ => but_put h1 h2) (Below.refl _ _) (fun _ => rfl)
      (ScI l n w.heap.size w2.heap.size w6.heap.size w6) (ScX l n w.heap.size w2.heap.size w6.heap.size w6) (scI_own l n _ _ _ w6 (by omega) (by omega)) (scX_own l n _ _ _ w6 (by omega) (by omega))
      ⟨none, 0, 0, [], hl6, Oc.nil _ _ _ _, PsS.nil, But.refl _, Nat.le_refl _, c1, c2, c3, fun p hp => by cases hp⟩
      (fun x => { tmps := #[.slice A n c, undef, .pointer (some ⟨w.heap.size, 0, none⟩), .pointer (some ⟨w.heap.size + 1, 0, none⟩), .pointer (some ⟨w.heap.size + 1 + 1, 0, none⟩), .pointer (some ⟨w2.heap.size, 0, none⟩), .pointer (some ⟨w4.heap.size, 0, none⟩),
        .int .i64 (x.1.1 : Int), .slice (cutA A c x.1.1) (x.1.2 - x.1.1) (c - x.1.1), undef, undef, .slice A n c, .slice (some ⟨w.heap.size + 1 + 1 + 1, 0, none⟩) 4 4, .slice (some ⟨w.heap.size + 1 + 1 + 1, 0, none⟩) 4 4, .bool true, .bool false,
        .slice (some ⟨w2.heap.size + 1, 0, none⟩) 256 256, .slice A n c, .slice A n c, .int .i64 (n : Int),
        .func (.func 151) #[] #[.pointer (some ⟨w5.heap.size + 1, 0, none⟩), .pointer (some ⟨w5.heap.size + 2, 0, none⟩), .pointer (some ⟨w5.heap.size, 0, none⟩)], .int .i64 (x.1.1 : Int), .slice (cutA A c x.1.1) (x.1.2 - x.1.1) (c - x.1.1),
        undef, undef, undef, undef, undef, undef, undef, undef, undef, undef, undef, undef, undef, undef, undef, undef, undef, undef, undef], defers := [] }) ?assign ?body ?done ?stop
    case assign =>
      intro L x W K hK
      simp only [encB]
      gi_wp2
      exact hK
    case body =>
      rintro L pre x W ⟨A2, k2, c2, vs, hbx, hoc, hps, hbut, hsz, r1, r2, r3, hall⟩ hlen
      have hbel : Below w.heap.size w W := b06.trans (hbut.below (by omega))
      have hrW := ((Hr.out.below hbel).midE x.2.1 x.2.2).more (B' := W.heap.size) hbel.size
      have hTW := (hT6.other (hbut.block (w2.heap.size + 1) (by omega) (by omega))).more (B' := W.heap.size) (by omega)
      have hrc := records_c (some ⟨w2.heap.size + 1, 0, none⟩) 256 (cutA A c x.1.1) (x.1.2 - x.1.1) (c - x.1.1) ((l.take x.1.2).drop x.1.1) W hTW hrW (by have := x.2.2; omega)
      have hct := (boxed_but ht6 hbut (by omega) (by omega)).cell
      have hkb : k2 ≤ n + 1 := by
        have h1 := hps.1
        have h2 := hoc.1
        have h3 : (Sm.pcs l (pre.map (·.1))).length = pre.length := by simp [Sm.pcs]
        omega
      have e : Sm.blk ((l.take x.1.2).drop x.1.1) = Sm.val l x.1 := rfl
      rw [e] at hrc
      rcases hval : Sm.val l x.1 with _ | rs
      · rw [hval] at hrc
        have Hrc := Lib.hid hrc; have Hval := Lib.hid hval; have Hbx := Lib.hid hbx; have Hoc := Lib.hid hoc; have Hps := Lib.hid hps; have R1 := Lib.hid r1; have R2 := Lib.hid r2; have R3 := Lib.hid r3; clear hrc hval hrW hTW hbx hoc hps r1 r2 r3
        gi_wp2_with (refine ⟨trivial, ?_⟩; gi_at_call 126; refine (CallsIn.inRound L (callsIn_wide.2 Hrc.out)).mono ?_; rintro e w7 ⟨hb7, A6, k6, c6, o6, rfl, rfl⟩; have hl7 := (boxed_below Hbx.out hb7 (by omega)).cell; have g1 := boxed_below R1.out hb7 (by omega); have g2 := boxed_below R2.out hb7 (by omega); have g3 := boxed_below R3.out hb7 (by omega); have g1c := g1.cell; have g1f := g1.frozen; have g2c := g2.cell; have g2f := g2.frozen; have g3c := g3.cell; have g3f := g3.frozen)
        have s1 : ∀ v, Stays w7 (w7.setCell ⟨w.heap.size, 0, none⟩ v) (Sf w6.heap.size w7 A2) (Sf w6.heap.size (w7.setCell ⟨w.heap.size, 0, none⟩ v) A2) := fun v => sf_low (by omega) v
        have hps7 := (Hps.out.keep (stays_weak sc_sf)).keep (sf_below hb7)
        have ho7 := Hoc.out.keep hb7
        refine ⟨(((keeps_of_below hb7 _).trans ((KeepsOthers.setCell _ _ _).from _)).trans ((KeepsOthers.setCell _ _ _).from _)).trans ((KeepsOthers.setCell _ _ _).from _), rfl, A2, k2, c2, vs, pre, x, rfl, Hval.out, hall,
          oc_low (oc_low (oc_low ho7 (by omega) _) (by omega) _) (by omega) _, (((hps7.keep (sf_low (by omega) _)).keep (sf_low (by omega) _)).keep (sf_low (by omega) _)).cells, ?_, by have := hb7.size; simp; omega,
          ((g1.set _).other (by omega) _).other (by omega) _, ((g2.other (by omega) _).set _).other (by omega) _, ((g3.other (by omega) _).other (by omega) _).set _⟩
        exact hbut.trans ((((but_of hb7 hsz).trans (But.set w7 (by omega) _)).trans (But.set _ (by omega) _)).trans (But.set _ (by omega) _))
      · rw [hval] at hrc
        have Hrc := Lib.hid hrc; have Hval := Lib.hid hval; have Hbx := Lib.hid hbx; have Hoc := Lib.hid hoc; have Hps := Lib.hid hps; have R1 := Lib.hid r1; have R2 := Lib.hid r2; have R3 := Lib.hid r3; clear hrc hval hrW hTW hbx hoc hps r1 r2 r3 e
        gi_wp2_with (first
          | (refine ⟨trivial, ?_⟩; gi_at_call 126; refine (CallsIn.inRound L (callsIn_wide.2 Hrc.out)).mono ?_; rintro e w7 ⟨hb7, A6, k6, c6, o6, rfl, rfl, rfl, hrl7⟩; have hl7 := (boxed_below Hbx.out hb7 (by omega)).cell; have Hrl7 := Lib.hid hrl7; have Hoc7 := Lib.hid (Hoc.out.keep hb7); have z7 := hb7.size; clear hrl7)
          | (gi_at_builtin; refine pty.wpInApp rfl (.tmp 33) (.tmp 37) rfl (n := k2) (m := 1) (N := k2 + 1) (us := [.int .i64 (x.1.1 : Int), .slice A6 rs.length c6]) (ws := vs ++ [.int .i64 (x.1.1 : Int), .slice A6 rs.length c6]) rfl rfl (Hoc7.out.alloc _) (Rc.lit (z := 2) w7 63 #[.int .i64 (x.1.1 : Int), .slice A6 rs.length c6] 1 rfl (by simp [maxLen])) (by intro v hv; simp at hv; rcases hv with rfl | rfl <;> rfl) rfl rfl (by omega) (by omega) (by simp; omega) ?_; intro A8 c8 w8 ho8 hg8; have hB8 : Boxed w8 w2.heap.size 27 (.slice A2 k2 c2) := (hg8.1.block w2.heap.size (by simp; omega) (fun e => by have := (oc_ob Hoc7.out w2.heap.size e.symm).1; omega)).trans ((boxed_below Hbx.out hb7 (by omega)).alloc _); have hl8 := hB8.cell; have hf8 := hB8.frozen))
        obtain ⟨w7a, hw7a⟩ : ∃ w7a, w7a = w7.alloc (.cells #[.int .i64 (x.1.1 : Int), .slice A6 rs.length c6] 63) := ⟨_, rfl⟩
        rw [← hw7a] at hg8
        have b7a : Below w7.heap.size w7 w7a := by rw [hw7a]; exact (Below.refl _ _).alloc (Nat.le_refl _) _
        have z7a : w7.heap.size ≤ w7a.heap.size := b7a.size
        have ho7a : Oc 2 w7a 63 w6.heap.size A2 k2 c2 vs := by rw [hw7a]; exact Hoc7.out.alloc _
        have hbW : Below W.heap.size W w7a := hb7.trans (b7a.mono z7)
        have hsf : PsS w8 (Sf w6.heap.size w8 A8) (vs ++ [.int .i64 (x.1.1 : Int), .slice A6 rs.length c6]) (Sm.pcs l (pre.map (·.1)) ++ [(x.1.1, rs)]) := by
          have h1 := (Hps.out.keep (stays_weak sc_sf)).keep (sf_below hbW)
          have h2 := (Hrl7.out.keep (S' := Sf w6.heap.size w7 A2) (stays_weak fun b hb => ⟨by have := hb.1; omega, hb.2, fun e => by have := (oc_ob Hoc.out b e.symm).2; have := hb.1; omega⟩)).keep (sf_below b7a)
          have h3 : PrS w7a (Sf w6.heap.size w7a A2) (.int .i64 (x.1.1 : Int)) (.slice A6 rs.length c6) (x.1.1, rs) := ⟨rfl, A6, rs.length, c6, rfl, h2⟩
          exact (h1.snoc h3).keep (sf_grow hg8)
        have hk8 : KeepsFrom w6.heap.size W w8 := (keeps_of_below hbW _).trans (keeps_grow hg8 ho7a _)
        have hb8 : But w.heap.size (w2.heap.size + 1) w6.heap.size W w8 := (but_of hbW hsz).trans (but_grow hg8 (fun g hg => (oc_ob ho7a g hg).1) (Nat.le_refl _) (by omega))
        have hsv : But w.heap.size (w2.heap.size + 1) w6.heap.size W (w8.setCell ⟨w2.heap.size, 0, none⟩ (.slice A8 (k2 + 1) c8)) := hb8.trans (But.set w8 (by omega) _)
        have hgo : ∀ {b : Nat} {tt : TypeId} {v : Value}, Boxed W b tt v → b < w2.heap.size → Boxed w8 b tt v := fun {b} _ _ h hb => (hg8.1.block b (by omega) (fun e => by have := (oc_ob ho7a b e.symm).1; omega)).trans (boxed_below h hbW (by omega))
        refine ⟨hk8.trans ((KeepsOthers.setCell w8 ⟨w2.heap.size, 0, none⟩ (.slice A8 (k2 + 1) c8)).from _), hsv, A8, k2 + 1, c8, _, hB8.set _, oc_low ho8 (by omega) _, ?_, hbut.trans hsv, by have := hg8.size; simp; omega,
          (hgo R1.out (by omega)).other (by omega) _, (hgo R2.out (by omega)).other (by omega) _, (hgo R3.out (by omega)).other (by omega) _, fun p hp => ?_⟩
        · have h3 := (hsf.keep (sf_low (lo := w2.heap.size) (by omega) (.slice A8 (k2 + 1) c8))).cells
          have e1 : Sm.pcs l ((pre ++ [x]).map (·.1)) = Sm.pcs l (pre.map (·.1)) ++ [(x.1.1, rs)] := by simp [Sm.pcs, Hval.out]
          rw [e1]
          exact h3
        · rcases List.mem_append.1 hp with hp | hp
          · exact hall p hp
          · simp at hp; subst hp; rw [Hval.out]; rfl
    case done =>
      rintro D xs W hD hS ⟨A2, k2, c2, vs, hbx, hoc, hps, hbut, hsz, r1, r2, r3, hall⟩ hK
      have hl2 := hbx.cell
      have g1c := r1.cell
      have g1f := r1.frozen
      have g2c := r2.cell
      have g2f := r2.frozen
      have g3c := r3.cell
      have g3f := r3.frozen
      rw [hS] at hps
      have hrun : Sm.ps l = (Sm.pcs l (Sm.sg l 4 n), n) := by
        rw [Sm.ps_head hhd, Hl.out, Sm.run_all l _ (fun p hp => by
          rw [← hS] at hp
          obtain ⟨q, hq, rfl⟩ := List.mem_map.1 hp
          exact hall q hq), Hl.out]
      have her : Sm.er l = 0 := by unfold Sm.er; rw [if_pos ⟨hhd, by rw [hrun, Hl.out]⟩]
      have hk2 : k2 = (Sm.pcs l (Sm.sg l 4 n)).length := by have h1 := hps.1; have h2 := hoc.1; omega
      have Hk2 := Lib.hid hk2; have Hrun := Lib.hid hrun; have Her := Lib.hid her; clear hk2 hrun her
      gi_wp2
      obtain ⟨W3, hW3⟩ : ∃ W3, W3 = ((W.setCell ⟨w.heap.size, 0, none⟩ (.slice A2 k2 c2)).setCell ⟨w.heap.size + 1, 0, none⟩ (.int .i64 (n : Int))).setCell ⟨w.heap.size + 1 + 1, 0, none⟩ (.int .i64 0) := ⟨_, rfl⟩
      have hK3 : W3.heap[D]? = some (.deferred (some [])) := by
        rw [hW3]
        exact (((KeepsOthers.setCell W ⟨w.heap.size, 0, none⟩ (.slice A2 k2 c2)).trans (KeepsOthers.setCell _ _ _)).trans (KeepsOthers.setCell _ _ _)).same D _ hK rfl
      have g1 : Boxed W3 w.heap.size 27 (.slice A2 k2 c2) := by rw [hW3]; exact ((r1.set _).other (by omega) _).other (by omega) _
      have g2 : Boxed W3 (w.heap.size + 1) 3 (.int .i64 (n : Int)) := by rw [hW3]; exact ((r2.other (by omega) _).set _).other (by omega) _
      have g3 : Boxed W3 (w.heap.size + 1 + 1) 28 (.int .i64 0) := by rw [hW3]; exact ((r3.other (by omega) _).other (by omega) _).set _
      have ho3 : Oc 2 W3 63 w6.heap.size A2 k2 c2 vs := by rw [hW3]; exact oc_low (oc_low (oc_low hoc (by omega) _) (by omega) _) (by omega) _
      have hp3 : PsS W3 (Sc w6.heap.size W3 A2) vs (Sm.pcs l (Sm.sg l 4 n)) := by
        rw [hW3]
        exact ((((hps.keep (stays_weak sc_sf)).keep (sf_low (by omega) _)).keep (sf_low (by omega) _)).keep (sf_low (by omega) _)).cells
      have hb3 : But w.heap.size (w2.heap.size + 1) w6.heap.size w6 W3 := by
        rw [hW3]
        exact hbut.trans (((But.set W (by omega) _).trans (But.set _ (by omega) _)).trans (But.set _ (by omega) _))
      rw [← hW3]
      have hg := grownBy_putObj' W3 D (.deferred none)
      have hnc : ∀ r, some D = some r → ∃ o : Obj, W3.heap[r]? = some o ∧ o.isCells = false := fun r e => by cases e; exact ⟨_, hK3, rfl⟩
      have hne : ∀ b, b < w6.heap.size → some b ≠ some D := fun b hb e => by cases e; omega
      refine ⟨by simp, .inl ⟨_, _, rfl, run_takeDeferred hK3, ?_⟩⟩
      refine ⟨_, results_cells3 rfl rfl rfl rfl (g1.kept hg (hne _ (by omega))).cell (g2.kept hg (hne _ (by omega))).cell (g3.kept hg (hne _ (by omega))).cell Tryz.isAgg27 Tryz.isAgg3 Tryz.isAgg28, A2, c2, ?_, ?_, ?_⟩
      · rw [Hrun.out, Her.out, Hk2.out]; rfl
      · rw [Hrun.out]
        dsimp only
        rw [← Hk2.out]
        exact ⟨vs, (oc_turn ho3 hg hnc).rcS.keep (stays_weak fun b hb => ⟨by have := hb.1; omega, hb.2⟩), (hp3.keep (sc_turn hg hnc)).keep (stays_weak fun b hb => ⟨by have := hb.1.1; omega, hb.1.2.1⟩)⟩
      · exact (b06.trans (hb3.below (by omega))).trans ((but_put (lo := w.heap.size) (hi := w2.heap.size + 1) (o' := .deferred none) hD hK3).below (by omega))
    case stop =>
      rintro D j pre W hD hpre ⟨rfl, A2, k2, c2, vs, q, x, rfl, hx, hall, hoc, hps, hbut, hsz, r1, r2, r3⟩ hK
      obtain ⟨rest, hrest⟩ := hpre
      rw [List.map_append, List.map_cons, List.map_nil, List.append_assoc] at hrest
      have hall2 : ∀ p ∈ q.map (·.1), (Sm.val l p).isSome = true := fun p hp => by
        obtain ⟨y, hy, rfl⟩ := List.mem_map.1 hp
        exact hall y hy
      have hrun : Sm.ps l = (Sm.pcs l (q.map (·.1)), x.1.1) := by
        rw [Sm.ps_head hhd, Hl.out, ← hrest]
        exact Sm.run_stop l _ _ _ hall2 hx
      have hxn : x.1.1 < n := sg_lt (b := l) (t := n) _ _ x.1 (show x.1 ∈ Sm.sg l 4 n by rw [← hrest]; simp)
      have her : Sm.er l = 3 := by unfold Sm.er; rw [if_neg (fun e => by have := e.2; rw [hrun, Hl.out] at this; dsimp only at this; omega)]
      have hk2 : k2 = (Sm.pcs l (q.map (·.1))).length := by have h1 := hps.1; have h2 := hoc.1; omega
      have Hk2 := Lib.hid hk2; have Hrun := Lib.hid hrun; have Her := Lib.hid her; clear hk2 hrun her hrest
      gi_wp2
      have hg := grownBy_putObj' W D (.deferred none)
      have hnc : ∀ r, some D = some r → ∃ o : Obj, W.heap[r]? = some o ∧ o.isCells = false := fun r e => by cases e; exact ⟨_, hK, rfl⟩
      have hne : ∀ b, b < w6.heap.size → some b ≠ some D := fun b hb e => by cases e; omega
      refine ⟨by simp, .inl ⟨_, _, rfl, run_takeDeferred hK, ?_⟩⟩
      refine ⟨_, results_cells3 rfl rfl rfl rfl (r1.kept hg (hne _ (by omega))).cell (r2.kept hg (hne _ (by omega))).cell (r3.kept hg (hne _ (by omega))).cell Tryz.isAgg27 Tryz.isAgg3 Tryz.isAgg28, A2, c2, ?_, ?_, ?_⟩
      · rw [Hrun.out, Her.out, Hk2.out]; rfl
      · rw [Hrun.out]
        dsimp only
        rw [← Hk2.out]
        exact ⟨vs, (oc_turn hoc hg hnc).rcS.keep (stays_weak fun b hb => ⟨by have := hb.1; omega, hb.2⟩), (hps.keep (sc_turn hg hnc)).keep (stays_weak fun b hb => ⟨by have := hb.1.1; omega, hb.1.2.1⟩)⟩
      · exact (b06.trans (hbut.below (by omega))).trans ((but_put (lo := w.heap.size) (hi := w2.heap.size + 1) (o' := .deferred none) hD hK).below (by omega))
  · rw [decide_eq_false hhd] at hpre
    have Hpre := Lib.hid hpre; clear hpre
    have e1 : Sm.ps l = ([], 0) := Sm.ps_not hhd
    have e2 : Sm.er l = 3 := Sm.er_not hhd
    have g1c := C1.out.cell
    have g1f := C1.out.frozen
    have g2c := C2.out.cell
    have g2f := C2.out.frozen
    have g3c := C3.out.cell
    have g3f := C3.out.frozen
    refine (callsIn_wide (n := 9)).1 ?_
    refine callsIn_of_wp_marks Tryz.func100 rfl trivial ?_ rfl
    simp only [Tryz.ntmps100, List.size_toArray, List.length_cons, List.length_nil, Nat.reduceAdd, Nat.reduceSub, Array.replicate_succ, Array.replicate_zero, List.push_toArray, List.append_toArray, List.nil_append, List.cons_append]
    gi_wp2_with (refine ⟨trivial, ?_⟩; gi_at_call 123; refine (callsIn_wide.2 Hpre.out).mono ?_; rintro e w3 ⟨rfl, rfl⟩)
    have k1 : Boxed (((w2.setCell ⟨w.heap.size, 0, none⟩ (.slice none 0 0)).setCell ⟨w.heap.size + 1, 0, none⟩ (.int .i64 0)).setCell ⟨w.heap.size + 1 + 1, 0, none⟩ (.int .i64 3)) w.heap.size 27 (.slice none 0 0) := ((C1.out.set _).other (by omega) _).other (by omega) _
    have k2 : Boxed (((w2.setCell ⟨w.heap.size, 0, none⟩ (.slice none 0 0)).setCell ⟨w.heap.size + 1, 0, none⟩ (.int .i64 0)).setCell ⟨w.heap.size + 1 + 1, 0, none⟩ (.int .i64 3)) (w.heap.size + 1) 3 (.int .i64 0) := ((C2.out.other (by omega) _).set _).other (by omega) _
    have k3 : Boxed (((w2.setCell ⟨w.heap.size, 0, none⟩ (.slice none 0 0)).setCell ⟨w.heap.size + 1, 0, none⟩ (.int .i64 0)).setCell ⟨w.heap.size + 1 + 1, 0, none⟩ (.int .i64 3)) (w.heap.size + 1 + 1) 28 (.int .i64 3) := ((C3.out.other (by omega) _).other (by omega) _).set _
    refine ⟨_, results_cells3 rfl rfl rfl rfl k1.cell k2.cell k3.cell Tryz.isAgg27 Tryz.isAgg3 Tryz.isAgg28, none, 0, ?_, ?_, ?_⟩
    · rw [e1, e2]; rfl
    · rw [e1]; exact PLS.nil
    · exact ((B02.out.setCell (p := ⟨w.heap.size, 0, none⟩) (Nat.le_refl _) _).setCell (p := ⟨w.heap.size + 1, 0, none⟩) (by show w.heap.size ≤ w.heap.size + 1; omega) _).setCell (p := ⟨w.heap.size + 1 + 1, 0, none⟩) (by show w.heap.size ≤ w.heap.size + 1 + 1; omega) _
end Go.Proofs.YtknmhdkomjjneaaGreatDoor.Sq

/-
  seq's addBlock: what the call returns and leaves.
-/

namespace Go.Proofs.YtknmhdkomjjneaaGreatDoor.Sq
open Go.RowKit

theorem alls_next {α : Type} (p : α → Bool) (l : List α) (k : Nat) (r : α) (h : l[k]? = some r) (hr : p r = true) (ha : (l.take k).all p = true) : (l.take (k + 1)).all p = true := by
  rw [List.take_add_one, h, List.all_append, ha]
  simp [hr]
theorem alls_not {α : Type} (p : α → Bool) (l : List α) (k : Nat) (r : α) (h : l[k]? = some r) (hr : p r = false) : l.all p = false := by
  rw [List.all_eq_false]
  exact ⟨r, List.mem_of_getElem? h, by simp [hr]⟩
def short (s : List UInt8) : Bool := decide (s.length ≤ 1000)
theorem okR_no2 {r : Sm.R} (h : r.length ≠ 2) : Sm.okR r = false := by unfold Sm.okR; simp [h]
theorem okR_long {r : Sm.R} (h : r.all short = false) : Sm.okR r = false := by unfold Sm.okR; rw [show (r.all fun s => decide (s.length ≤ 1000)) = r.all short from rfl, h]; simp
theorem okR_yes {r : Sm.R} (h2 : r.length = 2) (h : r.all short = true) : Sm.okR r = true := by unfold Sm.okR; rw [show (r.all fun s => decide (s.length ≤ 1000)) = r.all short from rfl, h]; simp [h2]

set_option maxRecDepth 100000 in
set_option maxHeartbeats 1000000 in
theorem may_c (A : Option Addr) (n c B : Nat) (l : List Sm.R) (w : World) (hr : RL w B A n c l) (o : Bool) (ho : o = l.all Sm.okR) :
    Calls Tryz.prog 128 #[.slice A n c] w fun e w' => e = .returned (.bool o) ∧ w = w' := by
  have hl := hr.len
  have hn : n ≤ 9223372036854775807 := by obtain ⟨vs, h1, _⟩ := hr; have h2 := h1.2.1; have h3 := h1.2.2.1; unfold maxLen at h3; omega
  have Hr := Lib.hid hr; have Hl := Lib.hid hl; have Ho := Lib.hid ho; clear hr hl ho
  go_enter Tryz.func128, Tryz.ntmps128
  go_wp2
  go_loop [9] (fun t => ∃ k : Nat, t = .int .i64 (k : Int) ∧ k ≤ n ∧ Hid ((l.take k).all Sm.okR = true)) (fun t => n - (intOf t).toNat)
  case atStart => exact ⟨0, rfl, Nat.zero_le _, Lib.hid rfl⟩
  case round =>
    obtain ⟨k, rfl, hk, HA⟩ := hrel
    by_cases hlt : k < n
    · obtain ⟨b, off, D, m, d, r, rfl, hb, hc, hx, _, hrr⟩ := Hr.out.at_ hlt
      have hm := lvs_num hrr
      have hm2 : m ≤ 9223372036854775807 := by have h2 := hrr.2.1; have h3 := hrr.2.2.1; unfold maxLen at h3; omega
      by_cases h2 : m = 2
      · have h2a : ((m : Int) != 2) = false := by simp; omega
        have h2b : ((m : Int) == 2) = true := by simp; omega
        have HX := Lib.hid hx; have HRR := Lib.hid hrr; have HM := Lib.hid hm; clear hx hrr hm
        go_wp2
        go_loop [18] (fun t => ∃ j : Nat, t = .int .i64 (j : Int) ∧ j ≤ m ∧ Hid ((r.take j).all short = true)) (fun t => m - (intOf t).toNat)
        case atStart => exact ⟨0, rfl, Nat.zero_le _, Lib.hid rfl⟩
        case round =>
          obtain ⟨j, rfl, hj, HB⟩ := hrel
          by_cases hjt : j < m
          · obtain ⟨b2, off2, x, rfl, hb2, hcx, hx2, _⟩ := lvs_at HRR.out hjt
            have HX2 := Lib.hid hx2; clear hx2
            by_cases hbig : (1000 : Int) < (x.length : Int)
            · have ho' : o = false := by
                rw [Ho.out]
                exact alls_not _ l k r HX.out (okR_long (alls_not _ r j x HX2.out (by unfold short; simp; omega)))
              subst ho'
              go_wp2
              go_ret
              exact ⟨rfl, rfl⟩
            · go_wp2
              go_round
              case rel => exact ⟨j + 1, by go_num, by omega, Lib.hid (alls_next _ r j x HX2.out (by unfold short; simp; omega) HB.out)⟩
              case measure => simp [intOf]; omega
          · have hall : r.all short = true := by
              have := HB.out
              rwa [List.take_of_length_le (by rw [HM.out]; omega)] at this
            have HL := Lib.hid hall; clear hall
            go_wp2
            go_round
            case rel => exact ⟨k + 1, by go_num, by omega, Lib.hid (alls_next _ l k r HX.out (okR_yes (by rw [HM.out]; exact h2) HL.out) HA.out)⟩
            case measure => simp [intOf]; omega
      · have h2a : ((m : Int) != 2) = true := by simp; omega
        have h2b : ((m : Int) == 2) = false := by simp; omega
        have ho' : o = false := by
          rw [Ho.out]
          exact alls_not _ l k r hx (okR_no2 (by rw [hm]; exact h2))
        subst ho'
        clear hrr hm hx
        go_wp2
        go_ret
        exact ⟨rfl, rfl⟩
    · have ho' : o = true := by
        rw [Ho.out]
        have := HA.out
        rwa [List.take_of_length_le (by rw [Hl.out]; omega)] at this
      subst ho'
      go_wp2
      go_ret
      exact ⟨rfl, rfl⟩

theorem keeps_own {W W' : World} {e : TypeId} {base c : Nat} {A : Option Addr} {l : List UInt8} (hg : W.grownBy W' (ob A)) (h : Own W e base A c l) : KeepsFrom 0 W W' :=
  ⟨hg.size, fun k o _ hk ho => (hg.block k (Array.getElem?_eq_some_iff.1 hk).1 fun e2 => by
    rcases h.2 with ⟨hv, hn⟩ | ⟨g, cap, cur, hv, hbg, hg2, _⟩
    · injection hv with hv
      subst hv
      cases e2
    · injection hv with hv
      subst hv
      cases e2
      rw [hg2] at hk
      injection hk with hk
      subst hk
      cases ho).trans hk⟩
theorem below_own {W W' : World} {e : TypeId} {base c : Nat} {A : Option Addr} {l : List UInt8} (hg : W.grownBy W' (ob A)) (h : Own W e base A c l) (hb : base ≤ W.heap.size) : Below base W W' :=
  ⟨hg.os, hg.tape, hg.output, hg.size, fun k hk => hg.block k (by omega) fun e => by have := (own_ob h k e.symm).1; omega⟩

def RetAB (base : Nat) (w : World) (N : List UInt8) (e : Ending) (w' : World) : Prop :=
  ∃ A c, e = .returned (.slice A N.length c) ∧ Own w' 5 base A c N ∧ Below base w w' ∧ KeepsFrom 0 w w'
def AbO (base : Nat) (w : World) (l : List Sm.R) (H : List UInt8) (o t : Value) (wr : World) : Prop :=
  ∃ A c C, ∃ k : Nat, o = .slice A C.length c ∧ t = .int .i64 (k : Int) ∧ k ≤ l.length ∧ Own wr 5 base A c C ∧ Hid (C = H ++ Sm.recsB (l.take k)) ∧ Below base w wr
def AbI (base : Nat) (w : World) (r : Sm.R) (H : List UInt8) (o t : Value) (wr : World) : Prop :=
  ∃ A c C, ∃ j : Nat, o = .slice A C.length c ∧ t = .int .i64 (j : Int) ∧ j ≤ r.length ∧ Own wr 5 base A c C ∧ Hid (C = H ++ Sm.frs (r.take j)) ∧ Below base w wr
end Go.Proofs.YtknmhdkomjjneaaGreatDoor.Sq

namespace Go.Proofs.YtknmhdkomjjneaaGreatDoor.Sq
open Go.RowKit

def OwnX (w : World) (e : TypeId) (base : Nat) (A : Option Addr) (c : Nat) (l : List UInt8) : Prop :=
  Own w e base A c l ∨ (0 < l.length ∧ c = l.length ∧ ∃ g, A = some ⟨g, 0, none⟩ ∧ g < w.heap.size ∧ ∀ (j : Nat) (x : UInt8), l[j]? = some x → w.cell? ⟨g, j, none⟩ = some (.int .u8 (x.toNat : Int)))
section
variable {w w' : World} {e : TypeId} {base c : Nat} {A : Option Addr} {l : List UInt8}
theorem OwnX.keep (h : OwnX w e base A c l) (hb : Below w.heap.size w w') : OwnX w' e base A c l := by
  rcases h with h | ⟨h0, hc, g, hA, hg, hcell⟩
  · exact .inl (h.keep hb)
  · exact .inr ⟨h0, hc, g, hA, Nat.lt_of_lt_of_le hg hb.size, fun j x hx => (hb.cell (p := ⟨g, j, none⟩) hg).trans (hcell j x hx)⟩
theorem OwnX.rb (h : OwnX w e base A c l) (hl : l.length ≤ 1000000000) : Rb w w.heap.size A l.length c l := by
  rcases h with h | ⟨h0, hc, g, hA, hg, hcell⟩
  · exact h.rb
  · subst hc hA
    exact ⟨rfl, Nat.le_refl _, by simp only [maxLen]; omega, fun _ => ⟨g, 0, rfl, hg, fun j x hx => by rw [Nat.zero_add]; exact hcell j x hx⟩⟩
theorem OwnX.ob_lt (h : OwnX w e base A c l) (g : Nat) (hg : ob A = some g) : g < w.heap.size := by
  rcases h with h | ⟨h0, hc, g', hA, hg', _⟩
  · exact (own_ob h g hg).2
  · subst hA; cases hg; exact hg'
end
section
variable {P : Program} {t e s : TypeId}
theorem grown_any {w w' : World} (h : w.grownBy w' none) (row : Option Nat) : w.grownBy w' row := ⟨h.os, h.tape, h.output, h.size, fun k hk _ => h.block k hk (by simp)⟩
theorem below_none {w w' : World} (h : w.grownBy w' none) (base : Nat) (hb : base ≤ w.heap.size) : Below base w w' := ⟨h.os, h.tape, h.output, h.size, fun k hk => h.block k (by omega) (by simp)⟩
theorem keeps_none {w w' : World} (h : w.grownBy w' none) : KeepsFrom 0 w w' := ⟨h.size, fun k _ _ hk _ => (h.block k (Array.getElem?_eq_some_iff.1 hk).1 (by simp)).trans hk⟩
theorem _root_.Go.Proofs.YtknmhdkomjjneaaGreatDoor.U8.appStrX (u : U8 P t e s) {w : World} {base c : Nat} {A : Option Addr} {l : List UInt8} (ty : TypeId) (r : ByteArray) (hr0 : 0 < r.size) (hown : OwnX w e base A c l) (hsm : l.length + r.size ≤ 140737488355328) (hbase : base ≤ w.heap.size) :
    ∃ A' c' w', (Builtin.append_ #[t, s] ty #[.slice A l.length c, .string r]).run P w = .ok (.slice A' (l ++ r.data.toList).length c') w' ∧ Own w' e base A' c' (l ++ r.data.toList) ∧ w.grownBy w' (ob A) ∧ Below base w w' ∧ KeepsFrom 0 w w' := by
  obtain ⟨i, hi, hz0, hz1, hz2⟩ := info_parts u.inf
  have hrs : r.size = r.data.toList.length := by rw [Array.length_toList]; rfl
  have hl : (l ++ r.data.toList).length = l.length + r.size := by rw [List.length_append, hrs]
  rcases hown with hown | ⟨h0, rfl, g, rfl, hg, hcell⟩
  · obtain ⟨v', w', hrun, ho, hgr, _⟩ := Lib.run_append_own_string (P := P) w base t s ty e i u.sl u.st hi hz0 hz1 hz2 _ l.length (bvs l) hown r (by simp only [maxLen]; omega) hsm hbase
    have hsh : ∃ A' c', v' = .slice A' (l.length + r.size) c' := by
      rcases ho.2 with ⟨hv, hn⟩ | ⟨g, cap, cur, hv, _⟩
      · exact ⟨_, _, by rw [hv, hn]⟩
      · exact ⟨_, _, hv⟩
    obtain ⟨A', c', hv⟩ := hsh
    subst hv
    rw [ownBlock_slice] at hgr
    refine ⟨A', c', w', by rw [hrun, hl], ?_, hgr, below_own hgr hown hbase, keeps_own hgr hown⟩
    unfold Own
    rw [hl, bvs_append]
    exact ho
  · have hgrow := Lib.run_append_grow_string (P := P) w t s ty e i (.int .u8 0) u.sl u.st hi hz0 ⟨g, 0, none⟩ l.length l.length (bvs l) (by rw [bvs_length, hz1, Nat.mul_one]) (fun j v hj => by
      obtain ⟨x, hx, rfl⟩ := bvs_get l j v hj
      rw [add_plain, Nat.zero_add]
      exact hcell j x hx) r (by omega) (by omega) (by rw [hz2]; exact growslice_fits (by omega) (by omega))
    have hg2 : w.grownBy (w.drew.alloc (.cells ((bvs l).toArray ++ (Lib.strCells r).toArray ++ Builtin.zeroCells (Value.int .u8 0).cells (grownCap w (l.length + r.size) l.length e - (l.length + r.size))) e)) none :=
      ⟨rfl, rfl, rfl, by simp, fun k hk _ => Below.heap_alloc w.drew _ k hk⟩
    have hge := grownCap_ge w (l.length + r.size) l.length e
    have hcm : grownCap w (l.length + r.size) l.length e ≤ maxLen := grownCap_le_maxLen w (l.length + r.size) l.length e (by simp only [maxLen]; omega)
    refine ⟨_, _, _, by rw [hgrow, hl], ?_, grown_any hg2 _, below_none hg2 base hbase, keeps_none hg2⟩
    have hlen : (bvs l ++ Lib.strCells r).length = (l.length + r.size) * 1 := by rw [List.length_append, bvs_length, Lib.strCells_length, Nat.mul_one]
    unfold Own
    rw [hl, bvs_append]
    refine ⟨by rw [List.length_append, bvs_length, bvs_length, ← hrs, Nat.mul_one], .inr ⟨w.heap.size, _, _, rfl, hbase, heap_alloc_new w.drew _, hge, hcm, ?_, ?_⟩⟩
    · have hz1' : (Value.int IntKind.u8 0).cells.size = 1 := rfl
      simp only [Array.size_append, List.size_toArray, size_zeroCells, hz1', bvs_length, Lib.strCells_length]
      omega
    · simp only [Array.toList_append, List.append_assoc]
      rw [← List.append_assoc, ← hlen]
      exact List.take_left
theorem _root_.Go.Proofs.YtknmhdkomjjneaaGreatDoor.U8.wpAppStrX (u : U8 P t e s) {w : World} {ops : Array Oper} {rest : List Oper} {o : Oper} {a : Act} {Q : Exit → Act → World → Prop} (hgd : o.guard = none) (x y : Operand)
    (ho : o.op = .call { callee := .builtin .append, args := #[x, y], argTypes := #[t, s] })
    {base c : Nat} {A : Option Addr} {l N : List UInt8} {r : ByteArray} (hx : a.eval x = .slice A l.length c) (hy : a.eval y = .string r) (hr0 : 0 < r.size) (hown : OwnX w e base A c l) (hN : l ++ r.data.toList = N)
    (hsm : N.length ≤ 140737488355328) (hbase : base ≤ w.heap.size)
    (h : ∀ A' c' w', Own w' e base A' c' N → w.grownBy w' (ob A) → Below base w w' → KeepsFrom 0 w w' → wpList P ops Q rest (a.put o.dst (.slice A' N.length c')) w') : wpList P ops Q (o :: rest) a w := by
  subst hN
  have hrs : r.size = r.data.toList.length := by rw [Array.length_toList]; rfl
  refine wpList_plain hgd fun _ hK => ?_
  obtain ⟨A', c', w', hrun, h2, h3, h4, h5⟩ := u.appStrX o.type r hr0 hown (by rw [hrs, ← List.length_append]; exact hsm) hbase
  unfold Oper.wp execOp
  simp only [ho, resolve, invoke, builtin, Sem.run_bind, Sem.run_pure, Result.andThen_ok, List.map_toArray, List.map_cons, List.map_nil, hx, hy, hrun]
  exact hK _ _ (h A' c' w' h2 h3 h4 h5)
end
end Go.Proofs.YtknmhdkomjjneaaGreatDoor.Sq

namespace Go.Proofs.YtknmhdkomjjneaaGreatDoor.Sq
open Go.RowKit

theorem fr_frl (x : List UInt8) : fr ⟨x.toArray⟩ = Sm.frl x := by
  unfold fr Sm.frl
  rfl
set_option maxRecDepth 100000 in
set_option maxHeartbeats 2000000 in
theorem addBlock_c (A : Option Addr) (c base : Nat) (L : List UInt8) (At : Option Addr) (ct : Nat) (D : Option Addr) (m d : Nat) (l : List Sm.R) (w : World) (hown : OwnX w 5 base A c L) (hb : base ≤ w.heap.size) (hb0 : 0 < base) (ht : Rn w w.heap.size At 256 ct Cm.tab) (hr : RL w w.heap.size D m d l)
    (hok : l.all Sm.okR = true) (hm : m ≤ 150) (hL : L.length ≤ 1000000000) (hx : Mx w) :
    Calls Tryz.prog 129 #[.slice A L.length c, .slice At 256 ct, .slice D m d] w (RetAB base w (L ++ Sm.blkw l)) := by
  have hl := hr.len
  have hv := Sm.vb_three m (by omega)
  have hwr : IntKind.u64.wrap (m : Int) = (m : Int) := by rw [IntKind.wrap_u64]; omega
  obtain ⟨H, hH⟩ : ∃ H, H = Vm.vb m := ⟨_, rfl⟩
  have hHl : H.length ≤ 3 := by rw [hH]; exact hv
  have hbl := Sm.recsB_len l hok
  rw [hl] at hbl
  obtain ⟨V, hV⟩ : ∃ V, V = L ++ Sm.blkw l := ⟨_, rfl⟩
  rw [← hV]
  have HV := Lib.hid hV; clear hV
  have hput := put_c none 0 0 [] m w (Rb.nil _ _) (by omega) (by omega)
  rw [List.nil_append, ← hH] at hput
  have Hown := Lib.hid hown; have Ht := Lib.hid ht; have Hr := Lib.hid hr; have Hok := Lib.hid hok; have Hl := Lib.hid hl; have HH := Lib.hid hH; have Hx := Lib.hid hx; have Hput := Lib.hid hput
  clear hown ht hr hok hl hH hx hput hv
  go_enter Tryz.func129, Tryz.ntmps129
  go_wp2_with fail
  refine Hput.out.mono ?_
  rintro e w1 ⟨A1, c1, rfl, ho1, hb1⟩
  have z1 := hb1.size
  go_wp2
  go_loopw [7, 20] (fun o t wr => AbO w.heap.size w l H o t wr) (fun _ t _ => m - (intOf t).toNat)
  case atStart => exact ⟨A1, c1, H, 0, rfl, rfl, Nat.zero_le _, ho1, Lib.hid (by simp [Sm.recsB]), hb1⟩
  case round =>
    obtain ⟨A2, c2, C, k, rfl, rfl, hk, ho2, HC, hb2⟩ := hrel
    have z2 := hb2.size
    rw [Hl.out] at hk
    by_cases hlt : k < m
    · obtain ⟨b, off, E, q, dd, r, rfl, hbk, hc0, hx, _, hrr⟩ := Hr.out.at_ hlt
      have hc : wr.cell? ⟨b, off + k, none⟩ = some (.slice E q dd) := (hb2.cell (p := ⟨b, off + k, none⟩) hbk).trans hc0
      clear hc0
      have hq := lvs_num hrr
      have hokr : Sm.okR r = true := (List.all_eq_true.1 Hok.out) r (List.mem_of_getElem? hx)
      obtain ⟨hr2, hrs⟩ := Sm.okR_iff.1 hokr
      have hsnoc := Sm.recsB_snoc l k r hx
      have htk := Sm.recsB_take_len l (k + 1)
      rw [hsnoc, List.length_append] at htk
      have hCl : C.length + (Sm.frs r).length ≤ 300903 := by
        rw [HC.out, List.length_append]; omega
      have q2 : q = 2 := by omega
      have HX := Lib.hid hx; have HRR := Lib.hid hrr; have HQ := Lib.hid hq; have HRS := Lib.hid hrs; have HSn := Lib.hid hsnoc; clear hx hrr hq hrs hsnoc htk hokr hr2
      go_wp2
      go_loopw [7, 26] (fun o t wr => AbI w.heap.size w r C o t wr) (fun _ t _ => q - (intOf t).toNat)
      case atStart => exact ⟨A2, c2, C, 0, rfl, rfl, Nat.zero_le _, ho2, Lib.hid (by simp [Sm.frs]), hb2⟩
      case round =>
        obtain ⟨A3, c3, C3, j, rfl, rfl, hj, ho3, HC3, hb3⟩ := hrel
        rename World => wz
        have z3 := hb3.size
        rw [HQ.out] at hj
        by_cases hjt : j < q
        · obtain ⟨b2, off2, x, rfl, hbk2, hcx, hx2, _⟩ := lvs_at (HRR.out.below hb3) hjt
          have hxs := HRS.out x (List.mem_of_getElem? hx2)
          have hfl : (Sm.frl x).length ≤ 1003 := by
            have := Sm.vb_three x.length (by omega)
            unfold Sm.frl; rw [List.length_append]; omega
          have hfs := Sm.frs_snoc r j x hx2
          have hft := Sm.frs_take_len r (j + 1)
          rw [hfs, List.length_append] at hft
          have hC3l : C3.length + (Sm.frl x).length ≤ 300903 := by rw [HC3.out, List.length_append]; omega
          have hfr := frameP_c none 0 0 [] ⟨x.toArray⟩ wz (Rb.nil _ _) (by omega) (by show x.length ≤ 100000; omega)
          rw [List.nil_append, fr_frl] at hfr
          obtain ⟨N, hN⟩ : ∃ N, C3 ++ Sm.frl x = N := ⟨_, rfl⟩
          have hNl : N.length ≤ 300903 := by rw [← hN, List.length_append]; exact hC3l
          have Hfr := Lib.hid hfr; have HN := Lib.hid hN; have HFS := Lib.hid hfs; have Ho3 := Lib.hid ho3
          clear hfr hN hfs hft hx2 ho3
          go_wp2_with fail
          refine Hfr.out.mono ?_
          rintro e w4 ⟨A4, c4, rfl, ho4, hb4⟩
          have z4 := hb4.size
          have hr4 := ho4.rb
          have ho3' := Ho3.out.keep hb4
          have Hr4 := Lib.hid hr4; have Ho3' := Lib.hid ho3'; clear hr4 ho3' ho4
          go_wp2_with (at_builtin; go_must (refine bty.wpAppTo rfl (.tmp 30) (.tmp 32) rfl (l := C3) (r := Sm.frl x) (N := N) rfl rfl Ho3'.out Hr4.out HN.out ?hs1 ?hs2 ?_))
          case hs1 => omega
          case hs2 => omega
          intro A5 c5 w5 ho5 hg5
          have hb5 := (hb3.trans (hb4.mono z3)).trans (hg5.below Ho3'.out (by omega))
          go_wp2
          go_roundw
          case rel => exact ⟨A5, c5, N, j + 1, rfl, by go_num, by rw [HQ.out]; omega, ho5, Lib.hid (by rw [HFS.out, ← HN.out, HC3.out, List.append_assoc]), hb5⟩
          case measure => simp [intOf]; omega
        · have hC4 : C3 = H ++ Sm.recsB (l.take (k + 1)) := by
            have h1 := HC3.out
            rw [List.take_of_length_le (by rw [HQ.out]; omega)] at h1
            rw [h1, HC.out, HSn.out, List.append_assoc]
          have HC4 := Lib.hid hC4; clear hC4
          go_wp2
          go_roundw
          case rel => exact ⟨A3, c3, C3, k + 1, rfl, by go_num, by rw [Hl.out]; omega, ho3, HC4, hb3⟩
          case measure => simp [intOf]; omega
    · have hC : C = Sm.conts l := by
        have h1 := HC.out
        rw [List.take_of_length_le (by rw [Hl.out]; omega), HH.out] at h1
        rw [h1]
        unfold Sm.conts
        rw [Hl.out]
      have hCl : C.length ≤ 300903 := by
        rw [hC]; unfold Sm.conts; rw [List.length_append, Hl.out, ← HH.out]; omega
      have hseal := seal_c At 256 ct Cm.tab A2 C.length c2 C wr ((Ht.out.below hb2).more z2) (by omega) ho2.rb (by omega)
      rw [sealS_ok Cm.tab C Cm.tab_len] at hseal
      obtain ⟨S, hS⟩ : ∃ S, S = C ++ Cm.four (Cm.sum Cm.tab C) := ⟨_, rfl⟩
      have hSl : S.length ≤ 300907 := by rw [hS, List.length_append, Cm.four_len]; omega
      rw [← hS] at hseal
      have hSs : S = Sm.sealed (Sm.conts l) := by rw [hS, hC]; rfl
      have hesl := (Sm.esc_len S).2
      obtain ⟨N1, hN1⟩ : ∃ N1, L ++ [255, 83] = N1 := ⟨_, rfl⟩
      obtain ⟨N2, hN2⟩ : ∃ N2, N1 ++ Sm.esc S = N2 := ⟨_, rfl⟩
      have hN : L ++ Sm.blkw l = N2 := by
        rw [← hN2, ← hN1, hSs]
        unfold Sm.blkw
        simp
      have hN1l : N1.length ≤ 1000000002 := by rw [← hN1, List.length_append]; simp; omega
      have hN2l : N2.length ≤ 2000000000 := by rw [← hN2, List.length_append]; omega
      obtain rfl : V = N2 := by rw [HV.out]; exact hN
      have Hseal := Lib.hid hseal; have HN1 := Lib.hid hN1; have HN2 := Lib.hid hN2; clear hseal hS hSs hN1 hN2 hN hC ho2
      go_wp2_with fail
      refine Hseal.out.mono ?_
      rintro e w6 ⟨A6, c6, rfl, ho6, hb6⟩
      have z6 := hb6.size
      have b06 : Below w.heap.size w w6 := hb2.trans (hb6.mono z2)
      have Hown6 := Lib.hid (Hown.out.keep b06)
      go_wp2_with (at_builtin; go_must (refine bty.wpAppStrX rfl (.tmp 42) _ rfl (l := L) (N := N1) rfl rfl (by decide) Hown6.out HN1.out ?hs1 ?hs2 ?_))
      case hs1 => omega
      case hs2 => omega
      intro A7 c7 w7 ho7 hg7 b7 k7
      have z7 := b7.size
      have ho6' : Own w7 5 w.heap.size A6 c6 S := World.ownsRow.kept (ho6.mono z2) hg7 (by
        rw [ownBlock_slice]
        cases h6 : ob A6 with
        | none => exact .inl rfl
        | some g => exact .inr fun e2 => by have h1 := (own_ob ho6 g h6).1; have h2 := Hown.out.ob_lt g e2.symm; omega)
      have hx7 : Mx w7 := ((Hx.out.below' b06).below b7 hb0)
      have hesc := esc_c A6 S.length c6 S w7 ho6'.rb (by omega) hx7
      have Hesc := Lib.hid hesc; have Ho7 := Lib.hid ho7; clear hesc ho6 ho6' ho7
      go_wp2_with fail
      refine Hesc.out.mono ?_
      rintro e w8 ⟨A8, c8, rfl, ho8, hb8⟩
      have z8 := hb8.size
      have hr8 := ho8.rb
      have ho7' := Ho7.out.keep hb8
      have Hr8 := Lib.hid hr8; have Ho7' := Lib.hid ho7'; clear hr8 ho7' ho8
      go_wp2_with (at_builtin; go_must (refine bty.wpAppTo rfl (.tmp 44) (.tmp 46) rfl (l := N1) (r := Sm.esc S) (N := V) rfl rfl Ho7'.out Hr8.out HN2.out ?hs1 ?hs2 ?_))
      case hs1 => omega
      case hs2 => omega
      intro A9 c9 w9 ho9 hg9
      have k9 := keeps_own hg9.1 Ho7'.out
      have b9 := hg9.below Ho7'.out (by omega)
      have bz : Below base w w9 := (((b06.mono hb).trans b7).trans (hb8.mono (by omega))).trans b9
      have kz : KeepsFrom 0 w w9 := (((keeps_of_below b06 0).trans k7).trans (keeps_of_below hb8 0)).trans k9
      go_wp2
      go_ret
      exact ⟨A9, c9, rfl, ho9, bz, kz⟩
end Go.Proofs.YtknmhdkomjjneaaGreatDoor.Sq

/-
  The iterator over chunks of records: what the function that slices.Chunk returns hands over.
-/

namespace Go.Proofs.YtknmhdkomjjneaaGreatDoor.Sq
open Go.RowKit Go.Shelf
attribute [local go_sem] Oper.semAt_some

def cks (n : Nat) : Nat → Nat → List (Nat × Nat)
  | 0, _ => []
  | k + 1, i => if i < n then (i, min (i + 3) n) :: cks n k (i + 3) else []
def ck (n i : Nat) : List (Nat × Nat) := cks n (n - i) i
theorem cks_more (n : Nat) : ∀ (k m i : Nat), n - i ≤ k → n - i ≤ m → cks n k i = cks n m i
  | 0, m, i, h1, h2 => by
    cases m with
    | zero => rfl
    | succ m => rw [cks, cks, if_neg (by omega)]
  | k + 1, m, i, h1, h2 => by
    cases m with
    | zero => rw [cks, cks, if_neg (by omega)]
    | succ m =>
      rw [cks, cks]
      split
      · rw [cks_more n k m _ (by omega) (by omega)]
      · rfl
theorem ck_step {n i : Nat} (h : i < n) : ck n i = (i, min (i + 3) n) :: ck n (i + 3) := by
  unfold ck
  rw [show n - i = (n - i - 1) + 1 by omega, cks, if_pos h, cks_more n (n - i - 1) (n - (i + 3)) _ (by omega) (by omega)]
theorem ck_end {n i : Nat} (h : n ≤ i) : ck n i = [] := by unfold ck; rw [show n - i = 0 by omega, cks]
def encC (A : Option Addr) {n : Nat} (x : Bk n) : Array Value := #[.slice (cutA A x.1.2 x.1.1) (x.1.2 - x.1.1) (x.1.2 - x.1.1)]

theorem rty_el : Tryz.prog.elem 55 = 78 := by simp only [Program.elem, rty.sl]
theorem rty_sz (W : World) : (sizeOf (Tryz.prog.elem 55)).run Tryz.prog W = .ok 1 W := by
  obtain ⟨i, hi, hz0, hz1, hz2⟩ := info_parts rty.inf
  rw [rty_el]
  simp [sizeOf, typeInfo, hi, hz1]
theorem rty_sl : Tryz.prog.underlying 55 = some (.slice (Tryz.prog.elem 55)) := by rw [rty_el]; exact rty.sl
theorem sl1 (A : Option Addr) (n c k : Nat) (hk : k ≤ n) (W : World) : (Instr.slice 55 (.slice A n c) (some (.int .i64 (k : Int))) none none).run Tryz.prog W = .ok (.slice (cutA A c k) (n - k) (c - k)) W := by
  rw [run_slice_l W 55 _ _ _ rty_sl .i64 (k : Int) (by omega) (by omega), rty_sz]
  simp [Result.andThen, sliced, cutA]
theorem sl2 (A : Option Addr) (n c k e : Nat) (hk : k ≤ e) (he : e ≤ n) (hc : n ≤ c) (W : World) : (Instr.slice 55 (.slice A n c) (some (.int .i64 (k : Int))) (some (.int .i64 (e : Int))) (some (.int .i64 (e : Int)))).run Tryz.prog W = .ok (.slice (cutA A e k) (e - k) (e - k)) W := by
  rw [run_slice_lhm W 55 _ _ _ rty_sl .i64 .i64 .i64 (k : Int) (e : Int) (e : Int) (by omega) (by omega) (by omega) (by omega), rty_sz]
  simp [Result.andThen, sliced, cutA]

set_option maxRecDepth 100000 in
theorem chunk_c (A : Option Addr) (n c : Nat) (w : World) :
    Calls Tryz.prog 127 #[.slice A n c, .int .i64 3] w fun e w' =>
      e = .returned (.func (.func 157) #[] #[.pointer (some ⟨w.heap.size, 0, none⟩), .pointer (some ⟨w.heap.size + 1, 0, none⟩)]) ∧
      w' = (w.alloc (.cells #[.slice A n c] 55)).alloc (.cells #[.int .i64 3] 3) := by
  go_enter Tryz.func127, Tryz.ntmps127
  go_wp2
  go_ret
  exact ⟨rfl, rfl⟩

set_option maxRecDepth 100000 in
set_option maxHeartbeats 2000000 in
theorem chunk_stops (A : Option Addr) (n c : Nat) (lo hi : Nat) (w : World) (hn : n ≤ 1000000) (hnc : n ≤ c) (Bs Bn : Nat) (hBs : w.cell? ⟨Bs, 0, none⟩ = some (.slice A n c) ∧ hi ≤ Bs ∧ Bs < w.heap.size)
    (hBn : w.cell? ⟨Bn, 0, none⟩ = some (.int .i64 3) ∧ hi ≤ Bn ∧ Bn < w.heap.size) (m : Nat) :
    SeqStopsK Fence.wide (m + 1) Tryz.prog 157 #[.pointer (some ⟨Bs, 0, none⟩), .pointer (some ⟨Bn, 0, none⟩)] (encC A (n := n)) (But lo hi w.heap.size)
      (fun xs => xs.map (·.1) = ck n 0) (fun pre => pre.map (·.1) <+: ck n 0) (n + 1) w := fun L J Jx W hW hJ hJx hY h0 => by
  have hWs := hW.size
  refine callsIn_of_wp Tryz.func157 rfl trivial ?_ rfl
  simp only [Tryz.ntmps157, List.size_toArray, List.length_cons, List.length_nil, Nat.reduceAdd, Nat.reduceSub, Array.replicate_succ, Array.replicate_zero, List.push_toArray, List.append_toArray, List.nil_append, List.cons_append]
  gi_wp2
  gi_loopw [4] (fun a wr => ∃ (pre : List (Bk n)) (k : Nat), a = .int .i64 (k : Int) ∧ J pre wr ∧ But lo hi w.heap.size W wr ∧ W.heap.size ≤ wr.heap.size ∧ Hid (ck n 0 = pre.map (·.1) ++ ck n k) ∧ pre.length ≤ k ∧ k ≤ n + 3)
    (fun a _ => n - (intOf a).toNat)
  case atStart => exact ⟨[], 0, rfl, h0, But.refl W, Nat.le_refl _, Lib.hid rfl, Nat.zero_le _, by omega⟩
  case round =>
    obtain ⟨pre, k, rfl, hJs, hbut, hws, hseg, hpl, hk3⟩ := hrel
    have kBs : wr.cell? ⟨Bs, 0, none⟩ = some (.slice A n c) := (hbut.cell (p := ⟨Bs, 0, none⟩) hBs.2.2 (by show ¬ (lo ≤ Bs ∧ Bs < hi); omega)).trans ((hW.cell (p := ⟨Bs, 0, none⟩) hBs.2.2).trans hBs.1)
    have kBn : wr.cell? ⟨Bn, 0, none⟩ = some (.int .i64 3) := (hbut.cell (p := ⟨Bn, 0, none⟩) hBn.2.2 (by show ¬ (lo ≤ Bn ∧ Bn < hi); omega)).trans ((hW.cell (p := ⟨Bn, 0, none⟩) hBn.2.2).trans hBn.1)
    by_cases hlt : k < n
    · obtain ⟨e, he⟩ : ∃ e, e = min (k + 3) n := ⟨_, rfl⟩
      obtain ⟨E, hE⟩ : ∃ E, E = e - k := ⟨_, rfl⟩
      obtain ⟨x, hxv⟩ : ∃ x : Bk n, x.1 = (k, e) := ⟨⟨(k, e), by dsimp only; omega⟩, rfl⟩
      have henc : encC A x = #[.slice (cutA A e k) (e - k) (e - k)] := by unfold encC; rw [hxv]
      have hs1 : ∀ W, (Instr.slice 55 (.slice A n c) (some (.int .i64 (k : Int))) none none).run Tryz.prog W = .ok (.slice (cutA A c k) (n - k) (c - k)) W := fun W => sl1 A n c k (by omega) W
      have hs2 : ∀ W, (Instr.slice 55 (.slice A n c) (some (.int .i64 (k : Int))) (some (.int .i64 ((k : Int) + (E : Int)))) (some (.int .i64 ((k : Int) + (E : Int))))).run Tryz.prog W = .ok (.slice (cutA A e k) (e - k) (e - k)) W := fun W => by
        have := sl2 A n c k e (by omega) (by omega) hnc W
        rwa [show ((e : Nat) : Int) = (k : Int) + (E : Int) by omega] at this
      have hseg2 : Hid (ck n 0 = (pre ++ [x]).map (·.1) ++ ck n (k + 3)) := Lib.hid (by
        rw [hseg.out, ck_step hlt, ← he]
        simp [hxv])
      have Henc := Lib.hid henc; have He := Lib.hid he; have hE3 : k + E ≤ n ∧ E ≤ 3 ∧ (E = 3 ∨ k + E = n) := by omega
      clear henc he hE
      gi_wp2
      have zq : wr.drew.heap.size = wr.heap.size := rfl
      refine wpIn_wide.2 ?_
      refine wp_region_sched [(false, 0), (false, 1), (false, 2), (false, 3), (false, 4), (false, 5), (false, 6)] (by kernel_rfl) (by kernel_rfl) (by kernel_rfl) (by kernel_rfl) (fun _ _ d _ _ h => by cases d <;> exact h) ?_
      refine wpS_read (o := { dst := some 13, op := Go.Op.load 3 (Go.Operand.tmp 2), type := 3, pos := "iter.go:105", after := #[], guard := none }) (v := .int .i64 3) rfl (by rfl) ?_ ?_
      · intro w' hg; have hc' := (hg.cell (p := ⟨Bn, 0, none⟩) (by show Bn < wr.heap.size; omega)).trans kBn; go_simp
      try simp only [Act.put, List.setIfInBounds_toArray, List.set_cons_zero, List.set_cons_succ]
      refine wpS_read (o := { dst := some 14, op := Go.Op.load 55 (Go.Operand.tmp 1), type := 55, pos := "iter.go:105", after := #[], guard := none }) (v := .slice A n c) rfl (by rfl) ?_ ?_
      · intro w' hg; have hc' := (hg.cell (p := ⟨Bs, 0, none⟩) (by show Bs < wr.heap.size; omega)).trans kBs; go_simp
      try simp only [Act.put, List.setIfInBounds_toArray, List.set_cons_zero, List.set_cons_succ]
      refine wpS_read (o := { dst := some 15, op := Go.Op.move (Go.Operand.tmp 4), type := 3, pos := "iter.go:105", after := #[], guard := none }) (v := .int .i64 (k : Int)) rfl (by rfl) ?_ ?_
      · intro w' hg; go_simp
      try simp only [Act.put, List.setIfInBounds_toArray, List.set_cons_zero, List.set_cons_succ]
      refine wpS_read (o := { dst := some 16, op := Go.Op.slice 55 (Go.Operand.tmp 14) (some (Go.Operand.tmp 15)) none none, type := 55, pos := "iter.go:105", after := #[{ on := 1, ground := Go.Ground.data }, { on := 2, ground := Go.Ground.data }], guard := none }) (v := .slice (cutA A c k) (n - k) (c - k)) rfl (by rfl) ?_ ?_
      · intro w' hg; go_simp
      try simp only [Act.put, List.setIfInBounds_toArray, List.set_cons_zero, List.set_cons_succ]
      refine wpS_read (o := { dst := some 17, op := Go.Op.call { callee := Go.Callee.builtin Go.Builtin.len, args := #[Go.Operand.tmp 16], argTypes := #[55] }, type := 3, pos := "iter.go:105", after := #[{ on := 3, ground := Go.Ground.data }], guard := none }) (v := .int .i64 ((n - k : Nat) : Int)) rfl (by rfl) ?_ ?_
      · intro w' hg; go_simp
      try simp only [Act.put, List.setIfInBounds_toArray, List.set_cons_zero, List.set_cons_succ]
      refine wpS_read (o := { dst := some 18, op := Go.Op.call { callee := Go.Callee.builtin Go.Builtin.min, args := #[Go.Operand.tmp 13, Go.Operand.tmp 17], argTypes := #[3, 3] }, type := 3, pos := "iter.go:105", after := #[{ on := 0, ground := Go.Ground.data }, { on := 4, ground := Go.Ground.data }], guard := none }) (v := .int .i64 ((E : Nat) : Int)) rfl (by rfl) ?_ ?_
      · intro w' hg; go_simp; omega
      try simp only [Act.put, List.setIfInBounds_toArray, List.set_cons_zero, List.set_cons_succ]
      refine wpS_read (o := { dst := some 5, op := Go.Op.assign (Go.Operand.tmp 18), type := 3, pos := "iter.go:105", after := #[{ on := 5, ground := Go.Ground.data }, { on := 0, ground := Go.Ground.phase }, { on := 1, ground := Go.Ground.phase }, { on := 2, ground := Go.Ground.phase }, { on := 3, ground := Go.Ground.phase }, { on := 4, ground := Go.Ground.phase }, { on := 5, ground := Go.Ground.phase }], guard := none }) (v := .int .i64 ((E : Nat) : Int)) rfl (by rfl) ?_ ?_
      · intro w' hg; go_simp
      try simp only [Act.put, List.setIfInBounds_toArray, List.set_cons_zero, List.set_cons_succ]
      refine wpS_done ?_
      obtain ⟨wd, hwd⟩ : ∃ wd, wd = wr.drew := ⟨_, rfl⟩
      have hbd : Below wr.heap.size wr wd := by rw [hwd]; exact grow_drew wr
      have zd := hbd.size
      have kBsd : wd.cell? ⟨Bs, 0, none⟩ = some (.slice A n c) := (hbd.cell (p := ⟨Bs, 0, none⟩) (by show Bs < wr.heap.size; omega)).trans kBs
      have kBnd : wd.cell? ⟨Bn, 0, none⟩ = some (.int .i64 3) := (hbd.cell (p := ⟨Bn, 0, none⟩) (by show Bn < wr.heap.size; omega)).trans kBn
      rw [← hwd]
      clear hwd zq
      obtain ⟨fn, tmps, assign, body, hy, hR⟩ := hY pre x wd (hJ pre wr wd none hJs (grown_below hbd none) (fun r e => by cases e)) (by omega)
      rw [Henc.out] at hy
      gi_wp2
      refine hR.mono ?_
      rintro e3 W3 (⟨rfl, hJ3, hk3⟩ | ⟨rfl, hJx3⟩)
      · have hbut3 := (hbut.trans (but_of hbd (by omega))).trans hk3
        have hs3 := hk3.size
        have kBn3 : W3.cell? ⟨Bn, 0, none⟩ = some (.int .i64 3) := (hk3.cell (p := ⟨Bn, 0, none⟩) hBn.2.2 (by show ¬ (lo ≤ Bn ∧ Bn < hi); omega)).trans kBnd
        clear hR hy
        gi_wp2
        go_roundw
        case rel => exact ⟨pre ++ [x], k + 3, by go_num, hJ3, hbut3, by omega, hseg2, by simp; omega, by omega⟩
        case measure => simp [intOf]; omega
      · clear hR hy
        gi_wp2
        refine bodyPost_ret (results_none rfl _ _ _) rfl ?_
        exact ⟨⟨_, rfl⟩, .inr ⟨pre ++ [x], by rw [hseg2.out]; exact List.prefix_append _ _, hJx3⟩⟩
    · have hend : ck n 0 = pre.map (·.1) := by rw [hseg.out, ck_end (by omega), List.append_nil]
      have Hend := Lib.hid hend; clear hend
      gi_wp2
      go_end0
      exact ⟨⟨_, rfl⟩, .inl ⟨pre, Hend.out.symm, hJs⟩⟩
end Go.Proofs.YtknmhdkomjjneaaGreatDoor.Sq

/-
  The live question of seq's statements.
-/
namespace Go.Proofs.YtknmhdkomjjneaaGreatDoor.Sq
open Go.RowKit Go.Shelf

def chk (l : List Sm.R) (p : Nat × Nat) : List Sm.R := (l.take p.2).drop p.1
theorem _root_.Go.Proofs.YtknmhdkomjjneaaGreatDoor.RL.chunk {w : World} {B n c i e : Nat} {A : Option Addr} {l : List Sm.R} (h : RL w B A n c l) (hi : i ≤ e) (he : e ≤ n) : RL w B (cutA A e i) (e - i) (e - i) (chk l (i, e)) := by
  have hl := h.len
  obtain ⟨vs, h1, h2⟩ := h
  have hvl := h1.len1
  refine ⟨(vs.take e).drop i, ⟨by rw [List.length_drop, List.length_take]; omega, Nat.le_refl _, by have := h1.2.1; have := h1.2.2.1; omega, fun hp => ?_⟩, by rw [List.length_drop, List.length_take]; unfold chk; rw [List.length_drop, List.length_take]; dsimp only; omega, fun j v r g1 g2 => ?_⟩
  · obtain ⟨b, off, rfl, hb, hc⟩ := h1.2.2.2 (by omega)
    refine ⟨b, off + i, ?_, hb, fun j v hj => ?_⟩
    · unfold cutA
      rw [if_neg (by omega)]
      by_cases h0 : i = 0
      · subst h0; simp [Addr.add]
      · simp [Addr.add, h0]
    · rw [List.getElem?_drop, List.getElem?_take] at hj
      split at hj
      · rw [Nat.add_assoc]; exact hc _ v hj
      · cases hj
  · unfold chk at g2
    rw [List.getElem?_drop, List.getElem?_take] at g1 g2
    dsimp only at g2
    split at g1
    · rw [if_pos (by assumption)] at g2
      exact h2.2 _ v r g1 g2
    · cases g1
def wck (l : List Sm.R) (L : List (Nat × Nat)) : List UInt8 := L.flatMap fun p => Sm.blkw (chk l p)
theorem wck_snoc (l : List Sm.R) (L : List (Nat × Nat)) (p : Nat × Nat) : wck l (L ++ [p]) = wck l L ++ Sm.blkw (chk l p) := by simp [wck]
theorem chk_three (l : List Sm.R) (i : Nat) : chk l (i, min (i + 3) l.length) = (l.drop i).take 3 := by
  unfold chk
  dsimp only
  rw [List.drop_take]
  by_cases h : i + 3 ≤ l.length
  · rw [Nat.min_eq_left h]; congr 1; omega
  · rw [Nat.min_eq_right (by omega), List.take_of_length_le (by rw [List.length_drop]; omega), List.take_of_length_le (by rw [List.length_drop]; omega)]
theorem wck_all (l : List Sm.R) : ∀ (k i : Nat), l.length - i ≤ k → wck l (ck l.length i) = Sm.wch k (l.drop i)
  | 0, i, h => by rw [ck_end (by omega), List.drop_of_length_le (by omega), Sm.wch_nil]; rfl
  | k + 1, i, h => by
    by_cases hi : i < l.length
    · have hne : l.drop i ≠ [] := fun e => by have := congrArg List.length e; rw [List.length_drop] at this; simp at this; omega
      rw [ck_step hi, Sm.wch_step hne, List.drop_drop]
      have ih := wck_all l k (i + 3) (by omega)
      show Sm.blkw (chk l (i, min (i + 3) l.length)) ++ wck l (ck l.length (i + 3)) = _
      rw [ih, chk_three]
    · rw [ck_end (by omega), List.drop_of_length_le (by omega), Sm.wch_nil]; rfl
theorem wck_wr (l : List Sm.R) : Sm.hd ++ wck l (ck l.length 0) = Sm.wr l := by
  rw [wck_all l l.length 0 (by omega), List.drop_zero]; rfl
theorem chk_all (l : List Sm.R) : ∀ (k i : Nat), l.length - i ≤ k → (∀ p ∈ ck l.length i, (chk l p).all Sm.okR = true) → (l.drop i).all Sm.okR = true
  | 0, i, h, _ => by rw [List.drop_of_length_le (by omega)]; rfl
  | k + 1, i, h, hall => by
    by_cases hi : i < l.length
    · rw [ck_step hi] at hall
      have h1 := hall _ (List.mem_cons_self ..)
      have ih := chk_all l k (i + 3) (by omega) (fun p hp => hall p (List.mem_cons_of_mem _ hp))
      rw [chk_three] at h1
      rw [← List.drop_drop] at ih
      exact (Sm.all_take_drop 3).2 ⟨h1, ih⟩
    · rw [List.drop_of_length_le (by omega)]; rfl
theorem chk_bad (l : List Sm.R) (p : Nat × Nat) (h : (chk l p).all Sm.okR = false) : l.all Sm.okR = false := by
  rw [List.all_eq_false] at h ⊢
  obtain ⟨r, hr, h2⟩ := h
  exact ⟨r, List.mem_of_mem_take (List.mem_of_mem_drop hr), h2⟩
def Wt (w : World) (base : Nat) (A : Option Addr) (n c : Nat) (l : List UInt8) : Prop :=
  Rb w w.heap.size A n c l ∧ (0 < n → ∃ g, A = some ⟨g, 0, none⟩ ∧ base ≤ g ∧ g < w.heap.size ∧ ∀ j, j < n → w.frozen? ⟨g, j, none⟩ = false)
theorem _root_.Go.Proofs.YtknmhdkomjjneaaGreatDoor.Own.wt {w : World} {e : TypeId} {base c : Nat} {A : Option Addr} {l : List UInt8} (h : Own w e base A c l) : Wt w base A l.length c l :=
  ⟨h.rb, fun hn => by
    obtain ⟨g, rfl, hb⟩ := h.at_base hn
    exact ⟨g, rfl, hb, (own_ob h g rfl).2, fun j _ => Own.frozenAt h j⟩⟩
def RetW (w : World) (p : List UInt8 × Nat) (e : Ending) (w' : World) : Prop :=
  ∃ A c, e = .returned (.tuple #[.slice A p.1.length c, .int .i64 (p.2 : Int)]) ∧ Wt w' w.heap.size A p.1.length c p.1 ∧ Below w.heap.size w w'
def WrI (l : List Sm.R) (n s ob n₀ : Nat) (wL : World) (pre : List (Bk n)) (W : World) : Prop :=
  ∃ A c L, Boxed W ob 22 (.slice A (List.length L) c) ∧ ((pre = [] ∧ A = some ⟨s + 1 + 1, 0, none⟩ ∧ c = 4) ∨ Own W 5 n₀ A c L) ∧ L = Sm.hd ++ wck l (pre.map (·.1)) ∧ L.length ≤ 4 + 602000 * pre.length ∧
    W.heap[s + 1 + 1]? = some (.cells #[.int .u8 84, .int .u8 83, .int .u8 81, .int .u8 49] 5 (4, 5)) ∧ But s (ob + 1) n₀ wL W ∧ n₀ ≤ W.heap.size ∧
    Boxed W s 22 (.slice none 0 0) ∧ Boxed W (s + 1) 28 (.int .i64 0) ∧ ∀ p ∈ pre, (chk l p.1).all Sm.okR = true
def WrX (l : List Sm.R) (n s ob n₀ : Nat) (wL : World) (j : Code) (pre : List (Bk n)) (W : World) : Prop :=
  j = .ret ∧ (∃ p ∈ pre, (chk l p.1).all Sm.okR = false) ∧ But s (ob + 1) n₀ wL W ∧ n₀ ≤ W.heap.size ∧ Boxed W s 22 (.slice none 0 0) ∧ Boxed W (s + 1) 28 (.int .i64 10)
theorem heap_turn {W W' : World} {row : Option Nat} {b : Nat} {o : Obj} (h : W.heap[b]? = some o) (hg : W.grownBy W' row) (hne : ∀ r, row = some r → b ≠ r) : W'.heap[b]? = some o :=
  (hg.block b (Array.getElem?_eq_some_iff.1 h).1 (fun e => hne b e.symm rfl)).trans h
theorem wrI_own (l : List Sm.R) (n s ob n₀ : Nat) (wL : World) (hlo : ob + 1 ≤ n₀) (hsb : s + 3 ≤ ob) : OwnFrom n₀ (WrI l n s ob n₀ wL) := by
  rintro pre W W' row ⟨A, c, L, h1, h2, h3, h3l, h4, h5, h6, h7, h8, h9⟩ hg hr
  have hk : ∀ {b : Nat} {t : TypeId} {v : Value}, Boxed W b t v → b < n₀ → Boxed W' b t v := fun {b} _ _ h hb => h.kept hg (fun e => by have := (hr b e.symm).1; omega)
  refine ⟨A, c, L, hk h1 (by omega), ?_, h3, h3l, heap_turn h4 hg (fun r e => by have := (hr r e).1; omega), but_turn h5 hg (fun r e => (hr r e).1) h6, Nat.le_trans h6 hg.size, hk h7 (by omega), hk h8 (by omega), h9⟩
  rcases h2 with h2 | h2
  · exact .inl h2
  · exact .inr (oc_turn (z := 1) (vs := bvs L) h2 hg (fun r e => (hr r e).2))
theorem wrX_own (l : List Sm.R) (n s ob n₀ : Nat) (wL : World) (hlo : ob + 1 ≤ n₀) (hsb : s + 3 ≤ ob) (j : Code) : OwnFrom n₀ (WrX l n s ob n₀ wL j) := by
  rintro pre W W' row ⟨hj, h1, h5, h6, h7, h8⟩ hg hr
  have hk : ∀ {b : Nat} {t : TypeId} {v : Value}, Boxed W b t v → b < n₀ → Boxed W' b t v := fun {b} _ _ h hb => h.kept hg (fun e => by have := (hr b e.symm).1; omega)
  exact ⟨hj, h1, but_turn h5 hg (fun r e => (hr r e).1) h6, Nat.le_trans h6 hg.size, hk h7 (by omega), hk h8 (by omega)⟩
end Go.Proofs.YtknmhdkomjjneaaGreatDoor.Sq

namespace Go.Proofs.YtknmhdkomjjneaaGreatDoor.Sq
open Go.RowKit Go.Shelf
attribute [local go_sem] Oper.semAt_some

set_option maxRecDepth 100000 in
set_option maxHeartbeats 4000000 in
theorem write_c (A : Option Addr) (n c : Nat) (l : List Sm.R) (w : World) (hr : RL w w.heap.size A n c l) (hn : n ≤ 150) (hnc : n ≤ c) (hx : Mx w) :
    Calls Tryz.prog 101 #[.slice A n c] w (RetW w (Sm.wrS l)) := by
  have hl := hr.len
  have hw0 := hx.2
  obtain ⟨w1, hw1⟩ : ∃ w1, w1 = (w.alloc (.cells #[.slice none 0 0] 22)).alloc (.cells #[.int .i64 0] 28) := ⟨_, rfl⟩
  have z1 : w1.heap.size = w.heap.size + 1 + 1 := by rw [hw1]; simp
  have b1 : Below w.heap.size w w1 := by rw [hw1]; exact ((Below.refl _ _).alloc (Nat.le_refl _) _).alloc (by simp) _
  have c1 : Boxed w1 w.heap.size 22 (.slice none 0 0) := by rw [hw1]; exact (Boxed.new w _ _).alloc _
  have c2 : Boxed w1 (w.heap.size + 1) 28 (.int .i64 0) := by
    rw [hw1]
    have := Boxed.new (w.alloc (.cells #[.slice none 0 0] 22)) 28 (.int .i64 0)
    rwa [World.size_alloc] at this
  obtain ⟨w2, hw2⟩ : ∃ w2, w2 = w1.alloc (.cells #[.int .u8 84, .int .u8 83, .int .u8 81, .int .u8 49] 5 (4, 5)) := ⟨_, rfl⟩
  have z2 : w2.heap.size = w1.heap.size + 1 := by rw [hw2]; simp
  have b2 : Below w1.heap.size w1 w2 := by rw [hw2]; exact (Below.refl _ _).alloc (Nat.le_refl _) _
  have hk2 : w2.heap[w1.heap.size]? = some (.cells #[.int .u8 84, .int .u8 83, .int .u8 81, .int .u8 49] 5 (4, 5)) := by rw [hw2]; exact World.alloc_heap_new w1 _
  have hcv : (convert 22 22 (.slice (some ⟨w1.heap.size, 0, none⟩) 4 4)).run Tryz.prog (w1.alloc (.cells #[.int .u8 84, .int .u8 83, .int .u8 81, .int .u8 49] 5)) = .ok (.slice (some ⟨w1.heap.size, 0, none⟩) 4 4) w2 := by
    rw [hw2]; exact Lib.run_convert_bytes_const (P := Tryz.prog) w1 22 5 #[.int .u8 84, .int .u8 83, .int .u8 81, .int .u8 49] 4 4 Tryz.underlying22 Tryz.underlying5
  rw [z1] at hcv hk2
  rw [hw1] at hcv
  have q2 : w.heap.size + 3 ≤ w2.heap.size := by omega
  have b02 : Below w.heap.size w w2 := b1.trans (b2.mono (by omega))
  have Hr := Lib.hid hr; have Hx := Lib.hid hx; have Hl := Lib.hid hl; have B02 := Lib.hid b02; have C1 := Lib.hid (boxed_below c1 b2 (by omega)); have C2 := Lib.hid (boxed_below c2 b2 (by omega)); have K2 := Lib.hid hk2
  clear hr hx hl b1 b2 b02 hw1 hw2 c1 c2 z1 z2 hk2
  refine (callsIn_wide (n := 9)).1 ?_
  refine callsIn_of_wp_marks Tryz.func101 rfl trivial ?_ rfl
  simp only [Tryz.ntmps101, List.size_toArray, List.length_cons, List.length_nil, Nat.reduceAdd, Nat.reduceSub, Array.replicate_succ, Array.replicate_zero, List.push_toArray, List.append_toArray, List.nil_append, List.cons_append]
  gi_wp2
  obtain ⟨w3, hw3⟩ : ∃ w3, w3 = w2.alloc (.cells #[.slice (some ⟨w.heap.size + 1 + 1, 0, none⟩) 4 4] 22) := ⟨_, rfl⟩
  have b23 : Below w2.heap.size w2 w3 := by rw [hw3]; exact (Below.refl _ _).alloc (Nat.le_refl _) _
  have z3 : w3.heap.size = w2.heap.size + 1 := by rw [hw3]; simp
  have hl3 : Boxed w3 w2.heap.size 22 (.slice (some ⟨w.heap.size + 1 + 1, 0, none⟩) 4 4) := by rw [hw3]; exact Boxed.new w2 _ _
  rw [← hw3]
  clear hw3 hcv
  refine ⟨trivial, (callsIn_wide.2 (table_c w3)).mono ?_⟩
  rintro e w4 ⟨rfl, ht4, hb4, hz4⟩
  have HL3 := Lib.hid (boxed_below hl3 hb4 (by omega))
  rw [z3] at ht4 hb4
  rw [z3]
  have HT4 := Lib.hid ht4; have HB4 := Lib.hid hb4
  clear hl3 ht4
  have q4 : w2.heap.size + 1 < w4.heap.size := by omega
  clear hz4 z3 hb4
  gi_wp2
  obtain ⟨w5, hw5⟩ : ∃ w5, w5 = w4.alloc (.cells #[.slice (some ⟨w2.heap.size + 1, 0, none⟩) 256 256] 145) := ⟨_, rfl⟩
  have ht5 : Boxed w5 w4.heap.size 145 (.slice (some ⟨w2.heap.size + 1, 0, none⟩) 256 256) := by rw [hw5]; exact Boxed.new w4 _ _
  have b45 : Below w4.heap.size w4 w5 := by rw [hw5]; exact (Below.refl _ _).alloc (Nat.le_refl _) _
  have z5 : w5.heap.size = w4.heap.size + 1 := by rw [hw5]; simp
  rw [← hw5]
  clear hw5
  refine ⟨trivial, (callsIn_wide.2 (chunk_c A n c w5)).mono ?_⟩
  rintro e w6 ⟨rfl, hw6⟩
  have z6 : w6.heap.size = w5.heap.size + 2 := by rw [hw6]; simp
  have b56 : Below w5.heap.size w5 w6 := by rw [hw6]; exact ((Below.refl _ _).alloc (Nat.le_refl _) _).alloc (by simp) _
  have hBs : w6.cell? ⟨w5.heap.size, 0, none⟩ = some (.slice A n c) := by
    rw [hw6, World.cell?_alloc_lt _ _ _ (by simp)]; simp
  have hBn : w6.cell? ⟨w5.heap.size + 1, 0, none⟩ = some (.int .i64 3) := by
    rw [hw6]
    have := (Boxed.new (w5.alloc (.cells #[.slice A n c] 55)) 3 (.int .i64 3)).cell
    rwa [World.size_alloc] at this
  clear hw6
  have b26 : Below (w2.heap.size + 1) w4 w6 := (b45.trans (b56.mono (by omega))).mono (by omega)
  have b46 : Below w4.heap.size w4 w6 := b45.trans (b56.mono (by omega))
  have b36 : Below (w2.heap.size + 1) w3 w6 := HB4.out.trans b26
  have b06 : Below w.heap.size w w6 := (B02.out.trans (b23.mono (by omega))).trans (b36.mono (by omega))
  have hl6 : Boxed w6 w2.heap.size 22 (.slice (some ⟨w.heap.size + 1 + 1, 0, none⟩) 4 4) := boxed_below HL3.out b46 (by omega)
  have ht6 : Boxed w6 w4.heap.size 145 (.slice (some ⟨w2.heap.size + 1, 0, none⟩) 256 256) := boxed_below ht5 b56 (by omega)
  have hT6 : Rn w6 w4.heap.size (some ⟨w2.heap.size + 1, 0, none⟩) 256 256 Cm.tab := HT4.out.below b46
  have b2to6 : Below w2.heap.size w2 w6 := b23.trans (b36.mono (by omega))
  have c1 := boxed_below C1.out b2to6 (by omega)
  have c2 := boxed_below C2.out b2to6 (by omega)
  have hk6 : w6.heap[w.heap.size + 1 + 1]? = some (.cells #[.int .u8 84, .int .u8 83, .int .u8 81, .int .u8 49] 5 (4, 5)) := (b2to6.block _ (by omega)).trans K2.out
  have q6 : w5.heap.size + 2 ≤ w6.heap.size := by omega
  have q5 : w4.heap.size + 1 ≤ w5.heap.size := by omega
  clear z6 z5 b56 b45 b23 b2to6
  gi_wp2
  refine wpIn_rangeFunc_ownG rfl (by omega) (gf := 157) (lb := #[.pointer (some ⟨w5.heap.size, 0, none⟩), .pointer (some ⟨w5.heap.size + 1, 0, none⟩)]) rfl trivial
    (enters_of Tryz.func157 (by kernel_rfl) rfl)
    (chunk_stops A n c w.heap.size (w2.heap.size + 1) w6 (by omega) hnc w5.heap.size (w5.heap.size + 1) ⟨hBs, by omega, by omega⟩ ⟨hBn, by omega, by omega⟩ 7)
    (fun h k => h.trans k) (fun W L o o' h1 h2 _ _ => but_put h1 h2) (Below.refl _ _) (fun _ => rfl)
    (WrI l n w.heap.size w2.heap.size w6.heap.size w6) (WrX l n w.heap.size w2.heap.size w6.heap.size w6) (wrI_own l n _ _ _ w6 (by omega) (by omega)) (wrX_own l n _ _ _ w6 (by omega) (by omega))
    ⟨some ⟨w.heap.size + 1 + 1, 0, none⟩, 4, Sm.hd, hl6, .inl ⟨rfl, rfl, rfl⟩, by simp [wck], by simp [Sm.hd], hk6, But.refl _, Nat.le_refl _, c1, c2, fun p hp => by cases hp⟩
    (fun x => { tmps := #[.slice A n c, undef, .pointer (some ⟨w.heap.size, 0, none⟩), .pointer (some ⟨w.heap.size + 1, 0, none⟩), .pointer (some ⟨w2.heap.size, 0, none⟩), .pointer (some ⟨w4.heap.size, 0, none⟩),
      .slice (cutA A x.1.2 x.1.1) (x.1.2 - x.1.1) (x.1.2 - x.1.1), .slice (some ⟨w.heap.size + 1 + 1, 0, none⟩) 4 4, .slice (some ⟨w.heap.size + 1 + 1, 0, none⟩) 4 4, .slice (some ⟨w2.heap.size + 1, 0, none⟩) 256 256, .slice A n c,
      .func (.func 157) #[] #[.pointer (some ⟨w5.heap.size, 0, none⟩), .pointer (some ⟨w5.heap.size + 1, 0, none⟩)], .slice (cutA A x.1.2 x.1.1) (x.1.2 - x.1.1) (x.1.2 - x.1.1),
      undef, undef, undef, undef, undef, undef, undef, undef], defers := [] }) ?assign ?body ?done ?stop
  case assign =>
    intro L x W K hK
    simp only [encC]
    gi_wp2
    exact hK
  case body =>
    rintro j pre x W ⟨A2, c2, L, hbx, hown, hL, hLl, hkc, hbut, hsz, r1, r2, hall⟩ hlen
    have hbel : Below w.heap.size w W := b06.trans (hbut.below (by omega))
    have hchk : RL W W.heap.size (cutA A x.1.2 x.1.1) (x.1.2 - x.1.1) (x.1.2 - x.1.1) (chk l x.1) := ((Hr.out.below hbel).more hbel.size).chunk x.2.1 x.2.2
    have hmay := may_c (cutA A x.1.2 x.1.1) (x.1.2 - x.1.1) (x.1.2 - x.1.1) _ (chk l x.1) W hchk _ rfl
    have hTW := (hT6.other (hbut.block (w2.heap.size + 1) (by omega) (by omega))).more (B' := W.heap.size) (by omega)
    have hct := (boxed_but ht6 hbut (by omega) (by omega)).cell
    have hl2 := hbx.cell
    cases hok : (chk l x.1).all Sm.okR with
    | false =>
      rw [hok] at hmay
      have Hmay := Lib.hid hmay; have Hok := Lib.hid hok; have R1 := Lib.hid r1; have R2 := Lib.hid r2
      have g1c := r1.cell
      have g1f := r1.frozen
      have g2c := r2.cell
      have g2f := r2.frozen
      clear hmay hok r1 r2 hown hkc hbx hTW hchk
      gi_wp2_with (refine ⟨trivial, ?_⟩; gi_at_call 128; refine (CallsIn.inRound j (callsIn_wide.2 Hmay.out)).mono ?_; rintro e w7 ⟨rfl, rfl⟩)
      refine ⟨((KeepsOthers.setCell _ _ _).from _).trans ((KeepsOthers.setCell _ _ _).from _), rfl, ⟨x, by simp, Hok.out⟩, ?_, by simp; omega, (R1.out.set _).other (by omega) _, (R2.out.other (by omega) _).set _⟩
      exact hbut.trans ((But.set _ (by omega) _).trans (But.set _ (by omega) _))
    | true =>
      rw [hok] at hmay
      have hox : OwnX W 5 w6.heap.size A2 c2 L := by
        rcases hown with ⟨h1, h2, h3⟩ | h
        · subst h1 h2 h3
          have hLh : L = Sm.hd := by rw [hL]; simp [wck]
          subst hLh
          refine .inr ⟨by decide, rfl, _, rfl, (Array.getElem?_eq_some_iff.1 hkc).1, fun q y hq => ?_⟩
          rw [cell_of_row W _ q _ _ _ hkc]
          match q, hq with
          | 0, hq => simp [Sm.hd] at hq; subst hq; rfl
          | 1, hq => simp [Sm.hd] at hq; subst hq; rfl
          | 2, hq => simp [Sm.hd] at hq; subst hq; rfl
          | 3, hq => simp [Sm.hd] at hq; subst hq; rfl
        · exact .inl h
      have hxw : Mx W := Hx.out.below' hbel
      have hbl : (Sm.blkw (chk l x.1)).length ≤ 602000 := by
        have h1 := Sm.recsB_len _ hok
        have h0 := hchk.len
        have hx2 := x.2.2
        have h2 := Sm.vb_three (chk l x.1).length (by omega)
        have h3 := Sm.esc_len (Sm.sealed (Sm.conts (chk l x.1)))
        have h4 : (Sm.sealed (Sm.conts (chk l x.1))).length = (Sm.conts (chk l x.1)).length + 4 := by simp [Sm.sealed, Cm.four_len]
        have h5 : (Sm.conts (chk l x.1)).length = (Vm.vb (chk l x.1).length).length + (Sm.recsB (chk l x.1)).length := by simp [Sm.conts]
        unfold Sm.blkw
        rw [List.length_cons, List.length_cons]
        omega
      have hadd := addBlock_c A2 c2 w6.heap.size L (some ⟨w2.heap.size + 1, 0, none⟩) 256 (cutA A x.1.2 x.1.1) (x.1.2 - x.1.1) (x.1.2 - x.1.1) (chk l x.1) W hox hsz (by omega) hTW hchk hok (by have := x.2.2; omega) (by omega) hxw
      obtain ⟨N, hN⟩ : ∃ N, N = L ++ Sm.blkw (chk l x.1) := ⟨_, rfl⟩
      rw [← hN] at hadd
      have hNl : N.length ≤ 4 + 602000 * (pre.length + 1) := by rw [hN, List.length_append]; omega
      have Hmay := Lib.hid hmay; have Hok := Lib.hid hok; have R1 := Lib.hid r1; have R2 := Lib.hid r2; have Hadd := Lib.hid hadd; have HN := Lib.hid hN; have HL := Lib.hid hL; have Hbx := Lib.hid hbx; have Hkc := Lib.hid hkc
      clear hmay hok r1 r2 hown hkc hTW hchk hadd hN hL hbx hox hbl
      gi_wp2_with (first
        | (refine ⟨trivial, ?_⟩; gi_at_call 128; refine (CallsIn.inRound j (callsIn_wide.2 Hmay.out)).mono ?_; rintro e w7 ⟨rfl, rfl⟩)
        | (refine ⟨trivial, ?_⟩; gi_at_call 129; refine (CallsIn.inRound j (callsIn_wide.2 Hadd.out)).mono ?_; rintro e w8 ⟨A8, c8, rfl, ho8, hb8, hk8⟩; have hB8 : Boxed w8 w2.heap.size 22 (.slice A2 L.length c2) := boxed_below Hbx.out hb8 (by omega); have hl8 := hB8.cell; have hf8 := hB8.frozen))
      have hbo : But w.heap.size (w2.heap.size + 1) w6.heap.size W w8 := but_of hb8 (Nat.le_refl _)
      have hsv : But w.heap.size (w2.heap.size + 1) w6.heap.size W (w8.setCell ⟨w2.heap.size, 0, none⟩ (.slice A8 N.length c8)) := hbo.trans (But.set w8 (by omega) _)
      have z8 := hb8.size
      refine ⟨(⟨hk8.size, fun k o _ => hk8.same k o (Nat.zero_le _)⟩ : KeepsFrom w6.heap.size W w8).trans ((KeepsOthers.setCell w8 ⟨w2.heap.size, 0, none⟩ (.slice A8 N.length c8)).from _), hsv, A8, c8, N, hB8.set _, .inr (ho8.setLow (by show w2.heap.size < w6.heap.size; omega) _), ?_, by rw [List.length_append]; simpa using hNl, ?_, hbut.trans hsv, by simp; omega,
        (boxed_below R1.out hb8 (by omega)).other (by omega) _, (boxed_below R2.out hb8 (by omega)).other (by omega) _, fun p hp => ?_⟩
      · rw [HN.out, HL.out, List.map_append, List.map_cons, List.map_nil, wck_snoc, List.append_assoc]
      · have h1 : w8.heap[w.heap.size + 1 + 1]? = _ := (hb8.block _ (by omega)).trans Hkc.out
        exact heap_turn h1 (grownBy_setCell' w8 w2.heap.size _) (fun r e => by cases e; omega)
      · rcases List.mem_append.1 hp with hp | hp
        · exact hall p hp
        · simp at hp; subst hp; exact Hok.out
  case done =>
    rintro D xs W hD hS ⟨A2, c2, L, hbx, hown, hL, hLl, hkc, hbut, hsz, r1, r2, hall⟩ hK
    have hl2 := hbx.cell
    have g1c := r1.cell
    have g1f := r1.frozen
    have g2c := r2.cell
    have g2f := r2.frozen
    have hokall : l.all Sm.okR = true := by
      have h1 := chk_all l l.length 0 (by omega) (fun p hp => by
        rw [Hl.out, ← hS] at hp
        obtain ⟨q, hq, rfl⟩ := List.mem_map.1 hp
        exact hall q hq)
      rwa [List.drop_zero] at h1
    have hwr : Sm.wrS l = (L, 0) := by
      rw [Sm.wrS_ok hokall, hL, hS, ← Hl.out, wck_wr]
    have hxs : xs = [] → n = 0 := fun e => by
      subst e
      rcases Nat.eq_zero_or_pos n with h | h
      · exact h
      · rw [ck_step h] at hS; cases hS
    have Hwr := Lib.hid hwr; have Hown := Lib.hid hown; have HL := Lib.hid hL; have Hkc := Lib.hid hkc; have Hbut := Lib.hid hbut
    clear hwr hown hL hkc hokall hbut
    gi_wp2
    obtain ⟨W3, hW3⟩ : ∃ W3, W3 = (W.setCell ⟨w.heap.size, 0, none⟩ (.slice A2 L.length c2)).setCell ⟨w.heap.size + 1, 0, none⟩ (.int .i64 0) := ⟨_, rfl⟩
    have hK3 : W3.heap[D]? = some (.deferred (some [])) := by
      rw [hW3]
      exact ((KeepsOthers.setCell W ⟨w.heap.size, 0, none⟩ (.slice A2 L.length c2)).trans (KeepsOthers.setCell _ _ _)).same D _ hK rfl
    have g1 : Boxed W3 w.heap.size 22 (.slice A2 L.length c2) := by rw [hW3]; exact (r1.set _).other (by omega) _
    have g2 : Boxed W3 (w.heap.size + 1) 28 (.int .i64 0) := by rw [hW3]; exact (r2.other (by omega) _).set _
    have ho3 : (xs = [] ∧ A2 = some ⟨w.heap.size + 1 + 1, 0, none⟩ ∧ c2 = 4) ∨ Own W3 5 w6.heap.size A2 c2 L := by
      rcases Hown.out with h | h
      · exact .inl h
      · exact .inr (by rw [hW3]; exact (h.setLow (by show w.heap.size < w6.heap.size; omega) _).setLow (by show w.heap.size + 1 < w6.heap.size; omega) _)
    have hk3 : W3.heap[w.heap.size + 1 + 1]? = some (.cells #[.int .u8 84, .int .u8 83, .int .u8 81, .int .u8 49] 5 (4, 5)) := by
      rw [hW3]
      exact heap_turn (heap_turn Hkc.out (grownBy_setCell' W w.heap.size _) (fun r e => by cases e; omega)) (grownBy_setCell' _ (w.heap.size + 1) _) (fun r e => by cases e; omega)
    have hb3 : But w.heap.size (w2.heap.size + 1) w6.heap.size w6 W3 := by
      rw [hW3]
      exact Hbut.out.trans ((But.set W (by omega) _).trans (But.set _ (by omega) _))
    have hs3 : w6.heap.size ≤ W3.heap.size := by rw [hW3]; simp; omega
    rw [← hW3]
    have hg := grownBy_putObj' W3 D (.deferred none)
    have hnc : ∀ r, some D = some r → ∃ o : Obj, W3.heap[r]? = some o ∧ o.isCells = false := fun r e => by cases e; exact ⟨_, hK3, rfl⟩
    have hne : ∀ b, b < w6.heap.size → some b ≠ some D := fun b hb e => by cases e; omega
    refine ⟨by simp, .inl ⟨_, _, rfl, run_takeDeferred hK3, ?_⟩⟩
    refine ⟨_, results_cells2 rfl rfl rfl (g1.kept hg (hne _ (by omega))).cell (g2.kept hg (hne _ (by omega))).cell Tryz.isAgg22 Tryz.isAgg28, A2, c2, ?_, ?_, ?_⟩
    · rw [Hwr.out]; rfl
    · rw [Hwr.out]
      dsimp only
      rcases ho3 with ⟨h1, h2, h3⟩ | h
      · subst h2 h3
        have hLh : L = Sm.hd := by rw [HL.out, h1]; simp [wck]
        have hk4 := heap_turn hk3 hg (fun r e => by cases e; omega)
        subst hLh
        refine ⟨⟨rfl, Nat.le_refl _, by simp [maxLen], fun _ => ⟨_, 0, rfl, (Array.getElem?_eq_some_iff.1 hk4).1, fun q y hq => ?_⟩⟩, fun _ => ⟨_, rfl, by omega, (Array.getElem?_eq_some_iff.1 hk4).1, fun q hq => ?_⟩⟩
        · rw [cell_of_row _ _ (0 + q) _ _ _ hk4]
          match q, hq with
          | 0, hq => simp [Sm.hd] at hq; subst hq; rfl
          | 1, hq => simp [Sm.hd] at hq; subst hq; rfl
          | 2, hq => simp [Sm.hd] at hq; subst hq; rfl
          | 3, hq => simp [Sm.hd] at hq; subst hq; rfl
        · have hq4 : q < 4 := hq
          simp only [World.frozen?, hk4]
          simp
          omega
      · have h4 : Own (W3.putObj D (.deferred none)) 5 w6.heap.size A2 c2 L := oc_turn (z := 1) (vs := bvs L) h hg hnc
        exact (h4.mono (by omega)).wt
    · exact (b06.trans (hb3.below (by omega))).trans ((but_put (lo := w.heap.size) (hi := w2.heap.size + 1) (o' := .deferred none) hD hK3).below (by omega))
  case stop =>
    rintro D j pre W hD hpre ⟨rfl, ⟨p, hp, hpn⟩, hbut, hsz, r1, r2⟩ hK
    have hwr : Sm.wrS l = ([], 10) := Sm.wrS_err (chk_bad l p.1 hpn)
    have Hwr := Lib.hid hwr; clear hwr
    gi_wp2
    have hg := grownBy_putObj' W D (.deferred none)
    have hne : ∀ b, b < w6.heap.size → some b ≠ some D := fun b hb e => by cases e; omega
    refine ⟨by simp, .inl ⟨_, _, rfl, run_takeDeferred hK, ?_⟩⟩
    refine ⟨_, results_cells2 rfl rfl rfl (r1.kept hg (hne _ (by omega))).cell (r2.kept hg (hne _ (by omega))).cell Tryz.isAgg22 Tryz.isAgg28, none, 0, ?_, ?_, ?_⟩
    · rw [Hwr.out]; rfl
    · rw [Hwr.out]; exact ⟨Rb.nil _ _, fun h => absurd h (by simp)⟩
    · exact (b06.trans (hbut.below (by omega))).trans ((but_put (lo := w.heap.size) (hi := w2.heap.size + 1) (o' := .deferred none) hD hK).below (by omega))
end Go.Proofs.YtknmhdkomjjneaaGreatDoor.Sq

namespace Go.Proofs.YtknmhdkomjjneaaGreatDoor.Sq
open Go.RowKit
end Go.Proofs.YtknmhdkomjjneaaGreatDoor.Sq
