import Derived.Test.YtkekmokdlgocaaaGreatDoorJW27
import Derived.RangeFuncNested
import Derived.RangeFuncBound
import Derived.Shelf.RegionOpen
import Derived.OwnWalkIn
import Derived.LoopNIn
import Derived.LoopIn
import Derived.Test.YtkekmokdlgocaaaGreatDoorJW13
set_option maxRecDepth 100000
set_option maxHeartbeats 4000000
namespace Go.Proofs.YtkekmokdlgocaaaGreatDoor.Sq
open Go.RowKit Go.Shelf
attribute [local go_sem] Oper.semAt_some
structure But (lo hi n₀ : Nat) (W W' : World) : Prop where
 os : W'.os = W.os
 tape : W'.tape = W.tape
 output : W'.output = W.output
 size : W.heap.size ≤ W'.heap.size
 block : ∀ k, k < n₀ → ¬ (lo ≤ k ∧ k < hi) → W'.heap[k]? = W.heap[k]?
section
variable {lo hi n₀ : Nat} {W W' W'' : World}
theorem But.refl (W : World) : But lo hi n₀ W W := ⟨rfl, rfl, rfl, Nat.le_refl _, fun _ _ _ => rfl⟩
theorem But.trans (h : But lo hi n₀ W W') (k : But lo hi n₀ W' W'') : But lo hi n₀ W W'' :=
 ⟨k.os.trans h.os, k.tape.trans h.tape, k.output.trans h.output, Nat.le_trans h.size k.size, fun i hi hn => (k.block i hi hn).trans (h.block i hi hn)⟩
theorem but_of {B : Nat} (h : Below B W W') (hB : n₀ ≤ B) : But lo hi n₀ W W' := ⟨h.os, h.tape, h.output, h.size, fun k hk _ => h.block k (by omega)⟩
theorem But.cell (h : But lo hi n₀ W W') {p : Addr} (hp : p.block < n₀) (hn : ¬ (lo ≤ p.block ∧ p.block < hi)) : W'.cell? p = W.cell? p := by
 unfold World.cell?
 rw [h.block _ hp hn]
theorem But.set (W : World) {b : Nat} (hp : lo ≤ b ∧ b < hi) (v : Value) : But lo hi n₀ W (W.setCell ⟨b, 0,none⟩ v) :=
 let g := grownBy_setCell' W b v
 ⟨g.os, g.tape, g.output, g.size, fun k hk hn => by
  rcases Nat.lt_or_ge k W.heap.size with h | h
  ·exact g.block k h (fun e => by cases e; exact hn hp)
  ·have hs : (W.setCell ⟨b, 0,none⟩ v).heap.size = W.heap.size := by simp
   rw [Array.getElem?_eq_none h, Array.getElem?_eq_none (by omega)]⟩
theorem But.below (h : But lo hi n₀ W W') (hlo : lo ≤ n₀) : Below lo W W' := ⟨h.os, h.tape, h.output, h.size, fun k hk => h.block k (by omega) (by omega)⟩
end
def cutA (A : Option Addr) (c i : Nat) : Option Addr := if c = i then A else A.map (·.add i)
theorem _root_.Go.Proofs.YtkekmokdlgocaaaGreatDoor.U8.midE {P : Program} {t e s : TypeId} (u : U8 P t e s) {w : World} {B n c : Nat} {A : Option Addr} {l : List UInt8} (h : Rb w B A n c l) {i k : Nat} (hi : i ≤ k) (hk : k ≤ n) (W : World) :
  (Instr.slice t (.slice A n c) (some (.int .i64 (i : Int))) (some (.int .i64 (k : Int))) none).run P W = .ok (.slice (cutA A c i) (k - i) (c - i)) W := by
 rw [run_slice_lh W t _ _ _ u.sl' .i64 .i64 (i : Int) (k : Int) (by omega) (by omega) (by have := h.2.1; omega), u.sz]
 simp [Result.andThen, sliced, cutA]
theorem _root_.Go.Proofs.YtkekmokdlgocaaaGreatDoor.Rb.midE {w : World} {B n c : Nat} {A : Option Addr} {l : List UInt8} (h : Rb w B A n c l) {i k : Nat} (hi : i ≤ k) (hk : k ≤ n) : Rb w B (cutA A c i) (k - i) (c - i) ((l.take k).drop i) := h.mid hi hk
abbrev Bk (n : Nat) := { p : Nat × Nat // p.1 ≤ p.2 ∧ p.2 ≤ n }
def encB (A : Option Addr) (c : Nat) {n : Nat} (x : Bk n) : Array Value := #[.int .i64 (x.1.1 : Int), .slice (cutA A c x.1.1) (x.1.2 - x.1.1) (c - x.1.1)]
theorem blocks_c (A : Option Addr) (n c : Nat) (f t : Int) (w : World) :
  Calls Tryz.prog 102 #[.slice A n c, .int .i64 f, .int .i64 t] w fun e w' =>
   e = .returned (.func (.func 139) #[] #[.pointer (some ⟨w.heap.size + 1, 0,none⟩), .pointer (some ⟨w.heap.size + 2, 0,none⟩), .pointer (some ⟨w.heap.size, 0,none⟩)]) ∧
   w' = ((w.alloc (.cells #[.slice A n c] 22)).alloc (.cells #[.int .i64 f] 3)).alloc (.cells #[.int .i64 t] 3) := by
 go_enter Tryz.func102, Tryz.ntmps102
 go_wp2
 go_ret
 exact ⟨rfl,rfl⟩
theorem blocks_stops (A : Option Addr) (n c : Nat) (l : List UInt8) (f t lo hi : Nat) (w : World) (hr : Rb w lo A n c l) (hn : n ≤ 1000000) (hx : Mx w) (hlo0 : 0 < lo) (Bf Bt Bb : Nat) (hBf : w.cell? ⟨Bf, 0,none⟩ = some (.int .i64 (f : Int)) ∧ hi ≤ Bf ∧ Bf < w.heap.size)
  (hBt : w.cell? ⟨Bt, 0,none⟩ = some (.int .i64 (t : Int)) ∧ hi ≤ Bt ∧ Bt < w.heap.size) (hBb : w.cell? ⟨Bb, 0,none⟩ = some (.slice A n c) ∧ hi ≤ Bb ∧ Bb < w.heap.size) (hlo : lo ≤ hi) (ht : t ≤ n) (m : Nat) :
  SeqStopsK Fence.wide (m + 1) Tryz.prog 139 #[.pointer (some ⟨Bf, 0,none⟩), .pointer (some ⟨Bt, 0,none⟩), .pointer (some ⟨Bb, 0,none⟩)] (encB A c (n := n)) (But lo hi w.heap.size)
   (fun xs => xs.map (·.1) = Sm.sg l f t) (fun pre => pre.map (·.1) <+: Sm.sg l f t) (n + 1) w := fun L J Jx W hW hJ hJx hY h0 => by
 have hl := hr.len
 have kBf : W.cell? ⟨Bf, 0,none⟩ = some (.int .i64 (f : Int)) := (hW.cell (p := ⟨Bf, 0,none⟩) hBf.2.2).trans hBf.1
 have hWs := hW.size
 have Hr := ek hr; have Hx := ek hx; have Hl := ek hl; clear hr hx hl
 refine callsIn_of_wp Tryz.func139 rfl trivial ?_ rfl
 simp only [Tryz.ntmps139, List.size_toArray, List.length_cons, List.length_nil, Nat.reduceAdd, Nat.reduceSub, Array.replicate_succ, Array.replicate_zero, List.push_toArray, List.append_toArray, List.nil_append, List.cons_append]
 gi_wp2
 gi_loopw [5] (fun a wr => ∃ (pre : List (Bk n)) (k : Nat), a = .int .i64 (k : Int) ∧ J pre wr ∧ But lo hi w.heap.size W wr ∧ W.heap.size ≤ wr.heap.size ∧ Hid (Sm.sg l f t = pre.map (·.1) ++ Sm.sg l k t) ∧ pre.length ≤ k)
  (fun a _ => t - (intOf a).toNat)
 case atStart => exact ⟨[], f, rfl, h0, But.refl W, Nat.le_refl _, ek rfl, Nat.zero_le _⟩
 case round =>
  obtain ⟨pre, k, rfl, hJs, hbut, hws, hseg, hpl⟩ := hrel
  have kBt : wr.cell? ⟨Bt, 0,none⟩ = some (.int .i64 (t : Int)) := (hbut.cell (p := ⟨Bt, 0,none⟩) hBt.2.2 (by show ¬ (lo ≤ Bt ∧ Bt < hi); omega)).trans ((hW.cell (p := ⟨Bt, 0,none⟩) hBt.2.2).trans hBt.1)
  have kBb : wr.cell? ⟨Bb, 0,none⟩ = some (.slice A n c) := (hbut.cell (p := ⟨Bb, 0,none⟩) hBb.2.2 (by show ¬ (lo ≤ Bb ∧ Bb < hi); omega)).trans ((hW.cell (p := ⟨Bb, 0,none⟩) hBb.2.2).trans hBb.1)
  by_cases hlt : k < t
  ·have hbel : Below lo w wr := (hW.mono (by omega)).trans (hbut.below (by omega))
   have hrw := (Hr.out.below hbel).more (B' := wr.heap.size) (by omega)
   have hxw : Mx wr := Hx.out.below hbel hlo0
   obtain ⟨q, hq⟩ : ∃ q, q = Sm.nxt l (k + 1) := ⟨_, rfl⟩
   have hql := Sm.nxt_le (b := l) (k := k + 1) (by rw [Hl.out]; omega)
   rw [← hq, Hl.out] at hql
   have hmk := marker_c A n c l ((k : Int) + 1) wr hrw hn hxw q (by rw [hq, show clamp ((k : Int) + 1) n = k + 1 from clamp_at (k + 1) n (by omega)])
   have hsl := bty.midE hrw (i := k) (k := q) (by omega) hql.2
   obtain ⟨x, hxv⟩ : ∃ x : Bk n, x.1 = (k, q) := ⟨⟨(k, q), by dsimp only; omega⟩, rfl⟩
   have hseg2 : Hid (Sm.sg l f t = (pre ++ [x]).map (·.1) ++ Sm.sg l q t) := ek (by
    rw [hseg.out, Sm.sg_step hlt, ← hq]
    simp [hxv])
   have Hmk := ek hmk; have Hq := ek hq; clear hmk hq hrw hxw hbel
   have henc : encB A c x = #[.int .i64 (k : Int), .slice (cutA A c k) (q - k) (c - k)] := by unfold encB; rw [hxv]
   have Henc := ek henc; clear henc
   gi_wp2_with (refine ⟨trivial, ?_⟩; gi_at_call 140; refine (callsIn_wide.2 Hmk.out).mono ?_; rintro e w2 ⟨rfl, hb2⟩; have kBb2 : w2.cell? ⟨Bb, 0,none⟩ = some (.slice A n c) := (hb2.cell (p := ⟨Bb, 0,none⟩) (by show Bb < wr.heap.size; omega)).trans kBb; obtain ⟨fn, tmps, assign, body, hy, hR⟩ := hY pre x w2 (hJ pre wr w2 none hJs (grown_below hb2 none) (fun r e => by cases e)) (by omega); rw [Henc.out] at hy)
   have hb2s := hb2.size
   refine hR.mono ?_
   rintro e W3 (⟨rfl, hJ3, hk3⟩ | ⟨rfl, hJx3⟩)
   ·have hbut3 := (hbut.trans (but_of hb2 (by omega))).trans hk3
    have hs3 := hk3.size
    clear hR hy
    gi_wp2
    go_roundw
    case rel => exact ⟨pre ++ [x], q, rfl, hJ3, hbut3, by omega, hseg2, by simp; omega⟩
    case measure => simp [intOf]; omega
   ·clear hR hy
    gi_wp2
    refine bodyPost_ret (results_none rfl _ _ _) rfl ?_
    exact ⟨⟨_, rfl⟩, .inr ⟨pre ++ [x], by rw [hseg2.out]; exact List.prefix_append _ _, hJx3⟩⟩
  ·have hend : Sm.sg l f t = pre.map (·.1) := by rw [hseg.out, Sm.sg_end (by omega), List.append_nil]
   have Hend := ek hend; clear hend
   gi_wp2
   go_end0
   exact ⟨⟨_, rfl⟩, .inl ⟨pre, Hend.out.symm, hJs⟩⟩
end Go.Proofs.YtkekmokdlgocaaaGreatDoor.Sq
namespace Go.Proofs.YtkekmokdlgocaaaGreatDoor.Sq
open Go.RowKit Go.Shelf
def isC (w : World) (b : Nat) : Prop := ∃ o : Obj, w.heap[b]? = some o ∧ o.isCells = true
theorem isC_of_cell {w : World} {p : Addr} {v : Value} (h : w.cell? p = some v) : isC w p.block := by
 unfold World.cell? at h
 cases hp : w.heap[p.block]? with
 | none => rw [hp] at h; simp at h
 | some o =>
  refine ⟨o, hp, ?_⟩
  rw [hp] at h
  cases o <;> simp_all [Obj.isCells]
def Sc (base : Nat) (w : World) (A : Option Addr) (b : Nat) : Prop := Sf base w A b ∧ isC w b
theorem sc_sf {base : Nat} {w : World} {A : Option Addr} : ∀ b, Sc base w A b → Sf base w A b := fun _ h => h.1
theorem _root_.Go.Proofs.YtkekmokdlgocaaaGreatDoor.RcS.cells {z : Nat} {w : World} {S : Nat → Prop} {A : Option Addr} {n c : Nat} {vs : List Value} (h : RcS z w S A n c vs) (hz : 0 < z) : RcS z w (fun b => S b ∧ isC w b) A n c vs :=
 ⟨h.1, h.2.1, h.2.2.1, fun hn => by
  obtain ⟨b, off, e, hb, hc⟩ := h.2.2.2 hn
  have hl : 0 < vs.length := by rw [h.1]; exact Nat.mul_pos hn hz
  exact ⟨b, off, e, ⟨hb, isC_of_cell (hc 0 _ (List.getElem?_eq_getElem hl))⟩, hc⟩⟩
theorem _root_.Go.Proofs.YtkekmokdlgocaaaGreatDoor.RrS.cells {w : World} {S : Nat → Prop} {v : Value} {r : List (List UInt8)} (h : RrS w S v r) : RrS w (fun b => S b ∧ isC w b) v r := by
 obtain ⟨A, n, c, e, h⟩ := h
 exact ⟨A, n, c, e, h.cells (by omega)⟩
theorem _root_.Go.Proofs.YtkekmokdlgocaaaGreatDoor.RrsS.cells {w : World} {S : Nat → Prop} {vs : List Value} {l : List (List (List UInt8))} (h : RrsS w S vs l) : RrsS w (fun b => S b ∧ isC w b) vs l := ⟨h.1, fun j v r h1 h2 => (h.2 j v r h1 h2).cells⟩
theorem _root_.Go.Proofs.YtkekmokdlgocaaaGreatDoor.RLS.cells {w : World} {S : Nat → Prop} {A : Option Addr} {n c : Nat} {l : List (List (List UInt8))} (h : RLS w S A n c l) : RLS w (fun b => S b ∧ isC w b) A n c l := by
 obtain ⟨vs, h1, h2⟩ := h
 exact ⟨vs, h1.cells (by omega), h2.cells⟩
theorem _root_.Go.Proofs.YtkekmokdlgocaaaGreatDoor.PrS.cells {w : World} {S : Nat → Prop} {u v : Value} {p : Nat × List (List (List UInt8))} (h : PrS w S u v p) : PrS w (fun b => S b ∧ isC w b) u v p := by
 obtain ⟨e, A, n, c, e2, h⟩ := h
 exact ⟨e, A, n, c, e2, h.cells⟩
theorem _root_.Go.Proofs.YtkekmokdlgocaaaGreatDoor.PsS.cells {w : World} {S : Nat → Prop} {vs : List Value} {l : List (Nat × List (List (List UInt8)))} (h : PsS w S vs l) : PsS w (fun b => S b ∧ isC w b) vs l :=
 ⟨h.1, fun j p hp => by
  obtain ⟨u, v, h1, h2, h3⟩ := h.2 j p hp
  exact ⟨u, v, h1, h2, h3.cells⟩⟩
theorem sc_turn {base : Nat} {W W' : World} {A : Option Addr} {row : Option Nat} (hg : W.grownBy W' row) (hr : ∀ r, row = some r → ∃ o : Obj, W.heap[r]? = some o ∧ o.isCells = false) : Stays W W' (Sc base W A) (Sc base W' A) := by
 have hk : ∀ b, isC W b → b < W.heap.size → W'.heap[b]? = W.heap[b]? := fun b hb hlt => hg.block b hlt fun e => by
  obtain ⟨o, h1, h2⟩ := hr b e.symm
  obtain ⟨o', h3, h4⟩ := hb
  rw [h1] at h3
  injection h3 with h3
  subst h3
  rw [h2] at h4
  cases h4
 refine ⟨fun b ⟨⟨h1, h2, h3⟩, h4⟩ => ⟨⟨h1, Nat.lt_of_lt_of_le h2 hg.size, h3⟩, ?_⟩, fun p ⟨⟨_, h2, _⟩, h4⟩ => ?_⟩
 ·obtain ⟨o, h5, h6⟩ := h4
  exact ⟨o, (hk b ⟨o, h5, h6⟩ h2).trans h5, h6⟩
 ·unfold World.cell?
  rw [hk _ h4 h2]
theorem oc_turn {z : Nat} {W W' : World} {e : TypeId} {base n c : Nat} {A : Option Addr} {vs : List Value} {row : Option Nat} (h : Oc z W e base A n c vs) (hg : W.grownBy W' row) (hr : ∀ r, row = some r → ∃ o : Obj, W.heap[r]? = some o ∧ o.isCells = false) : Oc z W' e base A n c vs := by
 refine World.ownsRow.kept h hg ?_
 rw [ownBlock_slice]
 cases hA : ob A with
 | none => exact .inl rfl
 | some b =>
  refine .inr fun e2 => ?_
  obtain ⟨o, h1, h2⟩ := hr b e2.symm
  rcases h.2 with ⟨hv, hn⟩ | ⟨g, cap, cur, hv, hbg, hg2, _⟩
  ·injection hv with hv
   subst hv
   cases hA
  ·injection hv with hv
   subst hv
   cases hA
   rw [hg2] at h1
   injection h1 with h1
   subst h1
   cases h2
theorem sf_low {w : World} {base lo : Nat} {A : Option Addr} (h : lo < base) (v : Value) : Stays w (w.setCell ⟨lo, 0,none⟩ v) (Sf base w A) (Sf base (w.setCell ⟨lo, 0,none⟩ v) A) :=
 ⟨fun b ⟨h1, h2, h3⟩ => ⟨h1, by simpa using h2, h3⟩, fun p ⟨h1, _, _⟩ => World.cell?_setCell_other w _ _ v (fun e => by subst e; dsimp only at h1; omega)⟩
theorem oc_low {z : Nat} {w : World} {e : TypeId} {base n c lo : Nat} {A : Option Addr} {vs : List Value} (h : Oc z w e base A n c vs) (hl : lo < base) (v : Value) : Oc z (w.setCell ⟨lo, 0,none⟩ v) e base A n c vs := by
 refine World.ownsRow.kept h (grownBy_setCell' w lo v) ?_
 rw [ownBlock_slice]
 cases hA : ob A with
 | none => exact .inl rfl
 | some b => exact .inr fun e2 => by have := (oc_ob h b hA).1; cases e2; omega
theorem but_turn {lo hi n₀ : Nat} {w W W' : World} {row : Option Nat} (h : But lo hi n₀ w W) (hg : W.grownBy W' row) (hr : ∀ r, row = some r → n₀ ≤ r) (hs : n₀ ≤ W.heap.size) : But lo hi n₀ w W' :=
 h.trans ⟨hg.os, hg.tape, hg.output, hg.size, fun k hk _ => hg.block k (by omega) fun e => by have := hr k e.symm; omega⟩
theorem but_grow {lo hi n₀ base : Nat} {W W' : World} {A A' : Option Addr} (hg : Grows W W' A A') (hA : ∀ g, ob A = some g → base ≤ g) (hb : n₀ ≤ base) (hs : n₀ ≤ W.heap.size) : But lo hi n₀ W W' :=
 ⟨hg.1.os, hg.1.tape, hg.1.output, hg.1.size, fun k hk _ => hg.1.block k (by omega) fun e => by have := hA k e.symm; omega⟩
theorem but_put {lo hi n₀ l : Nat} {W : World} {o o' : Obj} (h : n₀ ≤ l) (hl : W.heap[l]? = some o) : But lo hi n₀ W (W.putObj l o') :=
 let g := grownBy_putObj' W l o'
 ⟨g.os, g.tape, g.output, g.size, fun k hk _ => g.block k (by have := (Array.getElem?_eq_some_iff.1 hl).1; omega) (fun e => by cases e; omega)⟩
theorem boxed_below {W W' : World} {B k : Nat} {t : TypeId} {v : Value} (h : Boxed W k t v) (hb : Below B W W') (hk : k < B) : Boxed W' k t v := (hb.block k hk).trans h
theorem boxed_but {lo hi n₀ k : Nat} {W W' : World} {t : TypeId} {v : Value} (h : Boxed W k t v) (hb : But lo hi n₀ W W') (hk : k < n₀) (hn : ¬ (lo ≤ k ∧ k < hi)) : Boxed W' k t v := (hb.block k hk hn).trans h
theorem keeps_of_below {W W' : World} (h : Below W.heap.size W W') (B : Nat) : KeepsFrom B W W' := ⟨h.size, fun k _ _ hk _ => (h.block k (Array.getElem?_eq_some_iff.1 hk).1).trans hk⟩
theorem keeps_grow {z : Nat} {W W' : World} {e : TypeId} {base n c : Nat} {A A' : Option Addr} {vs : List Value} (hg : Grows W W' A A') (h : Oc z W e base A n c vs) (B : Nat) : KeepsFrom B W W' :=
 ⟨hg.1.size, fun k o _ hk ho => (hg.1.block k (Array.getElem?_eq_some_iff.1 hk).1 fun e2 => by
  rcases h.2 with ⟨hv, hn⟩ | ⟨g, cap, cur, hv, hbg, hg2, _⟩
  ·injection hv with hv
   subst hv
   cases e2
  ·injection hv with hv
   subst hv
   cases e2
   rw [hg2] at hk
   injection hk with hk
   subst hk
   cases ho).trans hk⟩
theorem rrs_one {w : World} {S : Nat → Prop} {vs : List Value} {l : List (List (List UInt8))} (h : RrsS w S vs l) : ∀ v ∈ vs, v.oneCell' = true := by
 intro v hv
 obtain ⟨j, hj, rfl⟩ := List.getElem_of_mem hv
 obtain ⟨A, n, c, e, _⟩ := h.2 j vs[j] (l[j]'(by rw [← h.1]; exact hj)) (List.getElem?_eq_getElem hj) (List.getElem?_eq_getElem _)
 rw [e]; rfl
theorem _root_.Go.Proofs.YtkekmokdlgocaaaGreatDoor.Rn.other {w w' : World} {B n c g : Nat} {l : List Nat} (h : Rn w B (some ⟨g, 0,none⟩) n c l) (hg : w'.heap[g]? = w.heap[g]?) : Rn w' B (some ⟨g, 0,none⟩) n c l :=
 ⟨h.1, h.2.1, h.2.2.1, h.2.2.2.1, fun hn => by
  obtain ⟨b, off, e, hb, hc⟩ := h.2.2.2.2 hn
  injection e with e
  injection e with e1 e2
  subst e1 e2
  refine ⟨g, 0, rfl, hb, fun j x hx => ?_⟩
  have := hc j x hx
  unfold World.cell? at this ⊢
  dsimp only at this ⊢
  rw [hg]
  exact this⟩
section
variable {F : Fence} {nF : Nat} {P : Program} {t e : TypeId} {zv : Value} {z y : Nat}
theorem _root_.Go.Proofs.YtkekmokdlgocaaaGreatDoor.Sl.wpInApp (u : Sl P t e zv z y) {w : World} {ops : Array Oper} {rest : List Oper} {o : Oper} {a : Act} {Q : Exit → Act → World → Prop} (hgd : o.guard = none) (p q : Operand)
  (ho : o.op = .call { callee := .builtin .append, args := #[p, q], argTypes := #[t, t] })
  {base n c B m d N : Nat} {A D : Option Addr} {vs us ws : List Value} (hx : a.eval p = .slice A n c) (hy : a.eval q = .slice D m d) (hown : Oc z w e base A n c vs) (hr : Rc z w B D m d us) (h1 : ∀ v ∈ us, v.oneCell' = true)
  (hN : n + m = N) (hvs : vs ++ us = ws) (hsm : N * y ≤ 140737488355328) (hnm : N ≤ 140737488355328) (hbase : base ≤ w.heap.size)
  (h : ∀ A' c' w', Oc z w' e base A' N c' ws → Grows w w' A A' → wpListIn F nF P ops Q rest (a.put o.dst (.slice A' N c')) w') : wpListIn F nF P ops Q (o :: rest) a w := by
 subst hN hvs
 refine wpListIn_plain hgd fun K hK => ?_
 obtain ⟨A', c', w', hrun, h2, h3⟩ := u.appendAt o.type hown hr h1 hsm hnm hbase
 unfold Oper.wpIn
 refine ⟨by simp [Oper.about, ho, resolve, Target.leads, Sem.run_pure], ?_⟩
 rw [Oper.semAt_plain F _ _ (by rw [ho]; intro c hc'; cases hc')]
 simp [execOp, ho, resolve, invoke, builtin, hx, hy, hrun, Result.andThen]
 exact hK _ _ (h A' c' w' h2 h3)
end
theorem loadVar_box {P : Program} {W : World} {b : Nat} {t : TypeId} {v : Value} (hB : W.cell? ⟨b, 0,none⟩ = some v) (ht : ∀ w, (isAgg t).run P w = .ok false w) : (loadVar t ⟨b, 0,none⟩).run P W = .ok v W := by
 simp [loadVar, Sem.run_bind, ht, Result.andThen, run_load, hB]
theorem results_cells3 {fn : Func} {p q r : Tmp} {tp tq tr : TypeId} (h : fn.results = #[.cell p tp, .cell q tq, .cell r tr]) {tmps : Array Value} {P : Program} {w : World} {bp bq br : Nat} {vp vq vr : Value}
  (hp : tmps.getD p undef = .pointer (some ⟨bp, 0,none⟩)) (hq : tmps.getD q undef = .pointer (some ⟨bq, 0,none⟩)) (hr : tmps.getD r undef = .pointer (some ⟨br, 0,none⟩))
  (cp : w.cell? ⟨bp, 0,none⟩ = some vp) (cq : w.cell? ⟨bq, 0,none⟩ = some vq) (cr : w.cell? ⟨br, 0,none⟩ = some vr)
  (ap : ∀ w, (isAgg tp).run P w = .ok false w) (aq : ∀ w, (isAgg tq).run P w = .ok false w) (ar : ∀ w, (isAgg tr).run P w = .ok false w) :
  (results fn tmps).run P w = .ok (.tuple #[vp, vq, vr]) w := by
 rw [Array.getD_eq_getD_getElem?] at hp hq hr
 simp only [results, h]
 simp [Sem.run_bind, Result.andThen, hp, hq, hr, asAddr, loadVar_box cp ap, loadVar_box cq aq, loadVar_box cr ar]
end Go.Proofs.YtkekmokdlgocaaaGreatDoor.Sq
namespace Go.Proofs.YtkekmokdlgocaaaGreatDoor.Sq
open Go.RowKit Go.Shelf
attribute [local go_sem] Oper.semAt_some
def rcs (l : List UInt8) (L : List (Nat × Nat)) : List Sm.R := L.flatMap fun p => (Sm.val l p).getD []
theorem rcs_snoc (l : List UInt8) (L : List (Nat × Nat)) (p : Nat × Nat) : rcs l (L ++ [p]) = rcs l L ++ (Sm.val l p).getD [] := by simp [rcs]
theorem rcs_len (l : List UInt8) : ∀ L : List (Nat × Nat), (rcs l L).length ≤ 100 * L.length
 | [] => by simp [rcs]
 | p :: L => by
  have ih := rcs_len l L
  have e : rcs l (p :: L) = (Sm.val l p).getD [] ++ rcs l L := rfl
  have h1 : ((Sm.val l p).getD []).length ≤ 100 := by
   rcases h : Sm.val l p with _ | rs
   ·simp
   ·obtain ⟨e, s, c, _, _, _, h4⟩ := Sm.blk_inv h
    exact (Sm.cont_len h4).2.1
  rw [e, List.length_append, List.length_cons]
  omega
def RvI (l : List UInt8) (n lo hi n₀ : Nat) (wL : World) (pre : List (Bk n)) (W : World) : Prop :=
 ∃ A k c vs, Boxed W lo 30 (.slice A k c) ∧ Oc 1 W 77 n₀ A k c vs ∧ RrsS W (Sc n₀ W A) vs (rcs l (pre.map (·.1))) ∧ But lo hi n₀ wL W ∧ n₀ ≤ W.heap.size
theorem rvI_own (l : List UInt8) (n lo hi n₀ : Nat) (wL : World) (hlo : lo < n₀) : OwnFrom n₀ (RvI l n lo hi n₀ wL) := by
 rintro pre W W' row ⟨A, k, c, vs, h1, h2, h3, h4, h5⟩ hg hr
 exact ⟨A, k, c, vs, h1.kept hg (fun e => by have := (hr lo e.symm).1; omega), oc_turn h2 hg (fun r e => (hr r e).2), h3.keep (sc_turn hg fun r e => (hr r e).2), but_turn h4 hg (fun r e => (hr r e).1) h5, Nat.le_trans h5 hg.size⟩
def RvX (l : List UInt8) (n : Nat) (_c : Code) (pre : List (Bk n)) (_W : World) : Prop := ∃ p ∈ pre, Sm.val l p.1 = none
def RetRv (w : World) (rs : List Sm.R) (e : Ending) (w' : World) : Prop :=
 ∃ A k c, e = .returned (.slice A k c) ∧ k = rs.length ∧ RLS w' (Fr w.heap.size w') A k c rs ∧ Below w.heap.size w w'
theorem rvalid_c (A : Option Addr) (n c : Nat) (l : List UInt8) (a t : Nat) (w : World) (hr : Rb w w.heap.size A n c l) (hn : n ≤ 900000) (hx : Mx w) (ht : t ≤ n) (ha : a ≤ 1000000) (fs : Nat) (hfs : fs = Sm.nxt (l.take (min (t + 1) n)) (clamp a (min (t + 1) n)))
  (hv : ∀ p ∈ Sm.sg l fs t, (Sm.val l p).isSome = true) :
  Calls Tryz.prog 75 #[.slice A n c, .int .i64 (a : Int), .int .i64 (t : Int)] w (RetRv w (rcs l (Sm.sg l fs t))) := by
 have hl := hr.len
 have hw0 := hx.2
 obtain ⟨w1, hw1⟩ : ∃ w1, w1 = w.alloc (.cells #[.slice none 0 0] 30) := ⟨_, rfl⟩
 have b1 : Below w.heap.size w w1 := by rw [hw1]; exact ej _ _
 have z1 : w1.heap.size = w.heap.size + 1 := by rw [hw1]; simp
 have hb1 : Boxed w1 w.heap.size 30 (.slice none 0 0) := by rw [hw1]; exact Boxed.new w _ _
 have htab := table_c w1
 have Hr := ek hr; have Hx := ek hx; have Hv := ek hv; have Hfs := ek hfs; have B1 := ek b1; have HB1 := ek hb1; have Htab := ek htab; have Hl := ek hl; have W1 := ek hw1
 clear hr hx hv hfs b1 hb1 htab hl hw1
 refine (callsIn_wide (n := 9)).1 ?_
 refine callsIn_of_wp_marks Tryz.func75 rfl trivial ?_ rfl
 simp only [Tryz.ntmps75, List.size_toArray, List.length_cons, List.length_nil, Nat.reduceAdd, Nat.reduceSub, Array.replicate_succ, Array.replicate_zero, List.push_toArray, List.append_toArray, List.nil_append, List.cons_append]
 gi_wp2_with (refine ⟨trivial, ?_⟩; gi_at_call 101; rw [← W1.out]; refine (callsIn_wide.2 Htab.out).mono ?_; rintro e w2 ⟨rfl, ht2, hb2, hz2⟩)
 obtain ⟨w3, hw3⟩ : ∃ w3, w3 = w2.alloc (.cells #[.slice (some ⟨w.heap.size + 1, 0,none⟩) 256 256] 141) := ⟨_, rfl⟩
 have hb3 : Boxed w3 w2.heap.size 141 (.slice (some ⟨w.heap.size + 1, 0,none⟩) 256 256) := by rw [hw3]; exact Boxed.new w2 _ _
 have b23 : Below w2.heap.size w2 w3 := by rw [hw3]; exact ej _ _
 have z23 : w3.heap.size = w2.heap.size + 1 := by rw [hw3]; simp
 rw [← hw3]
 clear hw3
 have b03 : Below w.heap.size w w3 := (B1.out.trans (hb2.mono (by omega))).trans (b23.mono (by omega))
 have hr3 := (Hr.out.below b03).more (B' := w3.heap.size) (by omega)
 have hfc := fstart_c A n c l a t w3 hr3 (by omega) ht ha (Hx.out.below' b03) fs Hfs.out
 have Hfc := ek hfc; clear hfc hr3
 refine ⟨trivial, (callsIn_wide.2 Hfc.out).mono ?_⟩
 rintro e w4 ⟨rfl, hb4⟩
 have z4 := hb4.size
 gi_wp2_with (refine ⟨trivial, ?_⟩; gi_at_call 102; refine (callsIn_wide.2 (blocks_c A n c (fs : Int) (t : Int) _)).mono ?_; rintro e w5 ⟨rfl, hw5⟩)
 obtain ⟨v5, hv5⟩ : ∃ v5, v5 = ((w4.alloc (.cells #[.slice A n c] 22)).alloc (.cells #[.int .i64 (fs : Int)] 3)).alloc (.cells #[.int .i64 (t : Int)] 3) := ⟨_, rfl⟩
 have z5 : v5.heap.size = w4.heap.size + 3 := by rw [hv5]; simp
 have b45 : Below w4.heap.size w4 v5 := by rw [hv5]; exact ((ej _ _).alloc (by simp) _).alloc (by simp; omega) _
 have hBb : v5.cell? ⟨w4.heap.size, 0,none⟩ = some (.slice A n c) := by
  rw [hv5, World.cell?_alloc_lt _ _ _ (by simp; omega), World.cell?_alloc_lt _ _ _ (by simp)]; simp
 have hBf : v5.cell? ⟨w4.heap.size + 1, 0,none⟩ = some (.int .i64 (fs : Int)) := by
  rw [hv5, World.cell?_alloc_lt _ _ _ (by simp)]
  have := (Boxed.new (w4.alloc (.cells #[.slice A n c] 22)) 3 (.int .i64 (fs : Int))).cell
  rwa [World.size_alloc] at this
 have hBt : v5.cell? ⟨w4.heap.size + 2, 0,none⟩ = some (.int .i64 (t : Int)) := by
  rw [hv5]
  have := (Boxed.new ((w4.alloc (.cells #[.slice A n c] 22)).alloc (.cells #[.int .i64 (fs : Int)] 3)) 3 (.int .i64 (t : Int))).cell
  rwa [World.size_alloc, World.size_alloc] at this
 rw [← hv5]
 clear hv5 hw5
 have b15 : Below w1.heap.size w1 v5 := ((hb2.trans (b23.mono (by omega))).trans (hb4.mono (by omega))).trans (b45.mono (by omega))
 have b05 : Below w.heap.size w v5 := B1.out.trans (b15.mono (by omega))
 have b25 : Below w2.heap.size w2 v5 := (b23.trans (hb4.mono (by omega))).trans (b45.mono (by omega))
 have hl5 : Boxed v5 w.heap.size 30 (.slice none 0 0) := boxed_below HB1.out b15 (by omega)
 have ht5 : Boxed v5 w2.heap.size 141 (.slice (some ⟨w.heap.size + 1, 0,none⟩) 256 256) := boxed_below hb3 (hb4.trans (b45.mono z4)) (by omega)
 have hT5 : Rn v5 w2.heap.size (some ⟨w.heap.size + 1, 0,none⟩) 256 256 Cm.tab := by
  have := ht2.below b25
  rwa [z1] at this
 have hr5 := Hr.out.below b05
 have hx5 := Hx.out.below' b05
 refine wpIn_rangeFunc_ownG rfl (by omega) (gf := 139) (lb := #[.pointer (some ⟨w4.heap.size + 1, 0,none⟩), .pointer (some ⟨w4.heap.size + 2, 0,none⟩), .pointer (some ⟨w4.heap.size, 0,none⟩)]) rfl trivial
  (enters_of Tryz.func139 (by kernel_rfl) rfl)
  (blocks_stops A n c l fs t w.heap.size (w.heap.size + 1) v5 hr5 (by omega) hx5 hw0 (w4.heap.size + 1) (w4.heap.size + 2) w4.heap.size ⟨hBf, by omega, by omega⟩ ⟨hBt, by omega, by omega⟩ ⟨hBb, by omega, by omega⟩ (by omega) ht 7)
  (fun h k => h.trans k) (fun W L o o' h1 h2 _ _ => but_put h1 h2) (Below.refl _ _) (fun _ => rfl)
  (RvI l n w.heap.size (w.heap.size + 1) v5.heap.size v5) (RvX l n) (rvI_own l n _ _ _ v5 (by omega)) (fun _ _ _ _ _ h _ _ => h)
  ⟨none, 0, 0, [], hl5, Oc.nil _ _ _ _, RrsS.nil, But.refl _, Nat.le_refl _⟩
  (fun x => { tmps := #[.slice A n c, .int .i64 (a : Int), .int .i64 (t : Int), undef, undef, undef, .slice none 0 0, .pointer (some ⟨w.heap.size, 0,none⟩), .pointer (some ⟨w2.heap.size, 0,none⟩), undef, .slice (cutA A c x.1.1) (x.1.2 - x.1.1) (c - x.1.1), undef, undef,
   .slice (some ⟨w.heap.size + 1, 0,none⟩) 256 256, .slice A n c, .slice A n c, .int .i64 (a : Int), .int .i64 (t : Int), .int .i64 (fs : Int), .int .i64 (t : Int),
   .func (.func 139) #[] #[.pointer (some ⟨w4.heap.size + 1, 0,none⟩), .pointer (some ⟨w4.heap.size + 2, 0,none⟩), .pointer (some ⟨w4.heap.size, 0,none⟩)], .int .i64 (x.1.1 : Int), .slice (cutA A c x.1.1) (x.1.2 - x.1.1) (c - x.1.1),
   undef, undef, undef, undef, undef, undef, undef, undef, undef, undef, undef, undef], defers := [] }) ?assign ?body ?done ?stop
 case assign =>
  intro L x W K hK
  simp only [encB]
  gi_wp2
  exact hK
 case body =>
  rintro L pre x W ⟨A2, k2, c2, vs, hbx, hoc, hrs, hbut, hsz⟩ hlen
  have hbel : Below w.heap.size w W := b05.trans (hbut.below (by omega))
  have hrW := ((Hr.out.below hbel).midE x.2.1 x.2.2).more (B' := W.heap.size) hbel.size
  have hTW := (hT5.other (hbut.block (w.heap.size + 1) (by omega) (by omega))).more (B' := W.heap.size) (by omega)
  have hrc := records_c (some ⟨w.heap.size + 1, 0,none⟩) 256 (cutA A c x.1.1) (x.1.2 - x.1.1) (c - x.1.1) ((l.take x.1.2).drop x.1.1) W hTW hrW (by have := x.2.2; omega)
  have hct := (boxed_but ht5 hbut (by omega) (by omega)).cell
  have hkl := hrs.1
  have hk2 : vs.length = k2 := by have := hoc.1; omega
  have hrl := rcs_len l (pre.map (·.1))
  rw [List.length_map] at hrl
  have hkb : k2 ≤ 100 * (n + 1) := by omega
  have q5 : w4.heap.size + 3 ≤ v5.heap.size := by omega
  have e : Sm.blk ((l.take x.1.2).drop x.1.1) = Sm.val l x.1 := rfl
  rw [e] at hrc
  clear z5 hkl hk2 hrl e
  rcases hval : Sm.val l x.1 with _ | rs
  ·rw [hval] at hrc
   have Hrc := ek hrc; have Hval := ek hval; clear hrc hval hrW hTW
   gi_wp2_with (refine ⟨trivial, ?_⟩; gi_at_call 104; refine (CallsIn.inRound L (callsIn_wide.2 Hrc.out)).mono ?_; rintro e w6 ⟨hb6, A6, k6, c6, o6, rfl, rfl⟩)
   exact ⟨keeps_of_below hb6 _, x, by simp, Hval.out⟩
  ·rw [hval] at hrc
   have hrs100 : rs.length ≤ 100 := by
    obtain ⟨_, _, _, _, _, _, h4⟩ := Sm.blk_inv hval
    exact (Sm.cont_len h4).2.1
   have Hrc := ek hrc; have Hval := ek hval; have Hbx := ek hbx; have Hoc := ek hoc; have Hrs := ek hrs; clear hrc hval hrW hTW hbx hoc hrs
   gi_wp2_with (first
    | (refine ⟨trivial, ?_⟩; gi_at_call 104; refine (CallsIn.inRound L (callsIn_wide.2 Hrc.out)).mono ?_; rintro e w6 ⟨hb6, A6, k6, c6, o6, rfl, rfl, rfl, vs6, hc6, hr6⟩; have hl6 := (boxed_below Hbx.out hb6 (by omega)).cell; have Hc6 := ek (RcS.rc (hc6.keep (stays_weak fr_lt))); have Hr6 := ek hr6; have Hoc6 := ek (Hoc.out.keep hb6); have z6 := hb6.size; clear hc6 hr6)
    | (gi_at_builtin; refine rty.wpInApp rfl (.tmp 31) (.tmp 32) rfl (n := k2) (m := rs.length) (N := k2 + rs.length) (ws := vs ++ vs6) rfl rfl Hoc6.out Hc6.out (rrs_one Hr6.out) rfl rfl (by omega) (by omega) (by omega) ?_; intro A7 c7 w7 ho7 hg7; have hB7 : Boxed w7 w.heap.size 30 (.slice A2 k2 c2) := (hg7.1.block w.heap.size (by omega) (fun e => by have := (oc_ob Hoc6.out w.heap.size e.symm).1; omega)).trans (boxed_below Hbx.out hb6 (by omega)); have hl7 := hB7.cell; have hf7 := hB7.frozen))
   have hg6 : Grows W w7 A2 A7 := hg7.pre hb6
   have hsf : RrsS w7 (Sf v5.heap.size w7 A7) (vs ++ vs6) (rcs l (pre.map (·.1)) ++ rs) := by
    have h1 := (Hrs.out.keep (stays_weak sc_sf)).keep (sf_below hb6)
    have h2 := Hr6.out.keep (S' := Sf v5.heap.size w6 A2) (stays_weak fun b hb => ⟨by have := hb.1; omega, hb.2, fun e => by have := (oc_ob Hoc.out b e.symm).2; have := hb.1; omega⟩)
    exact (h1.append h2).keep (sf_grow hg7)
   have hk7 : KeepsFrom v5.heap.size W w7 := (keeps_of_below hb6 _).trans (keeps_grow hg7 Hoc6.out _)
   have hb7 : But w.heap.size (w.heap.size + 1) v5.heap.size W w7 := (but_of hb6 hsz).trans (but_grow hg7 (fun g hg => (oc_ob Hoc6.out g hg).1) (Nat.le_refl _) (by omega))
   have hsv : But w.heap.size (w.heap.size + 1) v5.heap.size W (w7.setCell ⟨w.heap.size, 0,none⟩ (.slice A7 (k2 + rs.length) c7)) := hb7.trans (But.set w7 (by omega) _)
   refine ⟨hk7.trans ((KeepsOthers.setCell w7 ⟨w.heap.size, 0,none⟩ (.slice A7 (k2 + rs.length) c7)).from _), hsv, A7, k2 + rs.length, c7, vs ++ vs6, hB7.set _, oc_low ho7 (by omega) _, ?_, hbut.trans hsv, by have := hg6.size; simp; omega⟩
   have h3 := (hsf.keep (sf_low (lo := w.heap.size) (by omega) (.slice A7 (k2 + rs.length) c7))).cells
   rw [List.map_append, List.map_cons, List.map_nil, rcs_snoc, Hval.out]
   exact h3
 case done =>
  rintro D xs W hD hS ⟨A2, k2, c2, vs, hbx, hoc, hrs, hbut, hsz⟩ hK
  have hl2 := hbx.cell
  rw [hS] at hrs
  have hk2 : k2 = (rcs l (Sm.sg l fs t)).length := by have h1 := hrs.1; have h2 := hoc.1; omega
  have Hk2 := ek hk2; clear hk2
  gi_wp2
  refine ⟨by simp, .inl ⟨_, _, rfl, run_takeDeferred hK, ?_⟩⟩
  have hg := grownBy_putObj' W D (.deferred none)
  have hnc : ∀ r, some D = some r → ∃ o : Obj, W.heap[r]? = some o ∧ o.isCells = false := fun r e => by cases e; exact ⟨_, hK, rfl⟩
  refine ⟨_, results_tmp rfl _ _ _, A2, k2, c2, rfl, Hk2.out, ⟨vs, ?_, ?_⟩, ?_⟩
  ·exact (oc_turn hoc hg hnc).rcS.keep (stays_weak fun b hb => ⟨by have := hb.1; omega, hb.2⟩)
  ·exact (hrs.keep (sc_turn hg hnc)).keep (stays_weak fun b hb => ⟨by have := hb.1.1; omega, hb.1.2.1⟩)
  ·exact (b05.trans (hbut.below (by omega))).trans ((but_put (lo := w.heap.size) (hi := w.heap.size + 1) (o' := .deferred none) hD hK).below (by omega))
 case stop =>
  rintro D c pre W hD hpre hx hK
  exfalso
  obtain ⟨p, hp, hpn⟩ := hx
  obtain ⟨r, hr⟩ := hpre
  have := Hv.out p.1 (by rw [← hr]; exact List.mem_append_left _ (List.mem_map_of_mem hp))
  rw [hpn] at this
  cases this
end Go.Proofs.YtkekmokdlgocaaaGreatDoor.Sq
namespace Go.Proofs.YtkekmokdlgocaaaGreatDoor.Sq
open Go.RowKit Go.Shelf
attribute [local go_sem] Oper.semAt_some
theorem sg_lt {b : List UInt8} {t : Nat} : ∀ (k f : Nat) (p : Nat × Nat), p ∈ Sm.segs b t k f → p.1 < t
 | 0, f, p, h => by simp [Sm.segs] at h
 | k + 1, f, p, h => by
  rw [Sm.segs] at h
  split at h
  ·rcases List.mem_cons.1 h with rfl | h
   ·assumption
   ·exact sg_lt k _ p h
  ·cases h
def ScI (l : List UInt8) (n s bl n₀ : Nat) (wL : World) (pre : List (Bk n)) (W : World) : Prop :=
 ∃ A k c vs, Boxed W bl 67 (.slice A k c) ∧ Oc 2 W 81 n₀ A k c vs ∧ PsS W (Sc n₀ W A) vs (Sm.pcs l (pre.map (·.1))) ∧ But s (bl + 1) n₀ wL W ∧ n₀ ≤ W.heap.size ∧
  Boxed W s 67 (.slice none 0 0) ∧ Boxed W (s + 1) 3 (.int .i64 0) ∧ Boxed W (s + 1 + 1) 31 (.int .i64 0) ∧ ∀ p ∈ pre, (Sm.val l p.1).isSome = true
def ScX (l : List UInt8) (n s bl n₀ : Nat) (wL : World) (j : Code) (pre : List (Bk n)) (W : World) : Prop :=
 j = .ret ∧ ∃ A k c vs q, ∃ x : Bk n, pre = q ++ [x] ∧ Sm.val l x.1 = none ∧ (∀ p ∈ q, (Sm.val l p.1).isSome = true) ∧ Oc 2 W 81 n₀ A k c vs ∧ PsS W (Sc n₀ W A) vs (Sm.pcs l (q.map (·.1))) ∧ But s (bl + 1) n₀ wL W ∧ n₀ ≤ W.heap.size ∧
  Boxed W s 67 (.slice A k c) ∧ Boxed W (s + 1) 3 (.int .i64 (x.1.1 : Int)) ∧ Boxed W (s + 1 + 1) 31 (.int .i64 3)
theorem scI_own (l : List UInt8) (n s bl n₀ : Nat) (wL : World) (hlo : bl + 1 ≤ n₀) (hsb : s + 3 ≤ bl) : OwnFrom n₀ (ScI l n s bl n₀ wL) := by
 rintro pre W W' row ⟨A, k, c, vs, h1, h2, h3, h4, h5, h6, h7, h8, h9⟩ hg hr
 have hk : ∀ {b : Nat} {t : TypeId} {v : Value}, Boxed W b t v → b < n₀ → Boxed W' b t v := fun {b} _ _ h hb => h.kept hg (fun e => by have := (hr b e.symm).1; omega)
 exact ⟨A, k, c, vs, hk h1 (by omega), oc_turn h2 hg (fun r e => (hr r e).2), h3.keep (sc_turn hg fun r e => (hr r e).2), but_turn h4 hg (fun r e => (hr r e).1) h5, Nat.le_trans h5 hg.size, hk h6 (by omega), hk h7 (by omega), hk h8 (by omega), h9⟩
theorem scX_own (l : List UInt8) (n s bl n₀ : Nat) (wL : World) (hlo : bl + 1 ≤ n₀) (hsb : s + 3 ≤ bl) (j : Code) : OwnFrom n₀ (ScX l n s bl n₀ wL j) := by
 rintro pre W W' row ⟨hj, A, k, c, vs, q, x, g1, g2, g3, h2, h3, h4, h5, h6, h7, h8⟩ hg hr
 have hk : ∀ {b : Nat} {t : TypeId} {v : Value}, Boxed W b t v → b < n₀ → Boxed W' b t v := fun {b} _ _ h hb => h.kept hg (fun e => by have := (hr b e.symm).1; omega)
 exact ⟨hj, A, k, c, vs, q, x, g1, g2, g3, oc_turn h2 hg (fun r e => (hr r e).2), h3.keep (sc_turn hg fun r e => (hr r e).2), but_turn h4 hg (fun r e => (hr r e).1) h5, Nat.le_trans h5 hg.size, hk h6 (by omega), hk h7 (by omega), hk h8 (by omega)⟩
def RetSc (w : World) (l : List UInt8) (e : Ending) (w' : World) : Prop :=
 ∃ A c, e = .returned (.tuple #[.slice A (Sm.ps l).1.length c, .int .i64 ((Sm.ps l).2 : Int), .int .i64 (Sm.er l : Int)]) ∧ PLS w' (Fr w.heap.size w') A (Sm.ps l).1.length c (Sm.ps l).1 ∧ Below w.heap.size w w'
theorem scan_c (A : Option Addr) (n c : Nat) (l : List UInt8) (w : World) (hr : Rb w w.heap.size A n c l) (hn : n ≤ 900000) (hx : Mx w) :
  Calls Tryz.prog 132 #[.slice A n c] w (RetSc w l) := by
 have hl := hr.len
 have hw0 := hx.2
 obtain ⟨w1, hw1⟩ : ∃ w1, w1 = ((w.alloc (.cells #[.slice none 0 0] 67)).alloc (.cells #[.int .i64 0] 3)).alloc (.cells #[.int .i64 0] 31) := ⟨_, rfl⟩
 have z1 : w1.heap.size = w.heap.size + 1 + 1 + 1 := by rw [hw1]; simp
 have b1 : Below w.heap.size w w1 := by rw [hw1]; exact ((ej _ _).alloc (by simp) _).alloc (by simp; omega) _
 have c1 : Boxed w1 w.heap.size 67 (.slice none 0 0) := by rw [hw1]; exact ((Boxed.new w _ _).alloc _).alloc _
 have c2 : Boxed w1 (w.heap.size + 1) 3 (.int .i64 0) := by
  rw [hw1]
  have := (Boxed.new (w.alloc (.cells #[.slice none 0 0] 67)) 3 (.int .i64 0)).alloc (.cells #[.int .i64 0] 31)
  rwa [World.size_alloc] at this
 have c3 : Boxed w1 (w.heap.size + 1 + 1) 31 (.int .i64 0) := by
  rw [hw1]
  have := Boxed.new ((w.alloc (.cells #[.slice none 0 0] 67)).alloc (.cells #[.int .i64 0] 3)) 31 (.int .i64 0)
  rwa [World.size_alloc, World.size_alloc] at this
 obtain ⟨w2, hw2⟩ : ∃ w2, w2 = w1.alloc (.cells #[.int .u8 84, .int .u8 83, .int .u8 81, .int .u8 49] 5 (4, 5)) := ⟨_, rfl⟩
 have z2 : w2.heap.size = w1.heap.size + 1 := by rw [hw2]; simp
 have b2 : Below w1.heap.size w1 w2 := by rw [hw2]; exact ej _ _
 have hlit : Rb w2 (w1.heap.size + 1) (some ⟨w1.heap.size, 0,none⟩) 4 4 Sm.hd := by rw [hw2]; exact Rb.lit w1 _ _ _ _ 4 rfl rfl (by omega)
 have hcv : (convert 22 22 (.slice (some ⟨w1.heap.size, 0,none⟩) 4 4)).run Tryz.prog (w1.alloc (.cells #[.int .u8 84, .int .u8 83, .int .u8 81, .int .u8 49] 5)) = .ok (.slice (some ⟨w1.heap.size, 0,none⟩) 4 4) w2 := by
  rw [hw2]; exact Lib.run_convert_bytes_const (P := Tryz.prog) w1 22 5 #[.int .u8 84, .int .u8 83, .int .u8 81, .int .u8 49] 4 4 Tryz.underlying22 Tryz.underlying5
 rw [z1] at hlit hcv
 rw [hw1] at hcv
 have q2 : w.heap.size + 4 ≤ w2.heap.size := by omega
 have b02 : Below w.heap.size w w2 := b1.trans (b2.mono (by omega))
 have hpre := hasp_c A (some ⟨w.heap.size + 1 + 1 + 1, 0,none⟩) n c 4 4 _ _ l Sm.hd w2 (hr.below b02) hlit (decide (l.take 4 = Sm.hd)) rfl
 have Hr := ek hr; have Hx := ek hx; have Hl := ek hl; have B02 := ek b02; have C1 := ek (boxed_below c1 b2 (by omega)); have C2 := ek (boxed_below c2 b2 (by omega)); have C3 := ek (boxed_below c3 b2 (by omega))
 clear hr hx hl b1 b2 b02 hlit hw1 hw2 c1 c2 c3 z1 z2
 by_cases hhd : l.take 4 = Sm.hd
 ·rw [decide_eq_true hhd] at hpre
  have Hpre := ek hpre; clear hpre
  refine (callsIn_wide (n := 9)).1 ?_
  refine callsIn_of_wp_marks Tryz.func132 rfl trivial ?_ rfl
  simp only [Tryz.ntmps132, List.size_toArray, List.length_cons, List.length_nil, Nat.reduceAdd, Nat.reduceSub, Array.replicate_succ, Array.replicate_zero, List.push_toArray, List.append_toArray, List.nil_append, List.cons_append]
  gi_wp2_with (refine ⟨trivial, ?_⟩; gi_at_call 164; refine (callsIn_wide.2 Hpre.out).mono ?_; rintro e w3 ⟨rfl,rfl⟩)
  obtain ⟨w3, hw3⟩ : ∃ w3, w3 = w2.alloc (.cells #[.slice none 0 0] 67) := ⟨_, rfl⟩
  have b23 : Below w2.heap.size w2 w3 := by rw [hw3]; exact ej _ _
  have z3 : w3.heap.size = w2.heap.size + 1 := by rw [hw3]; simp
  have hl3 : Boxed w3 w2.heap.size 67 (.slice none 0 0) := by rw [hw3]; exact Boxed.new w2 _ _
  rw [← hw3]
  clear hw3 hcv
  refine ⟨trivial, (callsIn_wide.2 (table_c w3)).mono ?_⟩
  rintro e w4 ⟨rfl, ht4, hb4, hz4⟩
  have HL3 := ek (boxed_below hl3 hb4 (by omega))
  rw [z3] at ht4 hb4
  rw [z3]
  have HT4 := ek ht4; have HB4 := ek hb4
  clear hl3 ht4
  have q4 : w2.heap.size + 1 < w4.heap.size := by omega
  clear hz4 z3 hb4
  gi_wp2
  obtain ⟨w5, hw5⟩ : ∃ w5, w5 = w4.alloc (.cells #[.slice (some ⟨w2.heap.size + 1, 0,none⟩) 256 256] 141) := ⟨_, rfl⟩
  have ht5 : Boxed w5 w4.heap.size 141 (.slice (some ⟨w2.heap.size + 1, 0,none⟩) 256 256) := by rw [hw5]; exact Boxed.new w4 _ _
  have b45 : Below w4.heap.size w4 w5 := by rw [hw5]; exact ej _ _
  have z5 : w5.heap.size = w4.heap.size + 1 := by rw [hw5]; simp
  rw [← hw5]
  clear hw5
  refine ⟨trivial, (callsIn_wide.2 (blocks_c A n c 4 (n : Int) w5)).mono ?_⟩
  rintro e w6 ⟨rfl, hw6⟩
  have z6 : w6.heap.size = w5.heap.size + 3 := by rw [hw6]; simp
  have b56 : Below w5.heap.size w5 w6 := by rw [hw6]; exact ((ej _ _).alloc (by simp) _).alloc (by simp; omega) _
  have hBb : w6.cell? ⟨w5.heap.size, 0,none⟩ = some (.slice A n c) := by
   rw [hw6, World.cell?_alloc_lt _ _ _ (by simp; omega), World.cell?_alloc_lt _ _ _ (by simp)]; simp
  have hBf : w6.cell? ⟨w5.heap.size + 1, 0,none⟩ = some (.int .i64 ((4 : Nat) : Int)) := by
   rw [hw6, World.cell?_alloc_lt _ _ _ (by simp)]
   have := (Boxed.new (w5.alloc (.cells #[.slice A n c] 22)) 3 (.int .i64 4)).cell
   rwa [World.size_alloc] at this
  have hBt : w6.cell? ⟨w5.heap.size + 2, 0,none⟩ = some (.int .i64 (n : Int)) := by
   rw [hw6]
   have := (Boxed.new ((w5.alloc (.cells #[.slice A n c] 22)).alloc (.cells #[.int .i64 4] 3)) 3 (.int .i64 (n : Int))).cell
   rwa [World.size_alloc, World.size_alloc] at this
  clear hw6
  have b26 : Below (w2.heap.size + 1) w4 w6 := (b45.trans (b56.mono (by omega))).mono (by omega)
  have b46 : Below w4.heap.size w4 w6 := b45.trans (b56.mono (by omega))
  have b36 : Below (w2.heap.size + 1) w3 w6 := HB4.out.trans b26
  have b06 : Below w.heap.size w w6 := (B02.out.trans (b23.mono (by omega))).trans (b36.mono (by omega))
  have hl6 : Boxed w6 w2.heap.size 67 (.slice none 0 0) := boxed_below HL3.out b46 (by omega)
  have ht6 : Boxed w6 w4.heap.size 141 (.slice (some ⟨w2.heap.size + 1, 0,none⟩) 256 256) := boxed_below ht5 b56 (by omega)
  have hT6 : Rn w6 w4.heap.size (some ⟨w2.heap.size + 1, 0,none⟩) 256 256 Cm.tab := HT4.out.below b46
  have b2to6 : Below w2.heap.size w2 w6 := b23.trans (b36.mono (by omega))
  have c1 := boxed_below C1.out b2to6 (by omega)
  have c2 := boxed_below C2.out b2to6 (by omega)
  have c3 := boxed_below C3.out b2to6 (by omega)
  have hr6 := Hr.out.below b06
  have hx6 := Hx.out.below' b06
  have q6 : w5.heap.size + 3 ≤ w6.heap.size := by omega
  have q5 : w4.heap.size + 1 ≤ w5.heap.size := by omega
  clear z6 z5 b56 b45 b23 b2to6
  gi_wp2
  refine wpIn_rangeFunc_ownG rfl (by omega) (gf := 139) (lb := #[.pointer (some ⟨w5.heap.size + 1, 0,none⟩), .pointer (some ⟨w5.heap.size + 2, 0,none⟩), .pointer (some ⟨w5.heap.size, 0,none⟩)]) rfl trivial
   (enters_of Tryz.func139 (by kernel_rfl) rfl)
   (blocks_stops A n c l 4 n w.heap.size (w2.heap.size + 1) w6 hr6 (by omega) hx6 hw0 (w5.heap.size + 1) (w5.heap.size + 2) w5.heap.size ⟨hBf, by omega, by omega⟩ ⟨hBt, by omega, by omega⟩ ⟨hBb, by omega, by omega⟩ (by omega) (Nat.le_refl _) 7)
   (fun h k => h.trans k) (fun W L o o' h1 h2 _ _ => but_put h1 h2) (Below.refl _ _) (fun _ => rfl)
   (ScI l n w.heap.size w2.heap.size w6.heap.size w6) (ScX l n w.heap.size w2.heap.size w6.heap.size w6) (scI_own l n _ _ _ w6 (by omega) (by omega)) (scX_own l n _ _ _ w6 (by omega) (by omega))
   ⟨none, 0, 0, [], hl6, Oc.nil _ _ _ _, PsS.nil, But.refl _, Nat.le_refl _, c1, c2, c3, fun p hp => by cases hp⟩
   (fun x => { tmps := #[.slice A n c, undef, .pointer (some ⟨w.heap.size, 0,none⟩), .pointer (some ⟨w.heap.size + 1, 0,none⟩), .pointer (some ⟨w.heap.size + 1 + 1, 0,none⟩), .pointer (some ⟨w2.heap.size, 0,none⟩), .pointer (some ⟨w4.heap.size, 0,none⟩),
    .int .i64 (x.1.1 : Int), .slice (cutA A c x.1.1) (x.1.2 - x.1.1) (c - x.1.1), undef, undef, .slice A n c, .slice (some ⟨w.heap.size + 1 + 1 + 1, 0,none⟩) 4 4, .slice (some ⟨w.heap.size + 1 + 1 + 1, 0,none⟩) 4 4, .bool true, .bool false,
    .slice (some ⟨w2.heap.size + 1, 0,none⟩) 256 256, .slice A n c, .slice A n c, .int .i64 (n : Int),
    .func (.func 139) #[] #[.pointer (some ⟨w5.heap.size + 1, 0,none⟩), .pointer (some ⟨w5.heap.size + 2, 0,none⟩), .pointer (some ⟨w5.heap.size, 0,none⟩)], .int .i64 (x.1.1 : Int), .slice (cutA A c x.1.1) (x.1.2 - x.1.1) (c - x.1.1),
    undef, undef, undef, undef, undef, undef, undef, undef, undef, undef, undef, undef, undef, undef, undef, undef, undef, undef, undef], defers := [] }) ?assign ?body ?done ?stop
  case assign =>
   intro L x W K hK
   simp only [encB]
   gi_wp2
   exact hK
  case body =>
   rintro L pre x W ⟨A2, k2, c2, vs, hbx, hoc, hps, hbut, hsz, r1, r2, r3, hall⟩ hlen
   have hbel : Below w.heap.size w W := b06.trans (hbut.below (by omega))
   have hrW := ((Hr.out.below hbel).midE x.2.1 x.2.2).more (B' := W.heap.size) hbel.size
   have hTW := (hT6.other (hbut.block (w2.heap.size + 1) (by omega) (by omega))).more (B' := W.heap.size) (by omega)
   have hrc := records_c (some ⟨w2.heap.size + 1, 0,none⟩) 256 (cutA A c x.1.1) (x.1.2 - x.1.1) (c - x.1.1) ((l.take x.1.2).drop x.1.1) W hTW hrW (by have := x.2.2; omega)
   have hct := (boxed_but ht6 hbut (by omega) (by omega)).cell
   have hkb : k2 ≤ n + 1 := by
    have h1 := hps.1
    have h2 := hoc.1
    have h3 : (Sm.pcs l (pre.map (·.1))).length = pre.length := by simp [Sm.pcs]
    omega
   have e : Sm.blk ((l.take x.1.2).drop x.1.1) = Sm.val l x.1 := rfl
   rw [e] at hrc
   rcases hval : Sm.val l x.1 with _ | rs
   ·rw [hval] at hrc
    have Hrc := ek hrc; have Hval := ek hval; have Hbx := ek hbx; have Hoc := ek hoc; have Hps := ek hps; have R1 := ek r1; have R2 := ek r2; have R3 := ek r3; clear hrc hval hrW hTW hbx hoc hps r1 r2 r3
    gi_wp2_with (refine ⟨trivial, ?_⟩; gi_at_call 104; refine (CallsIn.inRound L (callsIn_wide.2 Hrc.out)).mono ?_; rintro e w7 ⟨hb7, A6, k6, c6, o6, rfl, rfl⟩; have hl7 := (boxed_below Hbx.out hb7 (by omega)).cell; have g1 := boxed_below R1.out hb7 (by omega); have g2 := boxed_below R2.out hb7 (by omega); have g3 := boxed_below R3.out hb7 (by omega); have g1c := g1.cell; have g1f := g1.frozen; have g2c := g2.cell; have g2f := g2.frozen; have g3c := g3.cell; have g3f := g3.frozen)
    have s1 : ∀ v, Stays w7 (w7.setCell ⟨w.heap.size, 0,none⟩ v) (Sf w6.heap.size w7 A2) (Sf w6.heap.size (w7.setCell ⟨w.heap.size, 0,none⟩ v) A2) := fun v => sf_low (by omega) v
    have hps7 := (Hps.out.keep (stays_weak sc_sf)).keep (sf_below hb7)
    have ho7 := Hoc.out.keep hb7
    refine ⟨(((keeps_of_below hb7 _).trans ((KeepsOthers.setCell _ _ _).from _)).trans ((KeepsOthers.setCell _ _ _).from _)).trans ((KeepsOthers.setCell _ _ _).from _), rfl, A2, k2, c2, vs, pre, x, rfl, Hval.out, hall,
     oc_low (oc_low (oc_low ho7 (by omega) _) (by omega) _) (by omega) _, (((hps7.keep (sf_low (by omega) _)).keep (sf_low (by omega) _)).keep (sf_low (by omega) _)).cells, ?_, by have := hb7.size; simp; omega,
     ((g1.set _).other (by omega) _).other (by omega) _, ((g2.other (by omega) _).set _).other (by omega) _, ((g3.other (by omega) _).other (by omega) _).set _⟩
    exact hbut.trans ((((but_of hb7 hsz).trans (But.set w7 (by omega) _)).trans (But.set _ (by omega) _)).trans (But.set _ (by omega) _))
   ·rw [hval] at hrc
    have Hrc := ek hrc; have Hval := ek hval; have Hbx := ek hbx; have Hoc := ek hoc; have Hps := ek hps; have R1 := ek r1; have R2 := ek r2; have R3 := ek r3; clear hrc hval hrW hTW hbx hoc hps r1 r2 r3 e
    gi_wp2_with (first
     | (refine ⟨trivial, ?_⟩; gi_at_call 104; refine (CallsIn.inRound L (callsIn_wide.2 Hrc.out)).mono ?_; rintro e w7 ⟨hb7, A6, k6, c6, o6, rfl, rfl, rfl, hrl7⟩; have hl7 := (boxed_below Hbx.out hb7 (by omega)).cell; have Hrl7 := ek hrl7; have Hoc7 := ek (Hoc.out.keep hb7); have z7 := hb7.size; clear hrl7)
     | (gi_at_builtin; refine pty.wpInApp rfl (.tmp 33) (.tmp 37) rfl (n := k2) (m := 1) (N := k2 + 1) (us := [.int .i64 (x.1.1 : Int), .slice A6 rs.length c6]) (ws := vs ++ [.int .i64 (x.1.1 : Int), .slice A6 rs.length c6]) rfl rfl (Hoc7.out.alloc _) (Rc.lit (z := 2) w7 81 #[.int .i64 (x.1.1 : Int), .slice A6 rs.length c6] 1 rfl (by simp [maxLen])) (by intro v hv; simp at hv; rcases hv with rfl | rfl <;> rfl) rfl rfl (by omega) (by omega) (by simp; omega) ?_; intro A8 c8 w8 ho8 hg8; have hB8 : Boxed w8 w2.heap.size 67 (.slice A2 k2 c2) := (hg8.1.block w2.heap.size (by simp; omega) (fun e => by have := (oc_ob Hoc7.out w2.heap.size e.symm).1; omega)).trans ((boxed_below Hbx.out hb7 (by omega)).alloc _); have hl8 := hB8.cell; have hf8 := hB8.frozen))
    obtain ⟨w7a, hw7a⟩ : ∃ w7a, w7a = w7.alloc (.cells #[.int .i64 (x.1.1 : Int), .slice A6 rs.length c6] 81) := ⟨_, rfl⟩
    rw [← hw7a] at hg8
    have b7a : Below w7.heap.size w7 w7a := by rw [hw7a]; exact ej _ _
    have z7a : w7.heap.size ≤ w7a.heap.size := b7a.size
    have ho7a : Oc 2 w7a 81 w6.heap.size A2 k2 c2 vs := by rw [hw7a]; exact Hoc7.out.alloc _
    have hbW : Below W.heap.size W w7a := hb7.trans (b7a.mono z7)
    have hsf : PsS w8 (Sf w6.heap.size w8 A8) (vs ++ [.int .i64 (x.1.1 : Int), .slice A6 rs.length c6]) (Sm.pcs l (pre.map (·.1)) ++ [(x.1.1, rs)]) := by
     have h1 := (Hps.out.keep (stays_weak sc_sf)).keep (sf_below hbW)
     have h2 := (Hrl7.out.keep (S' := Sf w6.heap.size w7 A2) (stays_weak fun b hb => ⟨by have := hb.1; omega, hb.2, fun e => by have := (oc_ob Hoc.out b e.symm).2; have := hb.1; omega⟩)).keep (sf_below b7a)
     have h3 : PrS w7a (Sf w6.heap.size w7a A2) (.int .i64 (x.1.1 : Int)) (.slice A6 rs.length c6) (x.1.1, rs) := ⟨rfl, A6, rs.length, c6, rfl, h2⟩
     exact (h1.snoc h3).keep (sf_grow hg8)
    have hk8 : KeepsFrom w6.heap.size W w8 := (keeps_of_below hbW _).trans (keeps_grow hg8 ho7a _)
    have hb8 : But w.heap.size (w2.heap.size + 1) w6.heap.size W w8 := (but_of hbW hsz).trans (but_grow hg8 (fun g hg => (oc_ob ho7a g hg).1) (Nat.le_refl _) (by omega))
    have hsv : But w.heap.size (w2.heap.size + 1) w6.heap.size W (w8.setCell ⟨w2.heap.size, 0,none⟩ (.slice A8 (k2 + 1) c8)) := hb8.trans (But.set w8 (by omega) _)
    have hgo : ∀ {b : Nat} {tt : TypeId} {v : Value}, Boxed W b tt v → b < w2.heap.size → Boxed w8 b tt v := fun {b} _ _ h hb => (hg8.1.block b (by omega) (fun e => by have := (oc_ob ho7a b e.symm).1; omega)).trans (boxed_below h hbW (by omega))
    refine ⟨hk8.trans ((KeepsOthers.setCell w8 ⟨w2.heap.size, 0,none⟩ (.slice A8 (k2 + 1) c8)).from _), hsv, A8, k2 + 1, c8, _, hB8.set _, oc_low ho8 (by omega) _, ?_, hbut.trans hsv, by have := hg8.size; simp; omega,
     (hgo R1.out (by omega)).other (by omega) _, (hgo R2.out (by omega)).other (by omega) _, (hgo R3.out (by omega)).other (by omega) _, fun p hp => ?_⟩
    ·have h3 := (hsf.keep (sf_low (lo := w2.heap.size) (by omega) (.slice A8 (k2 + 1) c8))).cells
     have e1 : Sm.pcs l ((pre ++ [x]).map (·.1)) = Sm.pcs l (pre.map (·.1)) ++ [(x.1.1, rs)] := by simp [Sm.pcs, Hval.out]
     rw [e1]
     exact h3
    ·rcases List.mem_append.1 hp with hp | hp
     ·exact hall p hp
     ·simp at hp; subst hp; rw [Hval.out]; rfl
  case done =>
   rintro D xs W hD hS ⟨A2, k2, c2, vs, hbx, hoc, hps, hbut, hsz, r1, r2, r3, hall⟩ hK
   have hl2 := hbx.cell
   have g1c := r1.cell
   have g1f := r1.frozen
   have g2c := r2.cell
   have g2f := r2.frozen
   have g3c := r3.cell
   have g3f := r3.frozen
   rw [hS] at hps
   have hrun : Sm.ps l = (Sm.pcs l (Sm.sg l 4 n), n) := by
    rw [Sm.ps_head hhd, Hl.out, Sm.run_all l _ (fun p hp => by
     rw [← hS] at hp
     obtain ⟨q, hq, rfl⟩ := List.mem_map.1 hp
     exact hall q hq), Hl.out]
   have her : Sm.er l = 0 := by unfold Sm.er; rw [if_pos ⟨hhd, by rw [hrun, Hl.out]⟩]
   have hk2 : k2 = (Sm.pcs l (Sm.sg l 4 n)).length := by have h1 := hps.1; have h2 := hoc.1; omega
   have Hk2 := ek hk2; have Hrun := ek hrun; have Her := ek her; clear hk2 hrun her
   gi_wp2
   obtain ⟨W3, hW3⟩ : ∃ W3, W3 = ((W.setCell ⟨w.heap.size, 0,none⟩ (.slice A2 k2 c2)).setCell ⟨w.heap.size + 1, 0,none⟩ (.int .i64 (n : Int))).setCell ⟨w.heap.size + 1 + 1, 0,none⟩ (.int .i64 0) := ⟨_, rfl⟩
   have hK3 : W3.heap[D]? = some (.deferred (some [])) := by
    rw [hW3]
    exact (((KeepsOthers.setCell W ⟨w.heap.size, 0,none⟩ (.slice A2 k2 c2)).trans (KeepsOthers.setCell _ _ _)).trans (KeepsOthers.setCell _ _ _)).same D _ hK rfl
   have g1 : Boxed W3 w.heap.size 67 (.slice A2 k2 c2) := by rw [hW3]; exact ((r1.set _).other (by omega) _).other (by omega) _
   have g2 : Boxed W3 (w.heap.size + 1) 3 (.int .i64 (n : Int)) := by rw [hW3]; exact ((r2.other (by omega) _).set _).other (by omega) _
   have g3 : Boxed W3 (w.heap.size + 1 + 1) 31 (.int .i64 0) := by rw [hW3]; exact ((r3.other (by omega) _).other (by omega) _).set _
   have ho3 : Oc 2 W3 81 w6.heap.size A2 k2 c2 vs := by rw [hW3]; exact oc_low (oc_low (oc_low hoc (by omega) _) (by omega) _) (by omega) _
   have hp3 : PsS W3 (Sc w6.heap.size W3 A2) vs (Sm.pcs l (Sm.sg l 4 n)) := by
    rw [hW3]
    exact ((((hps.keep (stays_weak sc_sf)).keep (sf_low (by omega) _)).keep (sf_low (by omega) _)).keep (sf_low (by omega) _)).cells
   have hb3 : But w.heap.size (w2.heap.size + 1) w6.heap.size w6 W3 := by
    rw [hW3]
    exact hbut.trans (((But.set W (by omega) _).trans (But.set _ (by omega) _)).trans (But.set _ (by omega) _))
   rw [← hW3]
   have hg := grownBy_putObj' W3 D (.deferred none)
   have hnc : ∀ r, some D = some r → ∃ o : Obj, W3.heap[r]? = some o ∧ o.isCells = false := fun r e => by cases e; exact ⟨_, hK3, rfl⟩
   have hne : ∀ b, b < w6.heap.size → some b ≠ some D := fun b hb e => by cases e; omega
   refine ⟨by simp, .inl ⟨_, _, rfl, run_takeDeferred hK3, ?_⟩⟩
   refine ⟨_, results_cells3 rfl rfl rfl rfl (g1.kept hg (hne _ (by omega))).cell (g2.kept hg (hne _ (by omega))).cell (g3.kept hg (hne _ (by omega))).cell Tryz.isAgg67 Tryz.isAgg3 Tryz.isAgg31, A2, c2, ?_, ?_, ?_⟩
   ·rw [Hrun.out, Her.out, Hk2.out]; rfl
   ·rw [Hrun.out]
    dsimp only
    rw [← Hk2.out]
    exact ⟨vs, (oc_turn ho3 hg hnc).rcS.keep (stays_weak fun b hb => ⟨by have := hb.1; omega, hb.2⟩), (hp3.keep (sc_turn hg hnc)).keep (stays_weak fun b hb => ⟨by have := hb.1.1; omega, hb.1.2.1⟩)⟩
   ·exact (b06.trans (hb3.below (by omega))).trans ((but_put (lo := w.heap.size) (hi := w2.heap.size + 1) (o' := .deferred none) hD hK3).below (by omega))
  case stop =>
   rintro D j pre W hD hpre ⟨rfl, A2, k2, c2, vs, q, x, rfl, hx, hall, hoc, hps, hbut, hsz, r1, r2, r3⟩ hK
   obtain ⟨rest, hrest⟩ := hpre
   rw [List.map_append, List.map_cons, List.map_nil, List.append_assoc] at hrest
   have hall2 : ∀ p ∈ q.map (·.1), (Sm.val l p).isSome = true := fun p hp => by
    obtain ⟨y, hy, rfl⟩ := List.mem_map.1 hp
    exact hall y hy
   have hrun : Sm.ps l = (Sm.pcs l (q.map (·.1)), x.1.1) := by
    rw [Sm.ps_head hhd, Hl.out, ← hrest]
    exact Sm.run_stop l _ _ _ hall2 hx
   have hxn : x.1.1 < n := sg_lt (b := l) (t := n) _ _ x.1 (show x.1 ∈ Sm.sg l 4 n by rw [← hrest]; simp)
   have her : Sm.er l = 3 := by unfold Sm.er; rw [if_neg (fun e => by have := e.2; rw [hrun, Hl.out] at this; dsimp only at this; omega)]
   have hk2 : k2 = (Sm.pcs l (q.map (·.1))).length := by have h1 := hps.1; have h2 := hoc.1; omega
   have Hk2 := ek hk2; have Hrun := ek hrun; have Her := ek her; clear hk2 hrun her hrest
   gi_wp2
   have hg := grownBy_putObj' W D (.deferred none)
   have hnc : ∀ r, some D = some r → ∃ o : Obj, W.heap[r]? = some o ∧ o.isCells = false := fun r e => by cases e; exact ⟨_, hK, rfl⟩
   have hne : ∀ b, b < w6.heap.size → some b ≠ some D := fun b hb e => by cases e; omega
   refine ⟨by simp, .inl ⟨_, _, rfl, run_takeDeferred hK, ?_⟩⟩
   refine ⟨_, results_cells3 rfl rfl rfl rfl (r1.kept hg (hne _ (by omega))).cell (r2.kept hg (hne _ (by omega))).cell (r3.kept hg (hne _ (by omega))).cell Tryz.isAgg67 Tryz.isAgg3 Tryz.isAgg31, A2, c2, ?_, ?_, ?_⟩
   ·rw [Hrun.out, Her.out, Hk2.out]; rfl
   ·rw [Hrun.out]
    dsimp only
    rw [← Hk2.out]
    exact ⟨vs, (oc_turn hoc hg hnc).rcS.keep (stays_weak fun b hb => ⟨by have := hb.1; omega, hb.2⟩), (hps.keep (sc_turn hg hnc)).keep (stays_weak fun b hb => ⟨by have := hb.1.1; omega, hb.1.2.1⟩)⟩
   ·exact (b06.trans (hbut.below (by omega))).trans ((but_put (lo := w.heap.size) (hi := w2.heap.size + 1) (o' := .deferred none) hD hK).below (by omega))
 ·rw [decide_eq_false hhd] at hpre
  have Hpre := ek hpre; clear hpre
  have e1 : Sm.ps l = ([], 0) := Sm.ps_not hhd
  have e2 : Sm.er l = 3 := Sm.er_not hhd
  have g1c := C1.out.cell
  have g1f := C1.out.frozen
  have g2c := C2.out.cell
  have g2f := C2.out.frozen
  have g3c := C3.out.cell
  have g3f := C3.out.frozen
  refine (callsIn_wide (n := 9)).1 ?_
  refine callsIn_of_wp_marks Tryz.func132 rfl trivial ?_ rfl
  simp only [Tryz.ntmps132, List.size_toArray, List.length_cons, List.length_nil, Nat.reduceAdd, Nat.reduceSub, Array.replicate_succ, Array.replicate_zero, List.push_toArray, List.append_toArray, List.nil_append, List.cons_append]
  gi_wp2_with (refine ⟨trivial, ?_⟩; gi_at_call 164; refine (callsIn_wide.2 Hpre.out).mono ?_; rintro e w3 ⟨rfl,rfl⟩)
  have k1 : Boxed (((w2.setCell ⟨w.heap.size, 0,none⟩ (.slice none 0 0)).setCell ⟨w.heap.size + 1, 0,none⟩ (.int .i64 0)).setCell ⟨w.heap.size + 1 + 1, 0,none⟩ (.int .i64 3)) w.heap.size 67 (.slice none 0 0) := ((C1.out.set _).other (by omega) _).other (by omega) _
  have k2 : Boxed (((w2.setCell ⟨w.heap.size, 0,none⟩ (.slice none 0 0)).setCell ⟨w.heap.size + 1, 0,none⟩ (.int .i64 0)).setCell ⟨w.heap.size + 1 + 1, 0,none⟩ (.int .i64 3)) (w.heap.size + 1) 3 (.int .i64 0) := ((C2.out.other (by omega) _).set _).other (by omega) _
  have k3 : Boxed (((w2.setCell ⟨w.heap.size, 0,none⟩ (.slice none 0 0)).setCell ⟨w.heap.size + 1, 0,none⟩ (.int .i64 0)).setCell ⟨w.heap.size + 1 + 1, 0,none⟩ (.int .i64 3)) (w.heap.size + 1 + 1) 31 (.int .i64 3) := ((C3.out.other (by omega) _).other (by omega) _).set _
  refine ⟨_, results_cells3 rfl rfl rfl rfl k1.cell k2.cell k3.cell Tryz.isAgg67 Tryz.isAgg3 Tryz.isAgg31, none, 0, ?_, ?_, ?_⟩
  ·rw [e1, e2]; rfl
  ·rw [e1]; exact PLS.nil
  ·exact ((B02.out.setCell (p := ⟨w.heap.size, 0,none⟩) (Nat.le_refl _) _).setCell (p := ⟨w.heap.size + 1, 0,none⟩) (by show w.heap.size ≤ w.heap.size + 1; omega) _).setCell (p := ⟨w.heap.size + 1 + 1, 0,none⟩) (by show w.heap.size ≤ w.heap.size + 1 + 1; omega) _
end Go.Proofs.YtkekmokdlgocaaaGreatDoor.Sq
namespace Go.Proofs.YtkekmokdlgocaaaGreatDoor.Sq
open Go.RowKit
def RetRE (w : World) (l : List (List (List UInt8))) (k : Int) (e : Ending) (w' : World) : Prop :=
 ∃ A c, e = .returned (.tuple #[.slice A l.length c, .int .i64 k]) ∧ RLS w' (Fr w.heap.size w') A l.length c l ∧ Below w.heap.size w w'
theorem read_ok (A : Option Addr) (n c : Nat) (l : List UInt8) (f t G : Nat) (w : World) (hr : Rb w w.heap.size A n c l) (hft : f ≤ t) (ht : t ≤ n) (hn : n ≤ 900000) (hx : Mx w) (hG : G = (Sm.ps l).2) :
  Calls Tryz.prog 53 #[.slice A n c, .int .i64 (f : Int), .int .i64 (t : Int), .int .i64 (G : Int)] w (RetRE w (Tm.all (Tm.btw f t (Sm.ps l).1)) (if G < t then 3 else 0)) := by
 have hl := hr.len
 have hg := Sm.ps_good l
 rw [← hG] at hg
 obtain ⟨D, hD, hrD⟩ := bty.upto_ hr (k := G) (by omega) (G : Int) rfl
 have hvl : (l.take G).length = G := by rw [List.length_take]; omega
 obtain ⟨t2, ht2⟩ : ∃ t2, t2 = min t G := ⟨_, rfl⟩
 have hrv0 := Sm.rv_eq l f t hft (by omega)
 rw [← hG, ← ht2] at hrv0
 obtain ⟨h1, h2⟩ := hrv0
 have hcall := rvalid_c D G c (l.take G) f t2 w hrD (by omega) hx (by omega) (by omega) _ rfl (by rw [← hvl] at h2 ⊢; simpa using h2)
 have e1 : rcs (l.take G) (Sm.sg (l.take G) (Sm.nxt ((l.take G).take (min (t2 + 1) G)) (clamp f (min (t2 + 1) G))) t2) = Tm.all (Tm.btw f t (Sm.ps l).1) := by
  rw [← h1]
  unfold Sm.rv rcs
  rw [hvl]
 rw [e1] at hcall
 obtain ⟨X, hX⟩ : ∃ X, X = Tm.all (Tm.btw f t (Sm.ps l).1) := ⟨_, rfl⟩
 rw [← hX] at hcall ⊢
 have d1 : decide ((f : Int) < 0) = false := by simp
 have d2 : decide ((t : Int) < (f : Int)) = false := by simp; omega
 have d3 : decide ((n : Int) < (t : Int)) = false := by simp; omega
 have d4 : decide ((G : Int) < 0) = false := by simp
 have d5 : decide ((n : Int) < (G : Int)) = false := by simp; omega
 have e2 : decide (t < f) = false := by simp; omega
 have e3 : decide (n < t) = false := by simp; omega
 have e5 : decide (n < G) = false := by simp; omega
 have dm : t2 = min t G := ht2
 have hmin : min (t : Int) (G : Int) = (t2 : Int) := by omega
 have Hcall := ek hcall; clear hcall hr hrD hvl hG ht2 hl h1 h2 e1 hX hx
 by_cases hGt : G < t
 ·have d6 : decide ((G : Int) < (t : Int)) = true := by simp; omega
  obtain rfl : t2 = G := by omega
  clear dm
  rw [if_pos hGt]
  go_enter Tryz.func53, Tryz.ntmps53
  go_wp2_with fail
  refine Hcall.out.mono ?_
  rintro e w4 ⟨A4, k4, c4, rfl, rfl, h4, hb4⟩
  have H4 := ek h4; clear h4
  go_wp2
  go_ret2
  exact ⟨A4, c4, rfl, H4.out, hb4⟩
 ·have d6 : decide ((G : Int) < (t : Int)) = false := by simp; omega
  obtain rfl : t2 = t := by omega
  clear dm
  rw [if_neg hGt]
  go_enter Tryz.func53, Tryz.ntmps53
  go_wp2_with fail
  refine Hcall.out.mono ?_
  rintro e w4 ⟨A4, k4, c4, rfl, rfl, h4, hb4⟩
  have H4 := ek h4; clear h4
  go_wp2
  go_ret2
  exact ⟨A4, c4, rfl, H4.out, hb4⟩
theorem ps_end {b : List UInt8} {L : List (Nat × Nat)} (h : b.take 4 = Sm.hd) (hch : Sm.Ch b 4 b.length L) : Sm.ps b = (Sm.pcs b L, b.length) ∧ Sm.er b = 0 := by
 have e : Sm.ps b = (Sm.pcs b L, b.length) := by rw [Sm.ps_head h, Sm.ch_sg hch]; exact Sm.run_all b L (Sm.ch_some hch)
 exact ⟨e, if_pos ⟨h, by rw [e]⟩⟩
theorem ps_bad {b : List UInt8} {L : List (Nat × Nat)} {f : Nat} (h : b.take 4 = Sm.hd) (hch : Sm.Ch b 4 f L) (hf : f < b.length) (hv : Sm.val b (f, Sm.nxt b (f + 1)) = none) : Sm.ps b = (Sm.pcs b L, f) ∧ Sm.er b = 3 := by
 have e : Sm.ps b = (Sm.pcs b L, f) := by
  rw [Sm.ps_head h, Sm.ch_run hch hf, Sm.sg_step hf]
  exact Sm.run_stop b L _ (f, Sm.nxt b (f + 1)) (Sm.ch_some hch) hv
 refine ⟨e, if_neg fun h2 => ?_⟩
 have := h2.2
 rw [e] at this
 dsimp only at this
 omega
theorem ch_snoc {b : List UInt8} : ∀ {L : List (Nat × Nat)} {a f : Nat}, Sm.Ch b a f L → f < b.length → (Sm.val b (f, Sm.nxt b (f + 1))).isSome = true → Sm.Ch b a (Sm.nxt b (f + 1)) (L ++ [(f, Sm.nxt b (f + 1))])
 | [], a, f, h, hf, hv => by
  have e : a = f := h
  subst e
  exact ⟨rfl, rfl, hv, hf, rfl⟩
 | p :: L, a, f, h, hf, hv => by
  obtain ⟨h1, h2, h3, h4, h5⟩ := h
  exact ⟨h1, h2, h3, h4, ch_snoc h5 hf hv⟩
theorem ch_num {b : List UInt8} : ∀ {L : List (Nat × Nat)} {f g : Nat}, Sm.Ch b f g L → f + L.length ≤ g
 | [], f, g, h => by have e : f = g := h; subst e; simp
 | p :: L, f, g, h => by
  obtain ⟨rfl, h2, h3, h4, h5⟩ := h
  have hg := Sm.nxt_gt b p.1
  have ih := ch_num h5
  rw [List.length_cons]
  omega
def RsRel (base : Nat) (w : World) (l : List UInt8) (o a : Value) (wr : World) : Prop :=
 ∃ A c vs P L f, o = .slice A (List.length P) c ∧ a = .int .i64 ((f : Nat) : Int) ∧ P = Sm.pcs l L ∧ Sm.Ch l 4 f L ∧ f ≤ l.length ∧ Oc 2 wr 81 base A (List.length P) c vs ∧ PsS wr (Sf base wr A) vs P ∧ Below base w wr
theorem rscan_c (A : Option Addr) (n c : Nat) (l : List UInt8) (w : World) (hr : Rb w w.heap.size A n c l) (hn : n ≤ 900000) :
  Calls Tryz.prog 62 #[.slice A n c] w (RetSc w l) := by
 have hl := hr.len
 by_cases hn4 : n < 4
 ·have hhd : l.take 4 ≠ Sm.hd := fun h => by have := Sm.head_len h; omega
  have hps := Sm.ps_not hhd
  have her := Sm.er_not hhd
  have HPS := ek hps; have HER := ek her
  have d4 : (n : Int) < 4 := by omega
  clear hps her hhd hr hl
  go_enter Tryz.func62, Tryz.ntmps62
  go_wp2
  go_ret3
  refine ⟨some ⟨w.heap.size, 0,none⟩, 0, ?_, ?_, ej _ _⟩
  ·rw [HPS.out, HER.out]; rfl
  ·rw [HPS.out]
   exact ⟨[], ⟨rfl, Nat.le_refl _, by simp [maxLen], fun h => absurd h (by simp)⟩, PsS.nil⟩
 ·obtain ⟨w1, hw1⟩ : ∃ w1, w1 = w.alloc (.cells #[] 81) := ⟨_, rfl⟩
  have b1 : Below w.heap.size w w1 := by rw [hw1]; exact ej _ _
  have z1 : w1.heap.size = w.heap.size + 1 := by rw [hw1]; simp
  have ho1 : Oc 2 w1 81 w.heap.size (some ⟨w.heap.size, 0,none⟩) 0 0 [] := by rw [hw1]; exact Oc.made0 2 w 81
  have d4 : ¬ (n : Int) < 4 := by omega
  obtain ⟨D, hD, hrD⟩ := bty.upto_ (hr.below b1) (k := 4) (by omega) 4 rfl
  have hcv := bty.conv hrD
  by_cases hhd : l.take 4 = Sm.hd
  ·rw [hhd] at hcv
   have hcv2 : (convert 22 9 (.slice D 4 c)).run Tryz.prog w1 = .ok (.string ⟨#[84, 83, 81, 49]⟩) w1 := hcv
   rw [hw1] at hcv2
   have Hr := ek hr; have Hl := ek hl; have Hhd := ek hhd; have Ho1 := ek ho1; have W1 := ek hw1
   clear hr hl hhd ho1 hcv hrD hw1
   go_enter Tryz.func62, Tryz.ntmps62
   go_wp2
   rw [← W1.out]
   go_loopw [5, 6] (fun o a wr => RsRel w.heap.size w l o a wr) (fun _ a _ => n - (intOf a).toNat)
   case atStart => exact ⟨some ⟨w.heap.size, 0,none⟩, 0, [], [], [], 4, rfl, rfl, rfl, rfl, by have := Hl.out; omega, Ho1.out, PsS.nil, b1⟩
   case round =>
    obtain ⟨A3, c3, vs, P, L, f, rfl, rfl, hP, hch, hfl, hown, hps, hbel⟩ := hrel
    rename World => wr
    have z3 := hbel.size
    have hnl := Hl.out
    have hLl := ch_num hch
    have hPl : P.length ≤ 900000 := by rw [hP]; simp [Sm.pcs]; omega
    clear hD hcv2
    by_cases hlt : f < n
    ·obtain ⟨G, hG⟩ : ∃ G, G = Sm.nxt l (f + 1) := ⟨_, rfl⟩
     have hGb := Sm.nxt_le (b := l) (k := f + 1) (by omega)
     rw [← hG] at hGb
     have hbk := rblock_c A n c l f wr ((Hr.out.below hbel).more z3) hn (by omega) G hG
     rcases hv : Sm.val l (f, G) with _ | rs
     ·rw [hv] at hbk
      obtain ⟨e1, e2⟩ := ps_bad Hhd.out hch (by omega) (by rw [← hG]; exact hv)
      have hfin : PLS wr (Fr w.heap.size wr) A3 P.length c3 P := ⟨vs, hown.rcS, hps.keep (stays_weak sf_fr)⟩
      have E1 := ek e1; have E2 := ek e2; have HP := ek hP; have Hfin := ek hfin; have Hbk := ek hbk
      clear e1 e2 hP hfin hown hps hch hbk hG hGb hnl hv hLl
      go_wp2_with fail
      refine Hbk.out.mono ?_
      rintro e w4 ⟨hb4, A4, k4, c4, E4, o4, rfl, rfl⟩
      have hfin4 := Hfin.out.keep (show Stays wr w4 (Fr w.heap.size wr) (Fr w.heap.size w4) from ⟨fun b hb => ⟨hb.1, Nat.lt_of_lt_of_le hb.2 hb4.size⟩, fun p hp => hb4.cell hp.2⟩)
      have Hfin4 := ek hfin4; clear hfin4
      have b4 := hbel.trans (hb4.mono z3)
      go_wp2
      go_ret3
      refine ⟨A3, c3, ?_, ?_, b4⟩
      ·rw [E1.out, E2.out, ← HP.out]; rfl
      ·rw [E1.out, ← HP.out]; exact Hfin4.out
     ·rw [hv] at hbk
      have hch2 := ch_snoc hch (show f < l.length by omega) (by rw [← hG, hv]; rfl)
      rw [← hG] at hch2
      have hP2 : P ++ [(f, rs)] = Sm.pcs l (L ++ [(f, G)]) := by rw [hP]; simp [Sm.pcs, hv]
      have hA3 : ∀ g, ob A3 = some g → g < wr.heap.size := fun g hg => (oc_ob hown g hg).2
      have HP2 := ek hP2; have Hch2 := ek hch2; have Hbk := ek hbk; have Hown := ek hown; have Hps := ek hps; have HA3 := ek hA3; have HnL := ek hnl
      clear hP hP2 hch hch2 hbk hG hnl hv hLl hown hps hA3
      have hGn : G ≤ n := by have := HnL.out; omega
      go_wp2_with fail
      refine Hbk.out.mono ?_
      rintro e w4 ⟨hb4, A4, k4, c4, E4, o4, rfl, rfl, rfl, rfl, hr4⟩
      have z4 := hb4.size
      obtain ⟨w5, hw5⟩ : ∃ w5, w5 = w4.alloc (.cells #[.int .i64 (f : Int), .slice A4 rs.length c4] 81) := ⟨_, rfl⟩
      have z5 : w5.heap.size = w4.heap.size + 1 := by rw [hw5]; simp
      have b45 : Below w4.heap.size w4 w5 := by rw [hw5]; exact ej _ _
      have b35 : Below wr.heap.size wr w5 := hb4.trans (b45.mono z4)
      have hlit : Rc 2 w5 (w4.heap.size + 1) (some ⟨w4.heap.size, 0,none⟩) 1 1 [.int .i64 (f : Int), .slice A4 rs.length c4] := by
       rw [hw5]; exact Rc.lit (z := 2) w4 _ #[.int .i64 (f : Int), .slice A4 rs.length c4] 1 rfl (by simp [maxLen])
      have hpr : PrS w5 (Sf w.heap.size w5 A3) (.int .i64 (f : Int)) (.slice A4 rs.length c4) (f, rs) :=
       ⟨rfl, A4, _, c4, rfl, hr4.keep ⟨fun b hb => ⟨by have := hb.1; omega, by have := hb.2; omega, fun e => by have := HA3.out b e.symm; have := hb.1; omega⟩, fun p hp => b45.cell hp.2⟩⟩
      have hown5 := Hown.out.keep b35
      have hps5 := (Hps.out.keep (sf_below b35)).snoc hpr
      have W5 := ek hw5; have Hlit := ek hlit; have Hown5 := ek hown5; have Hps5 := ek hps5; have Z5 := ek z5
      clear hw5 hlit hpr hown5 hps5 hr4 z5
      go_wp2_with (at_builtin; rw [← W5.out]; go_must (refine Sl.wpAppAt pty rfl (.tmp 36) (.tmp 40) rfl (n := P.length) (m := 1) (N := P.length + 1) (ws := vs ++ [.int .i64 (f : Int), .slice A4 rs.length c4]) rfl rfl Hown5.out Hlit.out ?hs1 rfl rfl ?hs4 ?hs5 ?hs6 ?_))
      case hs1 => simp [Value.oneCell']
      case hs4 => omega
      case hs5 => omega
      case hs6 => have := Z5.out; omega
      intro A8 c8 w8 hown8 hg8
      have b8 := (hbel.trans (b35.mono z3)).trans (hg8.belowC Hown5.out (by have := Z5.out; omega))
      have hps8 := Hps5.out.keep (sf_grow hg8)
      have Hown8 := ek hown8; have Hps8 := ek hps8; clear hown8 hps8 hg8
      go_wp2
      go_roundw
      case rel => exact ⟨A8, c8, vs ++ [.int .i64 (f : Int), .slice A4 rs.length c4], P ++ [(f, rs)], L ++ [(f, G)], G, by simp, rfl, HP2.out, Hch2.out, by have := HnL.out; omega, by rw [List.length_append]; exact Hown8.out, Hps8.out, b8⟩
      case measure => simp [intOf]; omega
    ·obtain rfl : f = l.length := by omega
     obtain ⟨e1, e2⟩ := ps_end Hhd.out hch
     have hfin : PLS wr (Fr w.heap.size wr) A3 P.length c3 P := ⟨vs, hown.rcS, hps.keep (stays_weak sf_fr)⟩
     have E1 := ek e1; have E2 := ek e2; have HP := ek hP; have Hfin := ek hfin
     clear e1 e2 hP hfin hown hps hch hnl hLl
     go_wp2
     go_ret3
     refine ⟨A3, c3, ?_, ?_, hbel⟩
     ·rw [E1.out, E2.out, ← HP.out]; rfl
     ·rw [E1.out, ← HP.out]; exact Hfin.out
  ·obtain ⟨Y, hY⟩ : ∃ Y, Y = l.take 4 := ⟨_, rfl⟩
   have hyn : ¬ Y = [84, 83, 81, 49] := by rw [hY]; exact hhd
   have hyb : (Y == [84, 83, 81, 49]) = false := by simpa using hyn
   have hyc : (Y.toArray == #[84, 83, 81, 49]) = false := by simpa using hyn
   have hcv2 : (convert 22 9 (.slice D 4 c)).run Tryz.prog w1 = .ok (.string ⟨Y.toArray⟩) w1 := by rw [hY]; exact hcv
   rw [hw1] at hcv2
   have hps := Sm.ps_not hhd
   have her := Sm.er_not hhd
   have HPS := ek hps; have HER := ek her
   clear hps her hhd hr hl ho1 hcv hrD hw1 hY
   go_enter Tryz.func62, Tryz.ntmps62
   go_wp2
   go_ret3
   refine ⟨some ⟨w.heap.size, 0,none⟩, 0, ?_, ?_, ej _ _⟩
   ·rw [HPS.out, HER.out]; rfl
   ·rw [HPS.out]
    exact ⟨[], ⟨rfl, Nat.le_refl _, by simp [maxLen], fun h => absurd h (by simp)⟩, PsS.nil⟩
end Go.Proofs.YtkekmokdlgocaaaGreatDoor.Sq
