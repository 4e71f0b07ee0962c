/-
  readValid: what the call returns and leaves.
-/
import Derived.Test.YtddnlimkaagpdaaDoorUc
namespace Go.Proofs.YtddnlimkaagpdaaDoor
open Go.RowKit Go.Shelf
attribute [local go_sem] Oper.semAt_some

/-- The records of blocks. -/
def rcs (l : List UInt8) (L : List (Nat × Nat)) : List Sm.R := L.flatMap fun p => (Sm.val l p).getD []
theorem rcs_snoc (l : List UInt8) (L : List (Nat × Nat)) (p : Nat × Nat) : rcs l (L ++ [p]) = rcs l L ++ (Sm.val l p).getD [] := by simp [rcs]
theorem rcs_len (l : List UInt8) : ∀ L : List (Nat × Nat), (rcs l L).length ≤ 100 * L.length
  | [] => by simp [rcs]
  | p :: L => by
    have ih := rcs_len l L
    have e : rcs l (p :: L) = (Sm.val l p).getD [] ++ rcs l L := rfl
    have h1 : ((Sm.val l p).getD []).length ≤ 100 := by
      rcases h : Sm.val l p with _ | rs
      · simp
      · obtain ⟨e, s, c, _, _, _, h4⟩ := Sm.blk_inv h
        exact (Sm.cont_len h4).2.1
    rw [e, List.length_append, List.length_cons]
    omega
/-- What the loop of readValid carries. -/
def RvI (l : List UInt8) (n lo hi n₀ : Nat) (wL : World) (pre : List (Bk n)) (W : World) : Prop :=
  ∃ A k c vs, Boxed W lo 28 (.slice A k c) ∧ Oc 1 W 50 n₀ A k c vs ∧ RrsS W (Sc n₀ W A) vs (rcs l (pre.map (·.1))) ∧ But lo hi n₀ wL W ∧ n₀ ≤ W.heap.size
theorem rvI_own (l : List UInt8) (n lo hi n₀ : Nat) (wL : World) (hlo : lo < n₀) : OwnFrom n₀ (RvI l n lo hi n₀ wL) := by
  rintro pre W W' row ⟨A, k, c, vs, h1, h2, h3, h4, h5⟩ hg hr
  exact ⟨A, k, c, vs, h1.kept hg (fun e => by have := (hr lo e.symm).1; omega), oc_turn h2 hg (fun r e => (hr r e).2), h3.keep (sc_turn hg fun r e => (hr r e).2), but_turn h4 hg (fun r e => (hr r e).1) h5, Nat.le_trans h5 hg.size⟩
def RvX (l : List UInt8) (n : Nat) (_c : Code) (pre : List (Bk n)) (_W : World) : Prop := ∃ p ∈ pre, Sm.val l p.1 = none
/-- Records in new blocks. -/
def RetRv (w : World) (rs : List Sm.R) (e : Ending) (w' : World) : Prop :=
  ∃ A k c, e = .returned (.slice A k c) ∧ k = rs.length ∧ RLS w' (Fr w.heap.size w') A k c rs ∧ Below w.heap.size w w'

set_option maxRecDepth 100000 in
set_option maxHeartbeats 4000000 in
/-- readValid -/
theorem rvalid_c (A : Option Addr) (n c : Nat) (l : List UInt8) (a t : Nat) (w : World) (hr : Rb w w.heap.size A n c l) (hn : n ≤ 900000) (hx : Mx w) (ht : t ≤ n) (ha : a ≤ 1000000) (fs : Nat) (hfs : fs = Sm.nxt (l.take (min (t + 1) n)) (clamp a (min (t + 1) n)))
    (hv : ∀ p ∈ Sm.sg l fs t, (Sm.val l p).isSome = true) :
    Calls Tryd.prog 27 #[.slice A n c, .int .i64 (a : Int), .int .i64 (t : Int)] w (RetRv w (rcs l (Sm.sg l fs t))) := by
  have hl := hr.len
  have hw0 := hx.2
  obtain ⟨w1, hw1⟩ : ∃ w1, w1 = w.alloc (.cells #[.slice none 0 0] 28) := ⟨_, rfl⟩
  have b1 : Below w.heap.size w w1 := by rw [hw1]; exact (Below.refl _ _).alloc (Nat.le_refl _) _
  have z1 : w1.heap.size = w.heap.size + 1 := by rw [hw1]; simp
  have hb1 : Boxed w1 w.heap.size 28 (.slice none 0 0) := by rw [hw1]; exact Boxed.new w _ _
  have htab := table_c w1
  have Hr := Lib.hid hr; have Hx := Lib.hid hx; have Hv := Lib.hid hv; have Hfs := Lib.hid hfs; have B1 := Lib.hid b1; have HB1 := Lib.hid hb1; have Htab := Lib.hid htab; have Hl := Lib.hid hl; have W1 := Lib.hid hw1
  clear hr hx hv hfs b1 hb1 htab hl hw1
  refine (callsIn_wide (n := 9)).1 ?_
  refine callsIn_of_wp_marks Tryd.func27 rfl trivial ?_ rfl
  simp only [Tryd.ntmps27, List.size_toArray, List.length_cons, List.length_nil, Nat.reduceAdd, Nat.reduceSub, Array.replicate_succ, Array.replicate_zero, List.push_toArray, List.append_toArray, List.nil_append, List.cons_append]
  gi_wp2_with (refine ⟨trivial, ?_⟩; gi_at_call 30; rw [← W1.out]; refine (callsIn_wide.2 Htab.out).mono ?_; rintro e w2 ⟨rfl, ht2, hb2, hz2⟩)
  obtain ⟨w3, hw3⟩ : ∃ w3, w3 = w2.alloc (.cells #[.slice (some ⟨w.heap.size + 1, 0, none⟩) 256 256] 56) := ⟨_, rfl⟩
  have hb3 : Boxed w3 w2.heap.size 56 (.slice (some ⟨w.heap.size + 1, 0, none⟩) 256 256) := by rw [hw3]; exact Boxed.new w2 _ _
  have b23 : Below w2.heap.size w2 w3 := by rw [hw3]; exact (Below.refl _ _).alloc (Nat.le_refl _) _
  have z23 : w3.heap.size = w2.heap.size + 1 := by rw [hw3]; simp
  rw [← hw3]
  clear hw3
  have b03 : Below w.heap.size w w3 := (B1.out.trans (hb2.mono (by omega))).trans (b23.mono (by omega))
  have hr3 := (Hr.out.below b03).more (B' := w3.heap.size) (by omega)
  have hfc := fstart_c A n c l a t w3 hr3 (by omega) ht ha (Hx.out.below' b03) fs Hfs.out
  have Hfc := Lib.hid hfc; clear hfc hr3
  refine ⟨trivial, (callsIn_wide.2 Hfc.out).mono ?_⟩
  rintro e w4 ⟨rfl, hb4⟩
  have z4 := hb4.size
  gi_wp2_with (refine ⟨trivial, ?_⟩; gi_at_call 39; refine (callsIn_wide.2 (blocks_c A n c (fs : Int) (t : Int) _)).mono ?_; rintro e w5 ⟨rfl, hw5⟩)
  obtain ⟨v5, hv5⟩ : ∃ v5, v5 = ((w4.alloc (.cells #[.slice A n c] 22)).alloc (.cells #[.int .i64 (fs : Int)] 3)).alloc (.cells #[.int .i64 (t : Int)] 3) := ⟨_, rfl⟩
  have z5 : v5.heap.size = w4.heap.size + 3 := by rw [hv5]; simp
  have b45 : Below w4.heap.size w4 v5 := by rw [hv5]; exact (((Below.refl _ _).alloc (Nat.le_refl _) _).alloc (by simp) _).alloc (by simp; omega) _
  have hBb : v5.cell? ⟨w4.heap.size, 0, none⟩ = some (.slice A n c) := by
    rw [hv5, World.cell?_alloc_lt _ _ _ (by simp; omega), World.cell?_alloc_lt _ _ _ (by simp)]; simp
  have hBf : v5.cell? ⟨w4.heap.size + 1, 0, none⟩ = some (.int .i64 (fs : Int)) := by
    rw [hv5, World.cell?_alloc_lt _ _ _ (by simp)]
    have := (Boxed.new (w4.alloc (.cells #[.slice A n c] 22)) 3 (.int .i64 (fs : Int))).cell
    rwa [World.size_alloc] at this
  have hBt : v5.cell? ⟨w4.heap.size + 2, 0, none⟩ = some (.int .i64 (t : Int)) := by
    rw [hv5]
    have := (Boxed.new ((w4.alloc (.cells #[.slice A n c] 22)).alloc (.cells #[.int .i64 (fs : Int)] 3)) 3 (.int .i64 (t : Int))).cell
    rwa [World.size_alloc, World.size_alloc] at this
  rw [← hv5]
  clear hv5 hw5
  have b15 : Below w1.heap.size w1 v5 := ((hb2.trans (b23.mono (by omega))).trans (hb4.mono (by omega))).trans (b45.mono (by omega))
  have b05 : Below w.heap.size w v5 := B1.out.trans (b15.mono (by omega))
  have b25 : Below w2.heap.size w2 v5 := (b23.trans (hb4.mono (by omega))).trans (b45.mono (by omega))
  have hl5 : Boxed v5 w.heap.size 28 (.slice none 0 0) := boxed_below HB1.out b15 (by omega)
  have ht5 : Boxed v5 w2.heap.size 56 (.slice (some ⟨w.heap.size + 1, 0, none⟩) 256 256) := boxed_below hb3 (hb4.trans (b45.mono z4)) (by omega)
  have hT5 : Rn v5 w2.heap.size (some ⟨w.heap.size + 1, 0, none⟩) 256 256 Cm.tab := by
    have := ht2.below b25
    rwa [z1] at this
  have hr5 := Hr.out.below b05
  have hx5 := Hx.out.below' b05
  refine wpIn_rangeFunc_ownG rfl (by omega) (gf := 57) (lb := #[.pointer (some ⟨w4.heap.size + 1, 0, none⟩), .pointer (some ⟨w4.heap.size + 2, 0, none⟩), .pointer (some ⟨w4.heap.size, 0, none⟩)]) rfl trivial
    (enters_of Tryd.func57 (by kernel_rfl) rfl)
    (blocks_stops A n c l fs t w.heap.size (w.heap.size + 1) v5 hr5 (by omega) hx5 hw0 (w4.heap.size + 1) (w4.heap.size + 2) w4.heap.size ⟨hBf, by omega, by omega⟩ ⟨hBt, by omega, by omega⟩ ⟨hBb, by omega, by omega⟩ (by omega) ht 7)
    (fun h k => h.trans k) (fun W L o o' h1 h2 _ _ => but_put h1 h2) (Below.refl _ _) (fun _ => rfl)
    (RvI l n w.heap.size (w.heap.size + 1) v5.heap.size v5) (RvX l n) (rvI_own l n _ _ _ v5 (by omega)) (fun _ _ _ _ _ h _ _ => h)
    ⟨none, 0, 0, [], hl5, Oc.nil _ _ _ _, RrsS.nil, But.refl _, Nat.le_refl _⟩
    (fun x => { tmps := #[.slice A n c, .int .i64 (a : Int), .int .i64 (t : Int), undef, undef, undef, .slice none 0 0, .pointer (some ⟨w.heap.size, 0, none⟩), .pointer (some ⟨w2.heap.size, 0, none⟩), undef, .slice (cutA A c x.1.1) (x.1.2 - x.1.1) (c - x.1.1), undef, undef,
      .slice (some ⟨w.heap.size + 1, 0, none⟩) 256 256, .slice A n c, .slice A n c, .int .i64 (a : Int), .int .i64 (t : Int), .int .i64 (fs : Int), .int .i64 (t : Int),
      .func (.func 57) #[] #[.pointer (some ⟨w4.heap.size + 1, 0, none⟩), .pointer (some ⟨w4.heap.size + 2, 0, none⟩), .pointer (some ⟨w4.heap.size, 0, none⟩)], .int .i64 (x.1.1 : Int), .slice (cutA A c x.1.1) (x.1.2 - x.1.1) (c - x.1.1),
      undef, undef, undef, undef, undef, undef, undef, undef, undef, undef, undef, undef], defers := [] }) ?assign ?body ?done ?stop
  case assign =>
    intro L x W K hK
    simp only [encB]
    gi_wp2
    exact hK
  case body =>
    rintro L pre x W ⟨A2, k2, c2, vs, hbx, hoc, hrs, hbut, hsz⟩ hlen
    have hbel : Below w.heap.size w W := b05.trans (hbut.below (by omega))
    have hrW := ((Hr.out.below hbel).midE x.2.1 x.2.2).more (B' := W.heap.size) hbel.size
    have hTW := (hT5.other (hbut.block (w.heap.size + 1) (by omega) (by omega))).more (B' := W.heap.size) (by omega)
    have hrc := records_c (some ⟨w.heap.size + 1, 0, none⟩) 256 (cutA A c x.1.1) (x.1.2 - x.1.1) (c - x.1.1) ((l.take x.1.2).drop x.1.1) W hTW hrW (by have := x.2.2; omega)
    have hct := (boxed_but ht5 hbut (by omega) (by omega)).cell
    have hkl := hrs.1
    have hk2 : vs.length = k2 := by have := hoc.1; omega
    have hrl := rcs_len l (pre.map (·.1))
    rw [List.length_map] at hrl
    have hkb : k2 ≤ 100 * (n + 1) := by omega
    have q5 : w4.heap.size + 3 ≤ v5.heap.size := by omega
    have e : Sm.blk ((l.take x.1.2).drop x.1.1) = Sm.val l x.1 := rfl
    rw [e] at hrc
    clear z5 hkl hk2 hrl e
    rcases hval : Sm.val l x.1 with _ | rs
    · rw [hval] at hrc
      have Hrc := Lib.hid hrc; have Hval := Lib.hid hval; clear hrc hval hrW hTW
      gi_wp2_with (refine ⟨trivial, ?_⟩; gi_at_call 40; refine (CallsIn.inRound L (callsIn_wide.2 Hrc.out)).mono ?_; rintro e w6 ⟨hb6, A6, k6, c6, o6, rfl, rfl⟩)
      exact ⟨keeps_of_below hb6 _, x, by simp, Hval.out⟩
    · rw [hval] at hrc
      have hrs100 : rs.length ≤ 100 := by
        obtain ⟨_, _, _, _, _, _, h4⟩ := Sm.blk_inv hval
        exact (Sm.cont_len h4).2.1
      have Hrc := Lib.hid hrc; have Hval := Lib.hid hval; have Hbx := Lib.hid hbx; have Hoc := Lib.hid hoc; have Hrs := Lib.hid hrs; clear hrc hval hrW hTW hbx hoc hrs
      gi_wp2_with (first
        | (refine ⟨trivial, ?_⟩; gi_at_call 40; refine (CallsIn.inRound L (callsIn_wide.2 Hrc.out)).mono ?_; rintro e w6 ⟨hb6, A6, k6, c6, o6, rfl, rfl, rfl, vs6, hc6, hr6⟩; have hl6 := (boxed_below Hbx.out hb6 (by omega)).cell; have Hc6 := Lib.hid (RcS.rc (hc6.keep (stays_weak fr_lt))); have Hr6 := Lib.hid hr6; have Hoc6 := Lib.hid (Hoc.out.keep hb6); have z6 := hb6.size; clear hc6 hr6)
        | (gi_at_builtin; refine rty.wpInApp rfl (.tmp 31) (.tmp 32) rfl (n := k2) (m := rs.length) (N := k2 + rs.length) (ws := vs ++ vs6) rfl rfl Hoc6.out Hc6.out (rrs_one Hr6.out) rfl rfl (by omega) (by omega) (by omega) ?_; intro A7 c7 w7 ho7 hg7; have hB7 : Boxed w7 w.heap.size 28 (.slice A2 k2 c2) := (hg7.1.block w.heap.size (by omega) (fun e => by have := (oc_ob Hoc6.out w.heap.size e.symm).1; omega)).trans (boxed_below Hbx.out hb6 (by omega)); have hl7 := hB7.cell; have hf7 := hB7.frozen))
      have hg6 : Grows W w7 A2 A7 := hg7.pre hb6
      have hsf : RrsS w7 (Sf v5.heap.size w7 A7) (vs ++ vs6) (rcs l (pre.map (·.1)) ++ rs) := by
        have h1 := (Hrs.out.keep (stays_weak sc_sf)).keep (sf_below hb6)
        have h2 := Hr6.out.keep (S' := Sf v5.heap.size w6 A2) (stays_weak fun b hb => ⟨by have := hb.1; omega, hb.2, fun e => by have := (oc_ob Hoc.out b e.symm).2; have := hb.1; omega⟩)
        exact (h1.append h2).keep (sf_grow hg7)
      have hk7 : KeepsFrom v5.heap.size W w7 := (keeps_of_below hb6 _).trans (keeps_grow hg7 Hoc6.out _)
      have hb7 : But w.heap.size (w.heap.size + 1) v5.heap.size W w7 := (but_of hb6 hsz).trans (but_grow hg7 (fun g hg => (oc_ob Hoc6.out g hg).1) (Nat.le_refl _) (by omega))
      have hsv : But w.heap.size (w.heap.size + 1) v5.heap.size W (w7.setCell ⟨w.heap.size, 0, none⟩ (.slice A7 (k2 + rs.length) c7)) := hb7.trans (But.set w7 (by omega) _)
      refine ⟨hk7.trans ((KeepsOthers.setCell w7 ⟨w.heap.size, 0, none⟩ (.slice A7 (k2 + rs.length) c7)).from _), hsv, A7, k2 + rs.length, c7, vs ++ vs6, hB7.set _, oc_low ho7 (by omega) _, ?_, hbut.trans hsv, by have := hg6.size; simp; omega⟩
      have h3 := (hsf.keep (sf_low (lo := w.heap.size) (by omega) (.slice A7 (k2 + rs.length) c7))).cells
      rw [List.map_append, List.map_cons, List.map_nil, rcs_snoc, Hval.out]
      exact h3
  case done =>
    rintro D xs W hD hS ⟨A2, k2, c2, vs, hbx, hoc, hrs, hbut, hsz⟩ hK
    have hl2 := hbx.cell
    rw [hS] at hrs
    have hk2 : k2 = (rcs l (Sm.sg l fs t)).length := by have h1 := hrs.1; have h2 := hoc.1; omega
    have Hk2 := Lib.hid hk2; clear hk2
    gi_wp2
    refine ⟨by simp, .inl ⟨_, _, rfl, run_takeDeferred hK, ?_⟩⟩
    have hg := grownBy_putObj' W D (.deferred none)
    have hnc : ∀ r, some D = some r → ∃ o : Obj, W.heap[r]? = some o ∧ o.isCells = false := fun r e => by cases e; exact ⟨_, hK, rfl⟩
    refine ⟨_, results_tmp rfl _ _ _, A2, k2, c2, rfl, Hk2.out, ⟨vs, ?_, ?_⟩, ?_⟩
    · exact (oc_turn hoc hg hnc).rcS.keep (stays_weak fun b hb => ⟨by have := hb.1; omega, hb.2⟩)
    · exact (hrs.keep (sc_turn hg hnc)).keep (stays_weak fun b hb => ⟨by have := hb.1.1; omega, hb.1.2.1⟩)
    · exact (b05.trans (hbut.below (by omega))).trans ((but_put (lo := w.heap.size) (hi := w.heap.size + 1) (o' := .deferred none) hD hK).below (by omega))
  case stop =>
    rintro D c pre W hD hpre hx hK
    exfalso
    obtain ⟨p, hp, hpn⟩ := hx
    obtain ⟨r, hr⟩ := hpre
    have := Hv.out p.1 (by rw [← hr]; exact List.mem_append_left _ (List.mem_map_of_mem hp))
    rw [hpn] at this
    cases this
end Go.Proofs.YtddnlimkaagpdaaDoor
