/-
  Joined: Q7 Q8 Q9 Nc.
-/
import Derived.Test.YtkekmokdlgocaaaGreatDoorJW10
import Derived.Test.YtkekmokdlgocaaaGreatDoorJW11
import Derived.Deep.DeepCutAuto
import Derived.Test.YtkekmokdlgocaaaGreatDoorJW14
import Derived.Test.YtkekmokdlgocaaaGreatDoorJW13
set_option maxRecDepth 100000
set_option maxHeartbeats 4000000
namespace Go.Proofs.YtkekmokdlgocaaaGreatDoor.Bun
open Go.RowKit
theorem _root_.Go.Proofs.YtkekmokdlgocaaaGreatDoor.Sl.opAppAt {P : Program} {t e : TypeId} {zv : Value} {z y : Nat} (u : Sl P t e zv z y) {w : World} {o : Oper} {a : Act} {K : Act → World → Prop} {Q : Exit → Act → World → Prop} (p q : Operand)
  (ho : o.op = .call { callee := .builtin .append, args := #[p, q], argTypes := #[t, t] })
  {base n c B m d N : Nat} {A D : Option Addr} {vs us ws : List Value} (hx : a.eval p = .slice A n c) (hy : a.eval q = .slice D m d) (hown : Oc z w e base A n c vs) (hr : Rc z w B D m d us) (h1 : ∀ v ∈ us, v.oneCell' = true)
  (hN : n + m = N) (hvs : vs ++ us = ws) (hsm : N * y ≤ 140737488355328) (hnm : N ≤ 140737488355328) (hbase : base ≤ w.heap.size)
  (h : ∀ A' c' w', Oc z w' e base A' N c' ws → Grows w w' A A' → K (a.put o.dst (.slice A' N c')) w') : o.wp P a w K Q := by
 subst hN hvs
 obtain ⟨A', c', w', hrun, h2, h3⟩ := u.appendAt o.type hown hr h1 hsm hnm hbase
 unfold Oper.wp execOp
 simp only [ho, resolve, invoke, builtin, Sem.run_bind, Sem.run_pure, Result.andThen_ok, List.map_toArray, List.map_cons, List.map_nil, hx, hy, hrun]
 exact h A' c' w' h2 h3
theorem oc_lt {z : Nat} {w : World} {e : TypeId} {base n c : Nat} {A : Option Addr} {vs : List Value} (h : Oc z w e base A n c vs) : ∀ g, ob A = some g → g < w.heap.size := fun g hg => (oc_ob h g hg).2
theorem rec_sf {w' : World} {base g : Nat} {e : TypeId} {A D : Option Addr} {n c : Nat} {r : List (List UInt8)} (hD : Oc 1 w' e g D n c (lvs r)) (hg : base ≤ g) (hA : ∀ k, ob A = some k → k < g) : RrS w' (Sf base w' A) (.slice D n c) r :=
 ⟨D, n, c, rfl, hD.rcS.keep (stays_weak fun b hb => ⟨Nat.le_trans hg hb.1, hb.2, fun e => by have := hA b e.symm; have := hb.1; omega⟩)⟩
theorem piece_two (w : World) (s x : List UInt8) (a : Nat) (A : Option Addr) (base : Nat) (te tr tp : TypeId) (hb : base ≤ w.heap.size) (hA : ∀ g, ob A = some g → g < w.heap.size) (w5 w6 w7 : World)
  (h5 : w5 = w.alloc (.cells #[.string ⟨s.toArray⟩, .string ⟨x.toArray⟩] te)) (h6 : w6 = w5.alloc (.cells #[.slice (some ⟨w.heap.size, 0, none⟩) 2 2] tr)) (h7 : w7 = w6.alloc (.cells #[.int .i64 (a : Int), .slice (some ⟨w.heap.size + 1, 0, none⟩) 1 1] tp)) :
  w7.heap.size = w.heap.size + 3 ∧ Below w.heap.size w w7 ∧ Rc 2 w7 w7.heap.size (some ⟨w.heap.size + 2, 0, none⟩) 1 1 [.int .i64 (a : Int), .slice (some ⟨w.heap.size + 1, 0, none⟩) 1 1] ∧
  PrS w7 (Sf base w7 A) (.int .i64 (a : Int)) (.slice (some ⟨w.heap.size + 1, 0, none⟩) 1 1) (a, [[s, x]]) := by
 have z5 : w5.heap.size = w.heap.size + 1 := by rw [h5]; simp
 have b5 : Below w.heap.size w w5 := by rw [h5]; exact ej _ _
 have o5 : Oc 1 w5 te w.heap.size (some ⟨w.heap.size, 0, none⟩) 2 2 (lvs [s, x]) := by rw [h5]; exact Oc.lit (z := 1) w te #[.string ⟨s.toArray⟩, .string ⟨x.toArray⟩] 2 rfl (by simp [maxLen])
 have r5 : RrS w5 (Sf base w5 A) (.slice (some ⟨w.heap.size, 0, none⟩) 2 2) [s, x] := rec_sf o5 hb hA
 have z6 : w6.heap.size = w.heap.size + 2 := by rw [h6]; simp [z5]
 have z7 : w7.heap.size = w.heap.size + 3 := by rw [h7]; simp [z6]
 have b67 : Below w5.heap.size w5 w7 := by
  rw [h7, h6]
  exact (ej _ _).alloc (by simp) _
 have g6 : w6.cell? ⟨w.heap.size + 1, 0, none⟩ = some (.slice (some ⟨w.heap.size, 0, none⟩) 2 2) := by rw [h6, ← z5]; simp
 have g7 : w7.cell? ⟨w.heap.size + 1, 0, none⟩ = some (.slice (some ⟨w.heap.size, 0, none⟩) 2 2) := by rw [h7, World.cell?_alloc_lt _ _ _ (by simp [z6])]; exact g6
 have hne : some (w.heap.size + 1) ≠ ob A := fun e => by have := hA _ e.symm; omega
 refine ⟨z7, b5.trans (b67.mono (by omega)), ?_, rfl, _, _, _, rfl, [.slice (some ⟨w.heap.size, 0, none⟩) 2 2], ⟨rfl, Nat.le_refl _, by simp [maxLen], fun _ => ⟨_, _, rfl, ⟨by omega, by omega, hne⟩, fun j v hj => ?_⟩⟩, rfl, fun j v r hj hr => ?_⟩
 ·have h := Rc.lit (z := 2) w6 tp #[.int .i64 (a : Int), .slice (some ⟨w.heap.size + 1, 0, none⟩) 1 1] 1 rfl (by simp [maxLen])
  rw [← h7, z6] at h
  exact h.more (by omega)
 ·cases j with
  | zero => simp at hj; subst hj; exact g7
  | succ j => simp at hj
 ·cases j with
  | zero =>
   simp at hj hr
   subst hj hr
   exact r5.keep (sf_below b67)
  | succ j => simp at hj
theorem pcs_next (D : List Bm.F) (V : List (List UInt8)) (i : Nat) (f : Bm.F) (x : List UInt8) (h1 : D[i]? = some f) (h2 : V[i]? = some x) : Bm.pcs D (V.take (i + 1)) = Bm.pcs D (V.take i) ++ [(f.at_, [[f.nm, x]])] := by
 unfold Bm.pcs
 induction D generalizing V i with
 | nil => simp at h1
 | cons g D ih =>
  cases V with
  | nil => simp at h2
  | cons y V =>
   cases i with
   | zero => simp at h1 h2; subst h1 h2; simp
   | succ i =>
    have := ih V i (by simpa using h1) (by simpa using h2)
    simp only [List.take_succ_cons, List.zipWith_cons_cons, List.cons_append]
    rw [← this]
def RetSc (w : World) (t : List (Nat × List (List (List UInt8))) × Nat × Nat) (e : Ending) (w' : World) : Prop :=
 ∃ A c, e = .returned (.tuple #[.slice A t.1.length c, .int .i64 (t.2.1 : Int), .int .i64 (t.2.2 : Int)]) ∧ PLS w' (Fr w.heap.size w') A t.1.length c t.1 ∧ Below w.heap.size w w'
def ScRel (base vn : Nat) (w : World) (D : List Bm.F) (V : List (List UInt8)) (o i : Value) (wr : World) : Prop :=
 ∃ A c vs, ∃ j : Nat, o = .slice A j c ∧ i = .int .i64 (j : Int) ∧ j ≤ vn ∧ Oc 2 wr 81 base A j c vs ∧ PsS wr (Sf base wr A) vs (Bm.pcs D (V.take j)) ∧ Below base w wr
theorem dir_files {l : List UInt8} {D : List Bm.F} {e n : Nat} (h : Bm.dir l = some (D, e)) (hl : l.length = n) (hn : n ≤ 90000) : D.length ≤ 1000 ∧ e ≤ 2000000 ∧ ∀ f ∈ D, f.st ≤ 2000000 ∧ f.sz ≤ 1000 ∧ f.at_ ≤ 2000000 ∧ f.nm.length ≤ 100 := by
 obtain ⟨x, _, _, _, hp, hD, hm, hle, he⟩ := Bm.dir_inv h
 refine ⟨hD, by omega, fun f hf => ?_⟩
 have h1 := hm f hf
 have h2 := (Bm.plc_le D _ _ hp).2 f hf
 omega
theorem scan_c (A : Option Addr) (n c : Nat) (l : List UInt8) (w : World) (hr : Rb w w.heap.size A n c l) (hn : n ≤ 90000) :
  Calls Tryz.prog 83 #[.slice A n c] w (RetSc w (Bm.scS l)) := by
 have hl := hr.len
 have hdi := fun (T : Option Addr) (W : World) (hT : Rn W W.heap.size T 256 256 Cm.tab) (hW : Rb W W.heap.size A n c l) => directoryOf_c T A n c 256 l W hT hW hn
 have Hr := ek hr; have Hl := ek hl; have Hdi := ek hdi
 clear hr hl hdi
 rcases hI : Bm.dir l with _ | ⟨D, en⟩
 ·have hres := Bm.scS_none hI
  have HI := ek hI; have Hres := ek hres
  clear hI hres
  go_enter Tryz.func83, Tryz.ntmps83
  go_wp2_with fail
  refine (table_c w).mono ?_
  rintro e w1 ⟨rfl, hT, hb1, hz1⟩
  have hr1 := (Hr.out.below hb1).more hb1.size
  have HT := ek hT; have Hr1 := ek hr1
  clear hT hr1
  go_wp2_with fail
  refine (Hdi.out _ _ HT.out Hr1.out).mono ?_
  rw [HI.out]
  rintro e w2 ⟨hb2, rfl⟩
  unfold dv
  go_wp2
  go_ret3
  rw [Hres.out]
  exact ⟨none, 0, rfl, PLS.nil, (hb1.trans (hb2.mono hb1.size)).trans ((Below.refl _ _).alloc (Nat.le_trans hb1.size hb2.size) _)⟩
 ·obtain ⟨hD, hen, hm⟩ := dir_files hI Hl.out hn
  obtain ⟨V, hV⟩ : ∃ V, V = Bm.cts l D := ⟨_, rfl⟩
  obtain ⟨k, hk⟩ : ∃ k, D.length = k := ⟨_, rfl⟩
  obtain ⟨vn, hvn⟩ : ∃ vn, V.length = vn := ⟨_, rfl⟩
  have hvk : vn ≤ k := by rw [← hvn, ← hk, hV]; exact Bm.cts_len l D
  rw [hk] at hD
  have HI := ek hI; have Hm := ek hm; have HV := ek hV; have Hk := ek hk; have Hvn := ek hvn
  clear hI hm hV hk hvn
  go_enter Tryz.func83, Tryz.ntmps83
  go_wp2_with fail
  refine (table_c w).mono ?_
  rintro e w1 ⟨rfl, hT, hb1, hz1⟩
  have hr1 := (Hr.out.below hb1).more hb1.size
  have HT := ek hT; have Hr1 := ek hr1
  clear hT hr1
  go_wp2_with fail
  refine (Hdi.out _ _ HT.out Hr1.out).mono ?_
  rw [HI.out]
  rintro e w2 ⟨hb2, F, d, rfl, hF⟩
  have z1 := hb1.size
  have z2 := hb2.size
  unfold dv
  rw [Hk.out] at hF ⊢
  obtain ⟨g6, hg6⟩ : ∃ g6, g6 = w2.heap.size := ⟨_, rfl⟩
  obtain ⟨w3, hw3⟩ : ∃ w3, w3 = w2.alloc (.cells #[.slice F k d, .int .i64 (en : Int)] 156) := ⟨_, rfl⟩
  have b3 : Below w2.heap.size w2 w3 := by rw [hw3]; exact ej _ _
  have x3 : Box2 w3 g6 (.slice F k d) (.int .i64 (en : Int)) := by rw [hw3, hg6]; exact Box2.made _ _ _ _
  have bw3 := (hb1.trans (hb2.mono z1)).trans (b3.mono (by omega))
  have z3 := b3.size
  have hF3 : Rf w3 w3.heap.size F k d D := (Rf.below hF.rf b3).more z3
  have hr3 := (Hr.out.below bw3).more bw3.size
  have hT3 := (HT.out.below (hb2.trans (b3.mono z2))).more (B' := w3.heap.size) (by omega)
  have hco := contents_c _ A F n c 256 k d l D w3 hT3 hr3 hF3 hD (fun f hf => ⟨(Hm.out f hf).1, (Hm.out f hf).2.1, (Hm.out f hf).2.2.1⟩)
  rw [← HV.out] at hco
  have W3 := ek hw3; have HF3 := ek hF3; have Hco := ek hco; have X3 := ek x3; have Hg6 := ek hg6
  obtain ⟨c0, c1, -, -, hlt6⟩ := x3
  clear hw3 hF3 hF hco hT3 hr3 hg6 b3
  go_wp2_with (rw [← W3.out, ← Hg6.out])
  refine Hco.out.mono ?_
  rintro e w4 ⟨G, gd, rfl, hG, hb4⟩
  rw [Hvn.out] at hG ⊢
  have x4 := X3.out.below hb4 hlt6
  have hF4 := (HF3.out.below hb4).more hb4.size
  have z4 := hb4.size
  have bw4 := bw3.trans (hb4.mono (by omega))
  have hG4 := (hG.keep (stays_weak fr_lt)).rc
  have HG4 := ek hG4; have HF4 := ek hF4; have X4 := ek x4
  clear hG hG4 hF4 x4 c0 c1
  go_wp2
  go_loopw [8, 28] (fun o i wr => ScRel w4.heap.size vn w4 D V o i wr) (fun _ i _ => vn - (intOf i).toNat)
  case atStart => exact ⟨none, 0, [], 0, rfl, rfl, Nat.zero_le _, Oc.nil _ _ _ _, by rw [List.take_zero]; unfold Bm.pcs; rw [List.zipWith_nil_right]; exact PsS.nil, Below.refl _ _⟩
  case round =>
   obtain ⟨A5, c5, vs, j, rfl, rfl, hj, hown, hps, hbel⟩ := hrel
   have z5 := hbel.size
   obtain ⟨c0, c1, -, -, -⟩ := X4.out.below hbel (by omega)
   have bwr := bw4.trans (hbel.mono (by have := bw4.size; omega))
   by_cases hlt : j < vn
   ·obtain ⟨vb, vo, x, rfl, hvb, hvc, hvx, -⟩ := lvs_at (HG4.out.below hbel) hlt
    obtain ⟨fb, fo, f, rfl, hfb, hfx, e0, e1, e2, e3⟩ := (HF4.out.below hbel).at_ (show j < k by omega)
    have hm3 := (Hm.out f (List.mem_of_getElem? hfx)).2.2.1
    have hpn := pcs_next D V j f x hfx hvx
    obtain ⟨fa, hfa⟩ : ∃ a, a = f.at_ := ⟨_, rfl⟩
    obtain ⟨fn, hfn⟩ : ∃ a, a = f.nm := ⟨_, rfl⟩
    rw [← hfa] at e0 hm3; rw [← hfn] at e1; rw [← hfa, ← hfn] at hpn
    obtain ⟨W5, h5⟩ : ∃ W5, W5 = wr.alloc (.cells #[.string ⟨fn.toArray⟩, .string ⟨x.toArray⟩] 9) := ⟨_, rfl⟩
    obtain ⟨W6, h6⟩ : ∃ W6, W6 = W5.alloc (.cells #[.slice (some ⟨wr.heap.size, 0, none⟩) 2 2] 77) := ⟨_, rfl⟩
    obtain ⟨W7, h7⟩ : ∃ W7, W7 = W6.alloc (.cells #[.int .i64 (fa : Int), .slice (some ⟨wr.heap.size + 1, 0, none⟩) 1 1] 81) := ⟨_, rfl⟩
    obtain ⟨z7, b7, hlit, hpr⟩ := piece_two wr fn x fa A5 w4.heap.size _ _ _ z5 (oc_lt hown) W5 W6 W7 h5 h6 h7
    have own7 := hown.keep b7
    have ps7 := (hps.keep (sf_below b7)).snoc hpr
    have Hown7 := ek own7; have Hps7 := ek ps7; have Hlit := ek hlit; have Hpn := ek hpn; have H5 := ek h5; have H6 := ek h6; have H7 := ek h7
    clear hown hps own7 ps7 hlit hpr hpn h5 h6 h7 hfa hfn e2 e3
    have hjk : j < k := by omega
    have hfb2 : fb < w4.heap.size := hfb
    have hg62 : g6 < w4.heap.size := by omega
    have c0d : wr.drew.cell? ⟨g6, 0, none⟩ = some (.slice (some ⟨fb, fo, none⟩) k d) := c0
    have e0d : wr.drew.cell? ⟨fb, fo + j * 4, none⟩ = some (.int .i64 (fa : Int)) := e0
    have e1d : wr.drew.cell? ⟨fb, fo + j * 4 + 1, none⟩ = some (.string ⟨fn.toArray⟩) := e1
    have hz5' : W5.heap.size = wr.heap.size + 1 := by rw [H5.out]; simp
    have hz6 : W6.heap.size = wr.heap.size + 2 := by rw [H6.out]; simp [hz5']
    have hb5 : Below w4.heap.size wr.drew (W5.drewN 1) := by
     have : Below w4.heap.size wr W5 := by rw [H5.out]; exact (Below.refl _ _).alloc z5 _
     exact ⟨this.os, this.tape, this.output, this.size, this.block⟩
    have hb6 : Below w4.heap.size (W5.drewN 1) (W6.drewN 1) := by
     have : Below w4.heap.size W5 W6 := by rw [H6.out]; exact (Below.refl _ _).alloc (by omega) _
     exact ⟨this.os, this.tape, this.output, this.size, this.block⟩
    have hb7 : Below w4.heap.size (W6.drewN 1) (W7.drewN 1) := by
     have : Below w4.heap.size W6 W7 := by rw [H7.out]; exact (Below.refl _ _).alloc (by omega) _
     exact ⟨this.os, this.tape, this.output, this.size, this.block⟩
    have hz7b : w4.heap.size ≤ (W7.drewN 1).heap.size := by show _ ≤ W7.heap.size; omega
    go_upto_region 10 with fail
    refine wp_region_schedG (w4.heap.size) [(false, 0), (false, 1), (false, 2), (false, 3), (false, 4), (false, 5), (false, 6), (false, 7), (false, 8), (false, 9), (false, 10), (false, 11), (false, 12), (false, 13), (true, 14), (true, 15), (false, 16), (true, 17), (true, 18), (false, 19)] (by kernel_rfl) (by kernel_rfl) (by kernel_rfl) (by kernel_rfl) (fun _ _ d _ _ h => by cases d <;> exact h) ?_
    refine wpG_read (o := ⟨some 33, .move (.tmp 8), 67, "bundle.go:24", #[], none⟩) (v := .slice A5 j c5) rfl (by rfl) ?_ ?_
    ·intro w' _; go_simp
    try simp only [Act.put, ep, eh, ei]
    refine wpG_read (o := ⟨some 34, .fieldAddr 156 (.tmp 6) 0, 0, "bundle.go:24", #[], none⟩) (v := .pointer (some ⟨g6, 0, none⟩)) rfl (by rfl) ?_ ?_
    ·intro w' _; go_simp
    try simp only [Act.put, ep, eh, ei]
    refine wpG_read (o := ⟨some 35, .load 154 (.tmp 34), 154, "bundle.go:24", #[⟨1, .data⟩], none⟩) (v := .slice (some ⟨fb, fo, none⟩) k d) rfl (by rfl) ?_ ?_
    ·intro w' hw'; have hcl := (hw'.cell (p := ⟨g6, 0, none⟩) hg62).trans c0d; go_simp
    try simp only [Act.put, ep, eh, ei]
    refine wpG_read (o := ⟨some 36, .move (.tmp 10), 3, "bundle.go:24", #[], none⟩) (v := .int .i64 ((j : Int))) rfl (by rfl) ?_ ?_
    ·intro w' _; go_simp
    try simp only [Act.put, ep, eh, ei]
    refine wpG_read (o := ⟨some 37, .indexAddr 154 (.tmp 35) (.tmp 36), 0, "bundle.go:24", #[⟨2, .data⟩, ⟨3, .data⟩], none⟩) (v := .pointer (some ⟨fb, fo + j * 4, none⟩)) rfl (by rfl) ?_ ?_
    ·intro w' _; go_simp
    try simp only [Act.put, ep, eh, ei]
    refine wpG_read (o := ⟨some 38, .fieldAddr 161 (.tmp 37) 0, 0, "bundle.go:24", #[⟨4, .data⟩], none⟩) (v := .pointer (some ⟨fb, fo + j * 4, none⟩)) rfl (by rfl) ?_ ?_
    ·intro w' _; go_simp
    try simp only [Act.put, ep, eh, ei]
    refine wpG_read (o := ⟨some 39, .load 3 (.tmp 38), 3, "bundle.go:24", #[⟨5, .data⟩], none⟩) (v := .int .i64 ((fa : Int))) rfl (by rfl) ?_ ?_
    ·intro w' hw'; have hcl := (hw'.cell (p := ⟨fb, fo + j * 4, none⟩) hfb2).trans e0d; go_simp
    try simp only [Act.put, ep, eh, ei]
    refine wpG_read (o := ⟨some 40, .fieldAddr 156 (.tmp 6) 0, 0, "bundle.go:24", #[], none⟩) (v := .pointer (some ⟨g6, 0, none⟩)) rfl (by rfl) ?_ ?_
    ·intro w' _; go_simp
    try simp only [Act.put, ep, eh, ei]
    refine wpG_read (o := ⟨some 41, .load 154 (.tmp 40), 154, "bundle.go:24", #[⟨7, .data⟩], none⟩) (v := .slice (some ⟨fb, fo, none⟩) k d) rfl (by rfl) ?_ ?_
    ·intro w' hw'; have hcl := (hw'.cell (p := ⟨g6, 0, none⟩) hg62).trans c0d; go_simp
    try simp only [Act.put, ep, eh, ei]
    refine wpG_read (o := ⟨some 42, .move (.tmp 10), 3, "bundle.go:24", #[], none⟩) (v := .int .i64 ((j : Int))) rfl (by rfl) ?_ ?_
    ·intro w' _; go_simp
    try simp only [Act.put, ep, eh, ei]
    refine wpG_read (o := ⟨some 43, .indexAddr 154 (.tmp 41) (.tmp 42), 0, "bundle.go:24", #[⟨8, .data⟩, ⟨9, .data⟩], none⟩) (v := .pointer (some ⟨fb, fo + j * 4, none⟩)) rfl (by rfl) ?_ ?_
    ·intro w' _; go_simp
    try simp only [Act.put, ep, eh, ei]
    refine wpG_read (o := ⟨some 44, .fieldAddr 161 (.tmp 43) 1, 0, "bundle.go:24", #[⟨10, .data⟩], none⟩) (v := .pointer (some ⟨fb, fo + j * 4 + 1, none⟩)) rfl (by rfl) ?_ ?_
    ·intro w' _; go_simp
    try simp only [Act.put, ep, eh, ei]
    refine wpG_read (o := ⟨some 45, .load 9 (.tmp 44), 9, "bundle.go:24", #[⟨11, .data⟩], none⟩) (v := .string ⟨fn.toArray⟩) rfl (by rfl) ?_ ?_
    ·intro w' hw'; have hcl := (hw'.cell (p := ⟨fb, fo + j * 4 + 1, none⟩) hfb2).trans e1d; go_simp
    try simp only [Act.put, ep, eh, ei]
    refine wpG_read (o := ⟨some 46, .move (.tmp 11), 9, "bundle.go:24", #[], none⟩) (v := .string ⟨x.toArray⟩) rfl (by rfl) ?_ ?_
    ·intro w' _; go_simp
    try simp only [Act.put, ep, eh, ei]
    refine wpG_make (o := ⟨some 47, .buildSlice 77 2 #[(0, .tmp 45), (1, .tmp 46)], 77, "bundle.go:24", #[⟨12, .data⟩, ⟨13, .data⟩], none⟩) (v := .slice (some ⟨wr.heap.size, 0, none⟩) 2 2) (w1 := W5.drewN 1) rfl (by rfl) ?_ ?_ ?_
    ·rw [H5.out]; go_simp; rfl
    ·exact hb5
    try simp only [Act.put, ep, eh, ei]
    refine wpG_make (o := ⟨some 48, .buildSlice 30 1 #[(0, .tmp 47)], 30, "bundle.go:24", #[⟨14, .data⟩], none⟩) (v := .slice (some ⟨wr.heap.size + 1, 0, none⟩) 1 1) (w1 := W6.drewN 1) rfl (by rfl) ?_ ?_ ?_
    ·rw [H6.out]; go_simp; rfl
    ·exact hb6
    try simp only [Act.put, ep, eh, ei]
    refine wpG_read (o := ⟨some 49, .build 81 #[(0, .tmp 39), (1, .tmp 48)], 81, "bundle.go:24", #[⟨6, .data⟩, ⟨15, .data⟩], none⟩) (v := .agg #[.int .i64 (fa : Int), .slice (some ⟨wr.heap.size + 1, 0, none⟩) 1 1]) rfl (by rfl) ?_ ?_
    ·intro w' _; go_simp
    try simp only [Act.put, ep, eh, ei]
    refine wpG_make (o := ⟨some 50, .buildSlice 67 1 #[(0, .tmp 49)], 67, "bundle.go:24", #[⟨16, .data⟩], none⟩) (v := .slice (some ⟨wr.heap.size + 2, 0, none⟩) 1 1) (w1 := W7.drewN 1) rfl (by rfl) ?_ ?_ ?_
    ·rw [H7.out]; go_simp; rfl
    ·exact hb7
    try simp only [Act.put, ep, eh, ei]
    refine wpG_call (o := ⟨some 51, .call { callee := .builtin .append, args := #[.tmp 33, .tmp 50], argTypes := #[67, 67] }, 67, "bundle.go:24", #[⟨0, .data⟩, ⟨17, .data⟩], none⟩) rfl (by rfl) (fun K hK => ?_)
    refine Sl.opAppAt pty (.tmp 33) (.tmp 50) rfl (n := j) (m := 1) (N := j + 1) (ws := vs ++ [.int .i64 (fa : Int), .slice (some ⟨wr.heap.size + 1, 0, none⟩) 1 1]) rfl rfl (Hown7.out.drewN 1) (Hlit.out.drewN 1) (by simp [Value.oneCell']) rfl rfl (by omega) (by omega) hz7b ?_
    intro A8 c8 w8 hown8 hg8
    refine hK.out _ _ (hg8.belowC (Hown7.out.drewN 1) hz7b) ?_
    clear hK K
    try simp only [Act.put, ep, eh, ei]
    refine wpG_read (o := ⟨some 8, .assign (.tmp 51), 67, "bundle.go:24", #[⟨18, .data⟩, ⟨18, .chain⟩, ⟨0, .phase⟩, ⟨1, .phase⟩, ⟨2, .phase⟩, ⟨3, .phase⟩, ⟨4, .phase⟩, ⟨5, .phase⟩, ⟨6, .phase⟩, ⟨7, .phase⟩, ⟨8, .phase⟩, ⟨9, .phase⟩, ⟨10, .phase⟩, ⟨11, .phase⟩, ⟨12, .phase⟩, ⟨13, .phase⟩, ⟨14, .phase⟩, ⟨15, .phase⟩, ⟨16, .phase⟩, ⟨17, .phase⟩, ⟨18, .phase⟩], none⟩) (v := .slice A8 (j + 1) c8) rfl (by rfl) ?_ ?_
    ·intro w' _; go_simp
    try simp only [Act.put, ep, eh, ei]
    refine wpG_done ?_
    have bw8 := (below_drewN (hbel.trans (b7.mono z5)) 1).trans ((hg8.belowC (Hown7.out.drewN 1) hz7b))
    have hps8 := (Hps7.out.keep (w' := W7.drewN 1) (S' := Sf w4.heap.size (W7.drewN 1) A5) ⟨fun _ h => h, fun _ _ => rfl⟩).keep (sf_grow hg8)
    rw [← Hpn.out] at hps8
    have Hown8 := ek hown8; have Hps8 := ek hps8
    clear hown8 hps8 hg8 b7 e0 e1 e0d e1d c0d c0 c1
    go_wp2
    go_roundw
    case rel => exact ⟨A8, c8, _, j + 1, rfl, by go_num, by omega, Hown8.out, Hps8.out, bw8⟩
    case measure => simp [intOf]; omega
   ·have hjv : j = vn := by omega
    subst hjv
    rw [List.take_of_length_le (by rw [Hvn.out]; exact Nat.le_refl _)] at hps
    have hVD : V.length ≤ D.length := by rw [Hvn.out, Hk.out]; exact hvk
    have hPl : (Bm.pcs D V).length = j := by rw [Bm.pcs_len D V hVD, Hvn.out]
    have hfin : PLS wr (Fr w.heap.size wr) A5 j c5 (Bm.pcs D V) := ⟨vs, (hown.mono bw4.size).rcS, hps.keep (stays_weak fun b hb => ⟨Nat.le_trans bw4.size hb.1, hb.2.1⟩)⟩
    have Hfin := ek hfin; have HPl := ek hPl
    have hcl : (Bm.cts l D).length = j := by rw [← HV.out]; exact Hvn.out
    by_cases hjk : j < k
    ·obtain ⟨fb, fo, f, rfl, hfb, hfx, e0, e1, e2, e3⟩ := (HF4.out.below hbel).at_ hjk
     have hres := Bm.scS_miss HI.out (f := f) (by rw [hcl]; exact hfx)
     rw [← HV.out] at hres
     obtain ⟨fs, hfs⟩ : ∃ a, a = f.st := ⟨_, rfl⟩
     rw [← hfs] at e3 hres
     have Hres := ek hres
     clear hres hfin hPl hown hps hcl hfs hfx e0 e1 e2 hVD
     go_wp2_with fail
     go_quiet (fail)
     go_wp2
     go_ret3
     rw [Hres.out]
     refine ⟨A5, c5, ?_, ?_, below_drewN bwr _⟩
     ·rw [← HPl.out]; rfl
     ·dsimp only
      rw [HPl.out]
      exact Hfin.out
    ·have hjk2 : k = j := by omega
     subst hjk2
     by_cases hen2 : en < n
     ·have hres := Bm.scS_left HI.out (by rw [hcl, Hk.out]; exact Nat.le_refl _) (by rw [Hl.out]; exact hen2)
      rw [← HV.out] at hres
      have Hres := ek hres
      have de : decide ((en : Int) < (n : Int)) = true := by simp; omega
      clear hres hfin hPl hown hps hcl hVD
      go_wp2_with fail
      go_quiet (fail)
      go_wp2
      go_ret3
      rw [Hres.out]
      refine ⟨A5, c5, ?_, ?_, below_drewN bwr _⟩
      ·rw [← HPl.out]; rfl
      ·dsimp only
       rw [HPl.out]
       exact Hfin.out
     ·have hres := Bm.scS_good HI.out (by rw [hcl, Hk.out]; exact Nat.le_refl _) (by rw [Hl.out]; exact hen2)
      rw [← HV.out] at hres
      have Hres := ek hres
      have de : decide ((en : Int) < (n : Int)) = false := by simp; omega
      clear hres hfin hPl hown hps hcl hVD
      go_wp2_with fail
      go_quiet (fail)
      go_wp2
      go_ret3
      rw [Hres.out]
      refine ⟨A5, c5, ?_, ?_, below_drewN bwr _⟩
      ·rw [← HPl.out]; rfl
      ·dsimp only
       rw [HPl.out]
       exact Hfin.out
theorem _root_.Go.Proofs.YtkekmokdlgocaaaGreatDoor.Sl.sz {P : Program} {t e : TypeId} {zv : Value} {z y : Nat} (u : Sl P t e zv z y) (W : World) : (sizeOf (P.elem t)).run P W = .ok z W := by
 obtain ⟨i, hi, hz0, hz1, hz2⟩ := info_parts u.inf
 have he : P.elem t = e := by simp [Program.elem, u.sl]
 simp [sizeOf, typeInfo, he, hi, hz1]
theorem _root_.Go.Proofs.YtkekmokdlgocaaaGreatDoor.Sl.sl' {P : Program} {t e : TypeId} {zv : Value} {z y : Nat} (u : Sl P t e zv z y) : P.underlying t = some (.slice (P.elem t)) := by
 have he : P.elem t = e := by simp [Program.elem, u.sl]
 rw [he]; exact u.sl
def mrow (v : Value) (m : Nat) : Array Value := (List.replicate m v).toArray
theorem make1 {t e : TypeId} {zv : Value} {y : Nat} (u : Sl Tryz.prog t e zv 1 y) (hz : zv.cells = #[zv]) (hy : y ≤ 100) (w : World) (m : Nat) (hm : m ≤ 1000000) :
  (Instr.makeSlice t (.int .i64 (m : Int)) (.int .i64 (m : Int))).run Tryz.prog w = .ok (.slice (some ⟨w.heap.size, 0, none⟩) m m) (w.alloc (.cells (mrow zv m) e)) := by
 obtain ⟨i, hi, hz0, hz1, hz2⟩ := info_parts u.inf
 have hmy : y * m ≤ 100 * 1000000 := Nat.mul_le_mul hy hm
 have h := run_make (P := Tryz.prog) w t e i zv u.sl hi hz0 .i64 .i64 (m : Int) (m : Int) (by omega) (by omega) (by rw [hz2]; omega) (by omega)
 simp only [Int.toNat_natCast, hz1, Nat.mul_one] at h
 rw [h]
 have e1 : madeCells zv.cells m = mrow zv m := by
  apply Array.toList_inj.1
  rw [hz, toList_madeCells_one]
  simp [mrow]
 rw [e1]
theorem row_old (L : List Value) (j k : Nat) (v : Value) (hl : L.length = j) (hj : j < k) : (L ++ List.replicate (k - j) v)[j]? = some v := by
 rw [List.getElem?_append_right (by omega), hl, Nat.sub_self, show k - j = (k - (j + 1)) + 1 by omega, List.replicate_succ]
 rfl
structure Box5 (w : World) (g : Nat) (v0 v1 v2 v3 v4 : Value) : Prop where
 c0 : w.cell? ⟨g, 0, none⟩ = some v0
 c1 : w.cell? ⟨g, 1, none⟩ = some v1
 c2 : w.cell? ⟨g, 2, none⟩ = some v2
 c3 : w.cell? ⟨g, 3, none⟩ = some v3
 c4 : w.cell? ⟨g, 4, none⟩ = some v4
 f0 : w.frozen? ⟨g, 0, none⟩ = false
 f1 : w.frozen? ⟨g, 1, none⟩ = false
 f2 : w.frozen? ⟨g, 2, none⟩ = false
 f3 : w.frozen? ⟨g, 3, none⟩ = false
 f4 : w.frozen? ⟨g, 4, none⟩ = false
 lt : g < w.heap.size
section
variable {w w' : World} {g k B : Nat} {v0 v1 v2 v3 v4 : Value}
end
end Go.Proofs.YtkekmokdlgocaaaGreatDoor.Bun
