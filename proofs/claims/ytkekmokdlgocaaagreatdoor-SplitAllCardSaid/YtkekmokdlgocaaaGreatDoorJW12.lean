import Derived.Test.YtkekmokdlgocaaaGreatDoorJW10
import Derived.Test.YtkekmokdlgocaaaGreatDoorJW11
import Derived.Test.YtkekmokdlgocaaaGreatDoorJW14
import Derived.Test.YtkekmokdlgocaaaGreatDoorJW33
import Derived.Test.YtkekmokdlgocaaaGreatDoorJW13
set_option maxRecDepth 100000
set_option maxHeartbeats 4000000
namespace Go.Proofs.YtkekmokdlgocaaaGreatDoor.Bun
open Go.RowKit
theorem _root_.Go.Proofs.YtkekmokdlgocaaaGreatDoor.Sl.opAppAt {P : Program} {t e : TypeId} {zv : Value} {z y : Nat} (u : Sl P t e zv z y) {w : World} {o : Oper} {a : Act} {K : Act → World → Prop} {Q : Exit → Act → World → Prop} (p q : Operand)
  (ho : o.op = .call { callee := .builtin .append, args := #[p, q], argTypes := #[t, t] })
  {base n c B m d N : Nat} {A D : Option Addr} {vs us ws : List Value} (hx : a.eval p = .slice A n c) (hy : a.eval q = .slice D m d) (hown : Oc z w e base A n c vs) (hr : Rc z w B D m d us) (h1 : ∀ v ∈ us, v.oneCell' = true)
  (hN : n + m = N) (hvs : vs ++ us = ws) (hsm : N * y ≤ 140737488355328) (hnm : N ≤ 140737488355328) (hbase : base ≤ w.heap.size)
  (h : ∀ A' c' w', Oc z w' e base A' N c' ws → Grows w w' A A' → K (a.put o.dst (.slice A' N c')) w') : o.wp P a w K Q := by
 subst hN hvs
 obtain ⟨A', c', w', hrun, h2, h3⟩ := u.appendAt o.type hown hr h1 hsm hnm hbase
 unfold Oper.wp execOp
 simp only [ho, resolve, invoke, builtin, Sem.run_bind, Sem.run_pure, Result.andThen_ok, List.map_toArray, List.map_cons, List.map_nil, hx, hy, hrun]
 exact h A' c' w' h2 h3
theorem oc_lt {z : Nat} {w : World} {e : TypeId} {base n c : Nat} {A : Option Addr} {vs : List Value} (h : Oc z w e base A n c vs) : ∀ g, ob A = some g → g < w.heap.size := fun g hg => (oc_ob h g hg).2
theorem rec_sf {w' : World} {base g : Nat} {e : TypeId} {A D : Option Addr} {n c : Nat} {r : List (List UInt8)} (hD : Oc 1 w' e g D n c (lvs r)) (hg : base ≤ g) (hA : ∀ k, ob A = some k → k < g) : RrS w' (Sf base w' A) (.slice D n c) r :=
 ⟨D, n, c, rfl, hD.rcS.keep (stays_weak fun b hb => ⟨Nat.le_trans hg hb.1, hb.2, fun e => by have := hA b e.symm; have := hb.1; omega⟩)⟩
theorem piece_two (w : World) (s x : List UInt8) (a : Nat) (A : Option Addr) (base : Nat) (te tr tp : TypeId) (hb : base ≤ w.heap.size) (hA : ∀ g, ob A = some g → g < w.heap.size) (w5 w6 w7 : World)
  (h5 : w5 = w.alloc (.cells #[.string ⟨s.toArray⟩, .string ⟨x.toArray⟩] te)) (h6 : w6 = w5.alloc (.cells #[.slice (some ⟨w.heap.size, 0,none⟩) 2 2] tr)) (h7 : w7 = w6.alloc (.cells #[.int .i64 (a : Int), .slice (some ⟨w.heap.size + 1, 0,none⟩) 1 1] tp)) :
  w7.heap.size = w.heap.size + 3 ∧ Below w.heap.size w w7 ∧ Rc 2 w7 w7.heap.size (some ⟨w.heap.size + 2, 0,none⟩) 1 1 [.int .i64 (a : Int), .slice (some ⟨w.heap.size + 1, 0,none⟩) 1 1] ∧
  PrS w7 (Sf base w7 A) (.int .i64 (a : Int)) (.slice (some ⟨w.heap.size + 1, 0,none⟩) 1 1) (a, [[s, x]]) := by
 have z5 : w5.heap.size = w.heap.size + 1 := by rw [h5]; simp
 have b5 : Below w.heap.size w w5 := by rw [h5]; exact ej _ _
 have o5 : Oc 1 w5 te w.heap.size (some ⟨w.heap.size, 0,none⟩) 2 2 (lvs [s, x]) := by rw [h5]; exact Oc.lit (z := 1) w te #[.string ⟨s.toArray⟩, .string ⟨x.toArray⟩] 2 rfl (by simp [maxLen])
 have r5 : RrS w5 (Sf base w5 A) (.slice (some ⟨w.heap.size, 0,none⟩) 2 2) [s, x] := rec_sf o5 hb hA
 have z6 : w6.heap.size = w.heap.size + 2 := by rw [h6]; simp [z5]
 have z7 : w7.heap.size = w.heap.size + 3 := by rw [h7]; simp [z6]
 have b67 : Below w5.heap.size w5 w7 := by
  rw [h7, h6]
  exact (ej _ _).alloc (by simp) _
 have g6 : w6.cell? ⟨w.heap.size + 1, 0,none⟩ = some (.slice (some ⟨w.heap.size, 0,none⟩) 2 2) := by rw [h6, ← z5]; simp
 have g7 : w7.cell? ⟨w.heap.size + 1, 0,none⟩ = some (.slice (some ⟨w.heap.size, 0,none⟩) 2 2) := by rw [h7, World.cell?_alloc_lt _ _ _ (by simp [z6])]; exact g6
 have hne : some (w.heap.size + 1) ≠ ob A := fun e => by have := hA _ e.symm; omega
 refine ⟨z7, b5.trans (b67.mono (by omega)), ?_, rfl, _, _, _, rfl, [.slice (some ⟨w.heap.size, 0,none⟩) 2 2], ⟨rfl, Nat.le_refl _, by simp [maxLen], fun _ => ⟨_, _, rfl, ⟨by omega, by omega, hne⟩, fun j v hj => ?_⟩⟩, rfl, fun j v r hj hr => ?_⟩
 ·have h := Rc.lit (z := 2) w6 tp #[.int .i64 (a : Int), .slice (some ⟨w.heap.size + 1, 0,none⟩) 1 1] 1 rfl (by simp [maxLen])
  rw [← h7, z6] at h
  exact h.more (by omega)
 ·cases j with
  | zero => simp at hj; subst hj; exact g7
  | succ j => simp at hj
 ·cases j with
  | zero =>
   simp at hj hr
   subst hj hr
   exact r5.keep (sf_below b67)
  | succ j => simp at hj
theorem pcs_next (D : List Bm.F) (V : List (List UInt8)) (i : Nat) (f : Bm.F) (x : List UInt8) (h1 : D[i]? = some f) (h2 : V[i]? = some x) : Bm.pcs D (V.take (i + 1)) = Bm.pcs D (V.take i) ++ [(f.at_, [[f.nm, x]])] := by
 unfold Bm.pcs
 induction D generalizing V i with
 | nil => simp at h1
 | cons g D ih =>
  cases V with
  | nil => simp at h2
  | cons y V =>
   cases i with
   | zero => simp at h1 h2; subst h1 h2; simp
   | succ i =>
    have := ih V i (by simpa using h1) (by simpa using h2)
    simp only [List.take_succ_cons, List.zipWith_cons_cons, List.cons_append]
    rw [← this]
def RetSc (w : World) (t : List (Nat × List (List (List UInt8))) × Nat × Nat) (e : Ending) (w' : World) : Prop :=
 ∃ A c, e = .returned (.tuple #[.slice A t.1.length c, .int .i64 (t.2.1 : Int), .int .i64 (t.2.2 : Int)]) ∧ PLS w' (Fr w.heap.size w') A t.1.length c t.1 ∧ Below w.heap.size w w'
def ScRel (base vn : Nat) (w : World) (D : List Bm.F) (V : List (List UInt8)) (o i : Value) (wr : World) : Prop :=
 ∃ A c vs, ∃ j : Nat, o = .slice A j c ∧ i = .int .i64 (j : Int) ∧ j ≤ vn ∧ Oc 2 wr 81 base A j c vs ∧ PsS wr (Sf base wr A) vs (Bm.pcs D (V.take j)) ∧ Below base w wr
theorem dir_files {l : List UInt8} {D : List Bm.F} {e n : Nat} (h : Bm.dir l = some (D, e)) (hl : l.length = n) (hn : n ≤ 90000) : D.length ≤ 1000 ∧ e ≤ 2000000 ∧ ∀ f ∈ D, f.st ≤ 2000000 ∧ f.sz ≤ 1000 ∧ f.at_ ≤ 2000000 ∧ f.nm.length ≤ 100 := by
 obtain ⟨x, _, _, _, hp, hD, hm, hle, he⟩ := Bm.dir_inv h
 refine ⟨hD, by omega, fun f hf => ?_⟩
 have h1 := hm f hf
 have h2 := (Bm.plc_le D _ _ hp).2 f hf
 omega
theorem scan_c (A : Option Addr) (n c : Nat) (l : List UInt8) (w : World) (hr : Rb w w.heap.size A n c l) (hn : n ≤ 90000) :
  Calls Tryz.prog 83 #[.slice A n c] w (RetSc w (Bm.scS l)) := by
 have hl := hr.len
 have hdi := fun (T : Option Addr) (W : World) (hT : Rn W W.heap.size T 256 256 Cm.tab) (hW : Rb W W.heap.size A n c l) => directoryOf_c T A n c 256 l W hT hW hn
 have Hr := ek hr; have Hl := ek hl; have Hdi := ek hdi
 clear hr hl hdi
 rcases hI : Bm.dir l with _ | ⟨D, en⟩
 ·have hres := Bm.scS_none hI
  have HI := ek hI; have Hres := ek hres
  clear hI hres
  go_enter Tryz.func83, Tryz.ntmps83
  go_wp2_with fail
  refine (table_c w).mono ?_
  rintro e w1 ⟨rfl, hT, hb1, hz1⟩
  have hr1 := (Hr.out.below hb1).more hb1.size
  have HT := ek hT; have Hr1 := ek hr1
  clear hT hr1
  go_wp2_with fail
  refine (Hdi.out _ _ HT.out Hr1.out).mono ?_
  rw [HI.out]
  rintro e w2 ⟨hb2, rfl⟩
  unfold dv
  go_wp2
  go_ret3
  rw [Hres.out]
  exact ⟨none, 0, rfl, PLS.nil, (hb1.trans (hb2.mono hb1.size)).trans ((Below.refl _ _).alloc (Nat.le_trans hb1.size hb2.size) _)⟩
 ·obtain ⟨hD, hen, hm⟩ := dir_files hI Hl.out hn
  obtain ⟨V, hV⟩ : ∃ V, V = Bm.cts l D := ⟨_, rfl⟩
  obtain ⟨k, hk⟩ : ∃ k, D.length = k := ⟨_, rfl⟩
  obtain ⟨vn, hvn⟩ : ∃ vn, V.length = vn := ⟨_, rfl⟩
  have hvk : vn ≤ k := by rw [← hvn, ← hk, hV]; exact Bm.cts_len l D
  rw [hk] at hD
  have HI := ek hI; have Hm := ek hm; have HV := ek hV; have Hk := ek hk; have Hvn := ek hvn
  clear hI hm hV hk hvn
  go_enter Tryz.func83, Tryz.ntmps83
  go_wp2_with fail
  refine (table_c w).mono ?_
  rintro e w1 ⟨rfl, hT, hb1, hz1⟩
  have hr1 := (Hr.out.below hb1).more hb1.size
  have HT := ek hT; have Hr1 := ek hr1
  clear hT hr1
  go_wp2_with fail
  refine (Hdi.out _ _ HT.out Hr1.out).mono ?_
  rw [HI.out]
  rintro e w2 ⟨hb2, F, d, rfl, hF⟩
  have z1 := hb1.size
  have z2 := hb2.size
  unfold dv
  rw [Hk.out] at hF ⊢
  obtain ⟨g6, hg6⟩ : ∃ g6, g6 = w2.heap.size := ⟨_, rfl⟩
  obtain ⟨w3, hw3⟩ : ∃ w3, w3 = w2.alloc (.cells #[.slice F k d, .int .i64 (en : Int)] 156) := ⟨_, rfl⟩
  have b3 : Below w2.heap.size w2 w3 := by rw [hw3]; exact ej _ _
  have x3 : Box2 w3 g6 (.slice F k d) (.int .i64 (en : Int)) := by rw [hw3, hg6]; exact Box2.made _ _ _ _
  have bw3 := (hb1.trans (hb2.mono z1)).trans (b3.mono (by omega))
  have z3 := b3.size
  have hF3 : Rf w3 w3.heap.size F k d D := (Rf.below hF.rf b3).more z3
  have hr3 := (Hr.out.below bw3).more bw3.size
  have hT3 := (HT.out.below (hb2.trans (b3.mono z2))).more (B' := w3.heap.size) (by omega)
  have hco := contents_c _ A F n c 256 k d l D w3 hT3 hr3 hF3 hD (fun f hf => ⟨(Hm.out f hf).1, (Hm.out f hf).2.1, (Hm.out f hf).2.2.1⟩)
  rw [← HV.out] at hco
  have W3 := ek hw3; have HF3 := ek hF3; have Hco := ek hco; have X3 := ek x3; have Hg6 := ek hg6
  obtain ⟨c0, c1, -, -, hlt6⟩ := x3
  clear hw3 hF3 hF hco hT3 hr3 hg6 b3
  go_wp2_with (rw [← W3.out, ← Hg6.out])
  refine Hco.out.mono ?_
  rintro e w4 ⟨G, gd, rfl, hG, hb4⟩
  rw [Hvn.out] at hG ⊢
  have x4 := X3.out.below hb4 hlt6
  have hF4 := (HF3.out.below hb4).more hb4.size
  have z4 := hb4.size
  have bw4 := bw3.trans (hb4.mono (by omega))
  have hG4 := (hG.keep (stays_weak fr_lt)).rc
  have HG4 := ek hG4; have HF4 := ek hF4; have X4 := ek x4
  clear hG hG4 hF4 x4 c0 c1
  go_wp2
  go_loopw [8, 28] (fun o i wr => ScRel w4.heap.size vn w4 D V o i wr) (fun _ i _ => vn - (intOf i).toNat)
  case atStart => exact ⟨none, 0, [], 0, rfl, rfl, Nat.zero_le _, Oc.nil _ _ _ _, by rw [List.take_zero]; unfold Bm.pcs; rw [List.zipWith_nil_right]; exact PsS.nil, Below.refl _ _⟩
  case round =>
   obtain ⟨A5, c5, vs, j, rfl, rfl, hj, hown, hps, hbel⟩ := hrel
   have z5 := hbel.size
   obtain ⟨c0, c1, -, -, -⟩ := X4.out.below hbel (by omega)
   have bwr := bw4.trans (hbel.mono (by have := bw4.size; omega))
   by_cases hlt : j < vn
   ·obtain ⟨vb, vo, x, rfl, hvb, hvc, hvx, -⟩ := lvs_at (HG4.out.below hbel) hlt
    obtain ⟨fb, fo, f, rfl, hfb, hfx, e0, e1, e2, e3⟩ := (HF4.out.below hbel).at_ (show j < k by omega)
    have hm3 := (Hm.out f (List.mem_of_getElem? hfx)).2.2.1
    have hpn := pcs_next D V j f x hfx hvx
    obtain ⟨fa, hfa⟩ : ∃ a, a = f.at_ := ⟨_, rfl⟩
    obtain ⟨fn, hfn⟩ : ∃ a, a = f.nm := ⟨_, rfl⟩
    rw [← hfa] at e0 hm3; rw [← hfn] at e1; rw [← hfa, ← hfn] at hpn
    obtain ⟨W5, h5⟩ : ∃ W5, W5 = wr.alloc (.cells #[.string ⟨fn.toArray⟩, .string ⟨x.toArray⟩] 9) := ⟨_, rfl⟩
    obtain ⟨W6, h6⟩ : ∃ W6, W6 = W5.alloc (.cells #[.slice (some ⟨wr.heap.size, 0,none⟩) 2 2] 77) := ⟨_, rfl⟩
    obtain ⟨W7, h7⟩ : ∃ W7, W7 = W6.alloc (.cells #[.int .i64 (fa : Int), .slice (some ⟨wr.heap.size + 1, 0,none⟩) 1 1] 81) := ⟨_, rfl⟩
    obtain ⟨z7, b7, hlit, hpr⟩ := piece_two wr fn x fa A5 w4.heap.size _ _ _ z5 (oc_lt hown) W5 W6 W7 h5 h6 h7
    have own7 := hown.keep b7
    have ps7 := (hps.keep (sf_below b7)).snoc hpr
    have Hown7 := ek own7; have Hps7 := ek ps7; have Hlit := ek hlit; have Hpn := ek hpn; have H5 := ek h5; have H6 := ek h6; have H7 := ek h7
    clear hown hps own7 ps7 hlit hpr hpn h5 h6 h7 hfa hfn e2 e3
    have hjk : j < k := by omega
    have hfb2 : fb < w4.heap.size := hfb
    have hg62 : g6 < w4.heap.size := by omega
    have c0d : wr.drew.cell? ⟨g6, 0,none⟩ = some (.slice (some ⟨fb, fo,none⟩) k d) := c0
    have e0d : wr.drew.cell? ⟨fb, fo + j * 4,none⟩ = some (.int .i64 (fa : Int)) := e0
    have e1d : wr.drew.cell? ⟨fb, fo + j * 4 + 1,none⟩ = some (.string ⟨fn.toArray⟩) := e1
    have hz5' : W5.heap.size = wr.heap.size + 1 := by rw [H5.out]; simp
    have hz6 : W6.heap.size = wr.heap.size + 2 := by rw [H6.out]; simp [hz5']
    have hb5 : Below w4.heap.size wr.drew (W5.drewN 1) := by
     have : Below w4.heap.size wr W5 := by rw [H5.out]; exact (Below.refl _ _).alloc z5 _
     exact ⟨this.os, this.tape, this.output, this.size, this.block⟩
    have hb6 : Below w4.heap.size (W5.drewN 1) (W6.drewN 1) := by
     have : Below w4.heap.size W5 W6 := by rw [H6.out]; exact (Below.refl _ _).alloc (by omega) _
     exact ⟨this.os, this.tape, this.output, this.size, this.block⟩
    have hb7 : Below w4.heap.size (W6.drewN 1) (W7.drewN 1) := by
     have : Below w4.heap.size W6 W7 := by rw [H7.out]; exact (Below.refl _ _).alloc (by omega) _
     exact ⟨this.os, this.tape, this.output, this.size, this.block⟩
    have hz7b : w4.heap.size ≤ (W7.drewN 1).heap.size := by show _ ≤ W7.heap.size; omega
    go_upto_region 10 with fail
    refine wp_region_schedG (w4.heap.size) [(false, 0), (false, 1), (false, 2), (false, 3), (false, 4), (false, 5), (false, 6), (false, 7), (false, 8), (false, 9), (false, 10), (false, 11), (false, 12), (false, 13), (true, 14), (true, 15), (false, 16), (true, 17), (true, 18), (false, 19)] (by kernel_rfl) (by kernel_rfl) (by kernel_rfl) (by kernel_rfl) (fun _ _ d _ _ h => by cases d <;> exact h) ?_
    refine wpG_read (o := ⟨some 33, .move (.tmp 8), 67, "bundle.go:24", #[],none⟩) (v := .slice A5 j c5) rfl (by rfl) ?_ ?_
    ·intro w' _; go_simp
    try simp only [Act.put, ep, eh, ei]
    refine wpG_read (o := ⟨some 34, .fieldAddr 156 (.tmp 6) 0, 0, "bundle.go:24", #[],none⟩) (v := .pointer (some ⟨g6, 0,none⟩)) rfl (by rfl) ?_ ?_
    ·intro w' _; go_simp
    try simp only [Act.put, ep, eh, ei]
    refine wpG_read (o := ⟨some 35, .load 154 (.tmp 34), 154, "bundle.go:24", #[⟨1, .data⟩],none⟩) (v := .slice (some ⟨fb, fo,none⟩) k d) rfl (by rfl) ?_ ?_
    ·intro w' hw'; have hcl := (hw'.cell (p := ⟨g6, 0,none⟩) hg62).trans c0d; go_simp
    try simp only [Act.put, ep, eh, ei]
    refine wpG_read (o := ⟨some 36, .move (.tmp 10), 3, "bundle.go:24", #[],none⟩) (v := .int .i64 ((j : Int))) rfl (by rfl) ?_ ?_
    ·intro w' _; go_simp
    try simp only [Act.put, ep, eh, ei]
    refine wpG_read (o := ⟨some 37, .indexAddr 154 (.tmp 35) (.tmp 36), 0, "bundle.go:24", #[⟨2, .data⟩,⟨3, .data⟩],none⟩) (v := .pointer (some ⟨fb, fo + j * 4,none⟩)) rfl (by rfl) ?_ ?_
    ·intro w' _; go_simp
    try simp only [Act.put, ep, eh, ei]
    refine wpG_read (o := ⟨some 38, .fieldAddr 161 (.tmp 37) 0, 0, "bundle.go:24", #[⟨4, .data⟩],none⟩) (v := .pointer (some ⟨fb, fo + j * 4,none⟩)) rfl (by rfl) ?_ ?_
    ·intro w' _; go_simp
    try simp only [Act.put, ep, eh, ei]
    refine wpG_read (o := ⟨some 39, .load 3 (.tmp 38), 3, "bundle.go:24", #[⟨5, .data⟩],none⟩) (v := .int .i64 ((fa : Int))) rfl (by rfl) ?_ ?_
    ·intro w' hw'; have hcl := (hw'.cell (p := ⟨fb, fo + j * 4,none⟩) hfb2).trans e0d; go_simp
    try simp only [Act.put, ep, eh, ei]
    refine wpG_read (o := ⟨some 40, .fieldAddr 156 (.tmp 6) 0, 0, "bundle.go:24", #[],none⟩) (v := .pointer (some ⟨g6, 0,none⟩)) rfl (by rfl) ?_ ?_
    ·intro w' _; go_simp
    try simp only [Act.put, ep, eh, ei]
    refine wpG_read (o := ⟨some 41, .load 154 (.tmp 40), 154, "bundle.go:24", #[⟨7, .data⟩],none⟩) (v := .slice (some ⟨fb, fo,none⟩) k d) rfl (by rfl) ?_ ?_
    ·intro w' hw'; have hcl := (hw'.cell (p := ⟨g6, 0,none⟩) hg62).trans c0d; go_simp
    try simp only [Act.put, ep, eh, ei]
    refine wpG_read (o := ⟨some 42, .move (.tmp 10), 3, "bundle.go:24", #[],none⟩) (v := .int .i64 ((j : Int))) rfl (by rfl) ?_ ?_
    ·intro w' _; go_simp
    try simp only [Act.put, ep, eh, ei]
    refine wpG_read (o := ⟨some 43, .indexAddr 154 (.tmp 41) (.tmp 42), 0, "bundle.go:24", #[⟨8, .data⟩,⟨9, .data⟩],none⟩) (v := .pointer (some ⟨fb, fo + j * 4,none⟩)) rfl (by rfl) ?_ ?_
    ·intro w' _; go_simp
    try simp only [Act.put, ep, eh, ei]
    refine wpG_read (o := ⟨some 44, .fieldAddr 161 (.tmp 43) 1, 0, "bundle.go:24", #[⟨10, .data⟩],none⟩) (v := .pointer (some ⟨fb, fo + j * 4 + 1,none⟩)) rfl (by rfl) ?_ ?_
    ·intro w' _; go_simp
    try simp only [Act.put, ep, eh, ei]
    refine wpG_read (o := ⟨some 45, .load 9 (.tmp 44), 9, "bundle.go:24", #[⟨11, .data⟩],none⟩) (v := .string ⟨fn.toArray⟩) rfl (by rfl) ?_ ?_
    ·intro w' hw'; have hcl := (hw'.cell (p := ⟨fb, fo + j * 4 + 1,none⟩) hfb2).trans e1d; go_simp
    try simp only [Act.put, ep, eh, ei]
    refine wpG_read (o := ⟨some 46, .move (.tmp 11), 9, "bundle.go:24", #[],none⟩) (v := .string ⟨x.toArray⟩) rfl (by rfl) ?_ ?_
    ·intro w' _; go_simp
    try simp only [Act.put, ep, eh, ei]
    refine wpG_make (o := ⟨some 47, .buildSlice 77 2 #[(0, .tmp 45), (1, .tmp 46)], 77, "bundle.go:24", #[⟨12, .data⟩,⟨13, .data⟩],none⟩) (v := .slice (some ⟨wr.heap.size, 0,none⟩) 2 2) (w1 := W5.drewN 1) rfl (by rfl) ?_ ?_ ?_
    ·rw [H5.out]; go_simp; rfl
    ·exact hb5
    try simp only [Act.put, ep, eh, ei]
    refine wpG_make (o := ⟨some 48, .buildSlice 30 1 #[(0, .tmp 47)], 30, "bundle.go:24", #[⟨14, .data⟩],none⟩) (v := .slice (some ⟨wr.heap.size + 1, 0,none⟩) 1 1) (w1 := W6.drewN 1) rfl (by rfl) ?_ ?_ ?_
    ·rw [H6.out]; go_simp; rfl
    ·exact hb6
    try simp only [Act.put, ep, eh, ei]
    refine wpG_read (o := ⟨some 49, .build 81 #[(0, .tmp 39), (1, .tmp 48)], 81, "bundle.go:24", #[⟨6, .data⟩,⟨15, .data⟩],none⟩) (v := .agg #[.int .i64 (fa : Int), .slice (some ⟨wr.heap.size + 1, 0,none⟩) 1 1]) rfl (by rfl) ?_ ?_
    ·intro w' _; go_simp
    try simp only [Act.put, ep, eh, ei]
    refine wpG_make (o := ⟨some 50, .buildSlice 67 1 #[(0, .tmp 49)], 67, "bundle.go:24", #[⟨16, .data⟩],none⟩) (v := .slice (some ⟨wr.heap.size + 2, 0,none⟩) 1 1) (w1 := W7.drewN 1) rfl (by rfl) ?_ ?_ ?_
    ·rw [H7.out]; go_simp; rfl
    ·exact hb7
    try simp only [Act.put, ep, eh, ei]
    refine wpG_call (o := ⟨some 51, .call { callee := .builtin .append, args := #[.tmp 33, .tmp 50], argTypes := #[67, 67] }, 67, "bundle.go:24", #[⟨0, .data⟩,⟨17, .data⟩],none⟩) rfl (by rfl) (fun K hK => ?_)
    refine Sl.opAppAt pty (.tmp 33) (.tmp 50) rfl (n := j) (m := 1) (N := j + 1) (ws := vs ++ [.int .i64 (fa : Int), .slice (some ⟨wr.heap.size + 1, 0,none⟩) 1 1]) rfl rfl (Hown7.out.drewN 1) (Hlit.out.drewN 1) (by simp [Value.oneCell']) rfl rfl (by omega) (by omega) hz7b ?_
    intro A8 c8 w8 hown8 hg8
    refine hK.out _ _ (hg8.belowC (Hown7.out.drewN 1) hz7b) ?_
    clear hK K
    try simp only [Act.put, ep, eh, ei]
    refine wpG_read (o := ⟨some 8, .assign (.tmp 51), 67, "bundle.go:24", #[⟨18, .data⟩,⟨18, .chain⟩,⟨0, .phase⟩,⟨1, .phase⟩,⟨2, .phase⟩,⟨3, .phase⟩,⟨4, .phase⟩,⟨5, .phase⟩,⟨6, .phase⟩,⟨7, .phase⟩,⟨8, .phase⟩,⟨9, .phase⟩,⟨10, .phase⟩,⟨11, .phase⟩,⟨12, .phase⟩,⟨13, .phase⟩,⟨14, .phase⟩,⟨15, .phase⟩,⟨16, .phase⟩,⟨17, .phase⟩,⟨18, .phase⟩],none⟩) (v := .slice A8 (j + 1) c8) rfl (by rfl) ?_ ?_
    ·intro w' _; go_simp
    try simp only [Act.put, ep, eh, ei]
    refine wpG_done ?_
    have bw8 := (below_drewN (hbel.trans (b7.mono z5)) 1).trans ((hg8.belowC (Hown7.out.drewN 1) hz7b))
    have hps8 := (Hps7.out.keep (w' := W7.drewN 1) (S' := Sf w4.heap.size (W7.drewN 1) A5) ⟨fun _ h => h, fun _ _ => rfl⟩).keep (sf_grow hg8)
    rw [← Hpn.out] at hps8
    have Hown8 := ek hown8; have Hps8 := ek hps8
    clear hown8 hps8 hg8 b7 e0 e1 e0d e1d c0d c0 c1
    go_wp2
    go_roundw
    case rel => exact ⟨A8, c8, _, j + 1, rfl, by go_num, by omega, Hown8.out, Hps8.out, bw8⟩
    case measure => simp [intOf]; omega
   ·have hjv : j = vn := by omega
    subst hjv
    rw [List.take_of_length_le (by rw [Hvn.out]; exact Nat.le_refl _)] at hps
    have hVD : V.length ≤ D.length := by rw [Hvn.out, Hk.out]; exact hvk
    have hPl : (Bm.pcs D V).length = j := by rw [Bm.pcs_len D V hVD, Hvn.out]
    have hfin : PLS wr (Fr w.heap.size wr) A5 j c5 (Bm.pcs D V) := ⟨vs, (hown.mono bw4.size).rcS, hps.keep (stays_weak fun b hb => ⟨Nat.le_trans bw4.size hb.1, hb.2.1⟩)⟩
    have Hfin := ek hfin; have HPl := ek hPl
    have hcl : (Bm.cts l D).length = j := by rw [← HV.out]; exact Hvn.out
    by_cases hjk : j < k
    ·obtain ⟨fb, fo, f, rfl, hfb, hfx, e0, e1, e2, e3⟩ := (HF4.out.below hbel).at_ hjk
     have hres := Bm.scS_miss HI.out (f := f) (by rw [hcl]; exact hfx)
     rw [← HV.out] at hres
     obtain ⟨fs, hfs⟩ : ∃ a, a = f.st := ⟨_, rfl⟩
     rw [← hfs] at e3 hres
     have Hres := ek hres
     clear hres hfin hPl hown hps hcl hfs hfx e0 e1 e2 hVD
     go_wp2_with fail
     go_quiet (fail)
     go_wp2
     go_ret3
     rw [Hres.out]
     refine ⟨A5, c5, ?_, ?_, below_drewN bwr _⟩
     ·rw [← HPl.out]; rfl
     ·dsimp only
      rw [HPl.out]
      exact Hfin.out
    ·have hjk2 : k = j := by omega
     subst hjk2
     by_cases hen2 : en < n
     ·have hres := Bm.scS_left HI.out (by rw [hcl, Hk.out]; exact Nat.le_refl _) (by rw [Hl.out]; exact hen2)
      rw [← HV.out] at hres
      have Hres := ek hres
      have de : decide ((en : Int) < (n : Int)) = true := by simp; omega
      clear hres hfin hPl hown hps hcl hVD
      go_wp2_with fail
      go_quiet (fail)
      go_wp2
      go_ret3
      rw [Hres.out]
      refine ⟨A5, c5, ?_, ?_, below_drewN bwr _⟩
      ·rw [← HPl.out]; rfl
      ·dsimp only
       rw [HPl.out]
       exact Hfin.out
     ·have hres := Bm.scS_good HI.out (by rw [hcl, Hk.out]; exact Nat.le_refl _) (by rw [Hl.out]; exact hen2)
      rw [← HV.out] at hres
      have Hres := ek hres
      have de : decide ((en : Int) < (n : Int)) = false := by simp; omega
      clear hres hfin hPl hown hps hcl hVD
      go_wp2_with fail
      go_quiet (fail)
      go_wp2
      go_ret3
      rw [Hres.out]
      refine ⟨A5, c5, ?_, ?_, below_drewN bwr _⟩
      ·rw [← HPl.out]; rfl
      ·dsimp only
       rw [HPl.out]
       exact Hfin.out
theorem _root_.Go.Proofs.YtkekmokdlgocaaaGreatDoor.Sl.sz {P : Program} {t e : TypeId} {zv : Value} {z y : Nat} (u : Sl P t e zv z y) (W : World) : (sizeOf (P.elem t)).run P W = .ok z W := by
 obtain ⟨i, hi, hz0, hz1, hz2⟩ := info_parts u.inf
 have he : P.elem t = e := by simp [Program.elem, u.sl]
 simp [sizeOf, typeInfo, he, hi, hz1]
theorem _root_.Go.Proofs.YtkekmokdlgocaaaGreatDoor.Sl.sl' {P : Program} {t e : TypeId} {zv : Value} {z y : Nat} (u : Sl P t e zv z y) : P.underlying t = some (.slice (P.elem t)) := by
 have he : P.elem t = e := by simp [Program.elem, u.sl]
 rw [he]; exact u.sl
theorem ity : Sl Tryz.prog 25 3 (.int .i64 0) 1 8 := ⟨Tryz.underlying25, by kernel_rfl, rfl, by omega⟩
def mrow (v : Value) (m : Nat) : Array Value := (List.replicate m v).toArray
theorem make1 {t e : TypeId} {zv : Value} {y : Nat} (u : Sl Tryz.prog t e zv 1 y) (hz : zv.cells = #[zv]) (hy : y ≤ 100) (w : World) (m : Nat) (hm : m ≤ 1000000) :
  (Instr.makeSlice t (.int .i64 (m : Int)) (.int .i64 (m : Int))).run Tryz.prog w = .ok (.slice (some ⟨w.heap.size, 0,none⟩) m m) (w.alloc (.cells (mrow zv m) e)) := by
 obtain ⟨i, hi, hz0, hz1, hz2⟩ := info_parts u.inf
 have hmy : y * m ≤ 100 * 1000000 := Nat.mul_le_mul hy hm
 have h := run_make (P := Tryz.prog) w t e i zv u.sl hi hz0 .i64 .i64 (m : Int) (m : Int) (by omega) (by omega) (by rw [hz2]; omega) (by omega)
 simp only [Int.toNat_natCast, hz1, Nat.mul_one] at h
 rw [h]
 have e1 : madeCells zv.cells m = mrow zv m := by
  apply Array.toList_inj.1
  rw [hz, toList_madeCells_one]
  simp [mrow]
 rw [e1]
def ns (D : List Bm.F) : List (List UInt8) := D.map (·.nm)
def zvs (D : List Bm.F) : List Value := D.map fun f => .int .i64 (f.sz : Int)
theorem row_old (L : List Value) (j k : Nat) (v : Value) (hl : L.length = j) (hj : j < k) : (L ++ List.replicate (k - j) v)[j]? = some v := by
 rw [List.getElem?_append_right (by omega), hl, Nat.sub_self, show k - j = (k - (j + 1)) + 1 by omega, List.replicate_succ]
 rfl
structure Box5 (w : World) (g : Nat) (v0 v1 v2 v3 v4 : Value) : Prop where
 c0 : w.cell? ⟨g, 0,none⟩ = some v0
 c1 : w.cell? ⟨g, 1,none⟩ = some v1
 c2 : w.cell? ⟨g, 2,none⟩ = some v2
 c3 : w.cell? ⟨g, 3,none⟩ = some v3
 c4 : w.cell? ⟨g, 4,none⟩ = some v4
 f0 : w.frozen? ⟨g, 0,none⟩ = false
 f1 : w.frozen? ⟨g, 1,none⟩ = false
 f2 : w.frozen? ⟨g, 2,none⟩ = false
 f3 : w.frozen? ⟨g, 3,none⟩ = false
 f4 : w.frozen? ⟨g, 4,none⟩ = false
 lt : g < w.heap.size
section
variable {w w' : World} {g k B : Nat} {v0 v1 v2 v3 v4 : Value}
theorem Box5.made (w : World) (T : TypeId) (v0 v1 v2 v3 v4 : Value) : Box5 (w.alloc (.cells #[v0, v1, v2, v3, v4] T)) w.heap.size v0 v1 v2 v3 v4 := ⟨by simp, by simp, by simp, by simp, by simp, by simp, by simp, by simp, by simp, by simp, by simp⟩
theorem Box5.keep (h : Box5 w g v0 v1 v2 v3 v4) (hs : w.heap.size ≤ w'.heap.size) (hg : w'.heap[g]? = w.heap[g]?) : Box5 w' g v0 v1 v2 v3 v4 :=
 ⟨(cell_eq hg 0).trans h.c0, (cell_eq hg 1).trans h.c1, (cell_eq hg 2).trans h.c2, (cell_eq hg 3).trans h.c3, (cell_eq hg 4).trans h.c4, (frozen_eq hg 0).trans h.f0, (frozen_eq hg 1).trans h.f1, (frozen_eq hg 2).trans h.f2, (frozen_eq hg 3).trans h.f3, (frozen_eq hg 4).trans h.f4, Nat.lt_of_lt_of_le h.lt hs⟩
theorem Box5.below (h : Box5 w g v0 v1 v2 v3 v4) (hb : Below B w w') (hg : g < B) : Box5 w' g v0 v1 v2 v3 v4 := h.keep hb.size (hb.block g hg)
theorem Box5.set0 (h : Box5 w g v0 v1 v2 v3 v4) (v : Value) : Box5 (w.setCell ⟨g, 0,none⟩ v) g v v1 v2 v3 v4 := by
 have o : ∀ j, j ≠ 0 → (w.setCell ⟨g, 0,none⟩ v).cell? ⟨g, j,none⟩ = w.cell? ⟨g, j,none⟩ := fun j hj => World.cell?_setCell_other w _ _ _ (by simp)
 have f : ∀ j, (w.setCell ⟨g, 0,none⟩ v).frozen? ⟨g, j,none⟩ = w.frozen? ⟨g, j,none⟩ := fun j => by simp
 exact ⟨World.cell?_setCell_same w _ _ h.c0, (o 1 (by omega)).trans h.c1, (o 2 (by omega)).trans h.c2, (o 3 (by omega)).trans h.c3, (o 4 (by omega)).trans h.c4, (f 0).trans h.f0, (f 1).trans h.f1, (f 2).trans h.f2, (f 3).trans h.f3, (f 4).trans h.f4, by simp; exact h.lt⟩
theorem Box5.set1 (h : Box5 w g v0 v1 v2 v3 v4) (v : Value) : Box5 (w.setCell ⟨g, 1,none⟩ v) g v0 v v2 v3 v4 := by
 have o : ∀ j, j ≠ 1 → (w.setCell ⟨g, 1,none⟩ v).cell? ⟨g, j,none⟩ = w.cell? ⟨g, j,none⟩ := fun j hj => World.cell?_setCell_other w _ _ _ (by simp)
 have f : ∀ j, (w.setCell ⟨g, 1,none⟩ v).frozen? ⟨g, j,none⟩ = w.frozen? ⟨g, j,none⟩ := fun j => by simp
 exact ⟨(o 0 (by omega)).trans h.c0, World.cell?_setCell_same w _ _ h.c1, (o 2 (by omega)).trans h.c2, (o 3 (by omega)).trans h.c3, (o 4 (by omega)).trans h.c4, (f 0).trans h.f0, (f 1).trans h.f1, (f 2).trans h.f2, (f 3).trans h.f3, (f 4).trans h.f4, by simp; exact h.lt⟩
theorem Box5.set2 (h : Box5 w g v0 v1 v2 v3 v4) (v : Value) : Box5 (w.setCell ⟨g, 2,none⟩ v) g v0 v1 v v3 v4 := by
 have o : ∀ j, j ≠ 2 → (w.setCell ⟨g, 2,none⟩ v).cell? ⟨g, j,none⟩ = w.cell? ⟨g, j,none⟩ := fun j hj => World.cell?_setCell_other w _ _ _ (by simp)
 have f : ∀ j, (w.setCell ⟨g, 2,none⟩ v).frozen? ⟨g, j,none⟩ = w.frozen? ⟨g, j,none⟩ := fun j => by simp
 exact ⟨(o 0 (by omega)).trans h.c0, (o 1 (by omega)).trans h.c1, World.cell?_setCell_same w _ _ h.c2, (o 3 (by omega)).trans h.c3, (o 4 (by omega)).trans h.c4, (f 0).trans h.f0, (f 1).trans h.f1, (f 2).trans h.f2, (f 3).trans h.f3, (f 4).trans h.f4, by simp; exact h.lt⟩
theorem Box5.set3 (h : Box5 w g v0 v1 v2 v3 v4) (v : Value) : Box5 (w.setCell ⟨g, 3,none⟩ v) g v0 v1 v2 v v4 := by
 have o : ∀ j, j ≠ 3 → (w.setCell ⟨g, 3,none⟩ v).cell? ⟨g, j,none⟩ = w.cell? ⟨g, j,none⟩ := fun j hj => World.cell?_setCell_other w _ _ _ (by simp)
 have f : ∀ j, (w.setCell ⟨g, 3,none⟩ v).frozen? ⟨g, j,none⟩ = w.frozen? ⟨g, j,none⟩ := fun j => by simp
 exact ⟨(o 0 (by omega)).trans h.c0, (o 1 (by omega)).trans h.c1, (o 2 (by omega)).trans h.c2, World.cell?_setCell_same w _ _ h.c3, (o 4 (by omega)).trans h.c4, (f 0).trans h.f0, (f 1).trans h.f1, (f 2).trans h.f2, (f 3).trans h.f3, (f 4).trans h.f4, by simp; exact h.lt⟩
theorem Box5.set4 (h : Box5 w g v0 v1 v2 v3 v4) (v : Value) : Box5 (w.setCell ⟨g, 4,none⟩ v) g v0 v1 v2 v3 v := by
 have o : ∀ j, j ≠ 4 → (w.setCell ⟨g, 4,none⟩ v).cell? ⟨g, j,none⟩ = w.cell? ⟨g, j,none⟩ := fun j hj => World.cell?_setCell_other w _ _ _ (by simp)
 have f : ∀ j, (w.setCell ⟨g, 4,none⟩ v).frozen? ⟨g, j,none⟩ = w.frozen? ⟨g, j,none⟩ := fun j => by simp
 exact ⟨(o 0 (by omega)).trans h.c0, (o 1 (by omega)).trans h.c1, (o 2 (by omega)).trans h.c2, (o 3 (by omega)).trans h.c3, World.cell?_setCell_same w _ _ h.c4, (f 0).trans h.f0, (f 1).trans h.f1, (f 2).trans h.f2, (f 3).trans h.f3, (f 4).trans h.f4, by simp; exact h.lt⟩
end
def put5 (w : World) (g : Nat) (v0 v1 v2 v3 v4 : Value) : World := ((((w.setCell ⟨g, 0,none⟩ v0).setCell ⟨g, 1,none⟩ v1).setCell ⟨g, 2,none⟩ v2).setCell ⟨g, 3,none⟩ v3).setCell ⟨g, 4,none⟩ v4
theorem put5_below (w : World) (g : Nat) (v0 v1 v2 v3 v4 : Value) : Below g w (put5 w g v0 v1 v2 v3 v4) :=
 (((((Below.refl g w).setCell (Nat.le_refl _) _).setCell (Nat.le_refl _) _).setCell (Nat.le_refl _) _).setCell (Nat.le_refl _) _).setCell (Nat.le_refl _) _
theorem put5_box {w : World} {g : Nat} {a b c d e : Value} (h : Box5 w g a b c d e) (v0 v1 v2 v3 v4 : Value) : Box5 (put5 w g v0 v1 v2 v3 v4) g v0 v1 v2 v3 v4 := ((((h.set0 v0).set1 v1).set2 v2).set3 v3).set4 v4
theorem put5_cell (w : World) (g : Nat) (v0 v1 v2 v3 v4 : Value) (p : Addr) (h : p.block ≠ g) : (put5 w g v0 v1 v2 v3 v4).cell? p = w.cell? p := by
 obtain ⟨b, j, pa⟩ := p
 have hne : ∀ k, (⟨g, k,none⟩ : Addr) ≠ ⟨b, j, pa⟩ := fun k q => h (by injection q with q; exact q.symm)
 unfold put5
 rw [World.cell?_setCell_other _ _ _ _ (hne 4), World.cell?_setCell_other _ _ _ _ (hne 3), World.cell?_setCell_other _ _ _ _ (hne 2), World.cell?_setCell_other _ _ _ _ (hne 1), World.cell?_setCell_other _ _ _ _ (hne 0)]
def avs (D : List Bm.F) : List Value := D.map fun f => .int .i64 (f.at_ : Int)
def RetL (w : World) (t : Option (List Bm.F × Nat)) (e : Ending) (w' : World) : Prop :=
 Below w.heap.size w w' ∧ match t with
 | some (D, en) => ∃ A1 c1 A2 c2 A3 c3, ∃ st : Nat, e = .returned (.agg #[.slice A1 D.length c1, .slice A2 D.length c2, .slice A3 D.length c3, .int .i64 (st : Int), .bool true]) ∧ RcS 1 w' (Fr w.heap.size w') A1 D.length c1 (lvs (ns D)) ∧ RcS 1 w' (Fr w.heap.size w') A2 D.length c2 (zvs D) ∧ RcS 1 w' (Fr w.heap.size w') A3 D.length c3 (avs D) ∧ Bm.plc st D en
 | none => ∃ A1 n1 c1 A2 n2 c2 A3 n3 c3, ∃ st : Nat, e = .returned (.agg #[.slice A1 n1 c1, .slice A2 n2 c2, .slice A3 n3 c3, .int .i64 (st : Int), .bool false])
def Ap (A B : Option Addr) : Prop := ∀ g, ob A = some g → ob B ≠ some g
theorem Ap.symm {A B : Option Addr} (h : Ap A B) : Ap B A := fun g h1 h2 => h g h2 h1
theorem Ap.none_ (B : Option Addr) : Ap none B := fun g h => by cases h
theorem oc_beside {z n c : Nat} {w w' : World} {e : TypeId} {base : Nat} {A A' B : Option Addr} {vs : List Value} (h : Oc z w e base B n c vs) (hg : Grows w w' A A') (ha : Ap A B) : Oc z w' e base B n c vs :=
 h.other fun g hB => hg.heap g (oc_ob h g (by rw [hB]; rfl)).2 (fun q => ha g q.symm (by rw [hB]; rfl))
theorem ap_next {z n c : Nat} {w w' : World} {e : TypeId} {base : Nat} {A A' B : Option Addr} {vs : List Value} (hg : Grows w w' A A') (ha : Ap A B) (h : Oc z w e base B n c vs) : Ap A' B := fun g h1 h2 => by
 rcases hg.2 with q | ⟨g', q, hlt⟩
 ·exact ha g (by rw [← q]; exact h1) h2
 ·rw [q] at h1
  injection h1 with h1
  have := (oc_ob h g h2).2
  omega
theorem nam_frame {l a : List UInt8} {s : Nat} (h : Bm.nam l = some (a, s)) : frameS l 100 = (a, s, 0) := by
 unfold Bm.nam at h
 rcases hn : Bm.num 100 l with _ | ⟨z, t⟩
 ·rw [hn] at h; cases h
 ·rw [hn, Option.bind_some] at h
  obtain ⟨h1, h2⟩ := Bm.num_inv hn
  dsimp only at h
  split at h
  ·rename_i hle
   injection h with h
   injection h with h3 h4
   unfold frameS
   rw [h1]
   simp only [if_true]
   rw [if_neg (by omega), if_neg (by omega), ← h3, ← h4, List.drop_take, Nat.add_sub_cancel_left]
  ·cases h
theorem nam_frame_none {l : List UInt8} (h : Bm.nam l = none) : ∃ x, (x = 2 ∨ x = 3 ∨ x = 5) ∧ frameS l 100 = ([], 0, x) := by
 rcases hT : Vm.tk l with ⟨z, t, x⟩
 have hk := Vm.tk_kinds l
 rw [hT] at hk
 simp only at hk
 by_cases hx : x = 0
 ·subst hx
  by_cases hz : z ≤ 100
  ·have hn := Bm.num_ok hT hz
   unfold Bm.nam at h
   rw [hn, Option.bind_some] at h
   dsimp only at h
   split at h
   ·cases h
   ·refine ⟨2, .inl rfl, ?_⟩
    unfold frameS
    rw [hT]
    simp only [if_true]
    rw [if_neg (by omega), if_pos (by omega)]
  ·refine ⟨5, .inr (.inr rfl), ?_⟩
   unfold frameS
   rw [hT]
   simp only [if_true]
   rw [if_pos (by omega)]
 ·refine ⟨x, by omega, ?_⟩
  unfold frameS
  rw [hT]
  simp only
  rw [if_neg hx]
theorem own_beside {w w' : World} {e : TypeId} {base c : Nat} {A D D' : Option Addr} {l : List UInt8} (h : Own w e base A c l) (hg : Grows w w' D D') (hne : ob A = none ∨ ob A ≠ ob D) : Own w' e base A c l :=
 Oc.other (z := 1) h fun g hA => hg.heap g (own_ob h g (by rw [hA]; rfl)).2 (by
  rcases hne with h1 | h1
  ·rw [hA] at h1; cases h1
  ·intro q; exact h1 (by rw [hA]; exact q))
theorem nx_own {w : World} {e : TypeId} {base c B : Nat} {A D : Option Addr} {l : List UInt8} (h : Own w e base A c l) (hD : ∀ g, ob D = some g → g < B) (hB : B ≤ base) : ob A = none ∨ ob A ≠ ob D := by
 cases hA : ob A with
 | none => exact .inl rfl
 | some g =>
  right
  intro q
  have h1 := (own_ob h g hA).1
  have h2 := hD g q.symm
  omega
theorem below_set {B g j : Nat} (w : World) (h : B ≤ g) (v : Value) : Below B w (w.setCell ⟨g, j,none⟩ v) := (Below.refl B w).setCell h v
theorem oc_setLow {z n c : Nat} {w : World} {e : TypeId} {base : Nat} {A : Option Addr} {vs : List Value} (h : Oc z w e base A n c vs) {p : Addr} (hp : p.block < base) (v : Value) : Oc z (w.setCell p v) e base A n c vs := ownsRow_setCell_below h hp v
def ReRel (g base yn AT s2 st m : Nat) (y : List UInt8) (w : World) (iv kv : Value) (wr : World) : Prop :=
 ∃ I ci A1 c1 A2 c2 A3 c3 D N, ∃ p k e ir : Nat, iv = .slice I ir ci ∧ ir + p = yn ∧ Rb wr wr.heap.size I ir ci (y.drop p) ∧ kv = .int .u64 (k : Int) ∧ k ≤ m ∧
  Box5 wr g (.slice A1 k c1) (.slice A2 k c2) (.slice A3 k c3) (.int .i64 (st : Int)) (.bool true) ∧
  Oc 1 wr 9 base A1 k c1 (lvs (ns D)) ∧ Oc 1 wr 3 base A2 k c2 (zvs D) ∧ Oc 1 wr 3 base A3 k c3 (avs D) ∧ Ap A1 A2 ∧ Ap A1 A3 ∧ Ap A2 A3 ∧
  Ti AT s2 st m y k p e D N ∧ (k = 0 ∧ N = [] ∨ 0 < k ∧ (ns D)[k - 1]? = some N) ∧ e ≤ st + k * 1004 ∧ Below g w wr
theorem rread_c (A : Option Addr) (n c : Nat) (l : List UInt8) (w : World) (hr : Rb w w.heap.size A n c l) (hn : n ≤ 90000) :
  Calls Tryz.prog 93 #[.slice A n c] w (RetL w (Bm.dir l)) := by
 have hl := hr.len
 obtain ⟨w1, hw1⟩ : ∃ w1, w1 = w.alloc (.cells #[.slice none 0 0, .slice none 0 0, .slice none 0 0, .int .i64 0, .bool false] 131) := ⟨_, rfl⟩
 have z1 : w1.heap.size = w.heap.size + 1 := by rw [hw1]; simp
 have b1 : Below w.heap.size w w1 := by rw [hw1]; exact ej _ _
 have x1 : Box5 w1 w.heap.size (.slice none 0 0) (.slice none 0 0) (.slice none 0 0) (.int .i64 0) (.bool false) := by rw [hw1]; exact Box5.made _ _ _ _ _ _ _
 have fin : ∀ (K : Act) (W : World), Bm.dir l = none → Box5 W w.heap.size (.slice none 0 0) (.slice none 0 0) (.slice none 0 0) (.int .i64 0) (.bool false) → Below w.heap.size w W → K.tmps[2]? = some (.pointer (some ⟨w.heap.size, 0,none⟩)) → K.defers = [] →
   bodyPost Tryz.prog Tryz.f93 (RetL w (Bm.dir l)) Exit.ret K (put5 W w.heap.size (.slice none 0 0) (.slice none 0 0) (.slice none 0 0) (.int .i64 0) (.bool false)) := by
  intro K W hd hx hb h2 hK
  obtain ⟨y0, y1, y2, y3, y4, -, -, -, -, -, -⟩ := put5_box hx (.slice none 0 0) (.slice none 0 0) (.slice none 0 0) (.int .i64 0) (.bool false)
  refine bodyPost_ret (v := .agg #[.slice none 0 0, .slice none 0 0, .slice none 0 0, .int .i64 0, .bool false]) ?_ hK ⟨hb.trans (put5_below _ _ _ _ _ _ _), by rw [hd]; exact ⟨none, 0, 0, none, 0, 0, none, 0, 0, 0, rfl⟩⟩
  simp [results, Tryz.results93, go_sem, y0, y1, y2, y3, y4, h2]
 have Hr := ek hr; have Hl := ek hl; have W1 := ek hw1; have Fin := ek fin; have X1 := ek x1
 have hr1 := (hr.below b1).more (show w.heap.size ≤ w1.heap.size by omega)
 have Hr1 := ek hr1
 clear hr hl hw1 fin x1 hr1
 rcases hT : Vm.tk l with ⟨a, s, x⟩
 have hkd := Vm.tk_kinds l
 have hsz := Vm.tk_size l
 rw [hT] at hkd hsz
 simp only at hkd hsz
 by_cases hx0 : x = 0
 ·subst hx0
  obtain ⟨hs1, hs2, hs3⟩ := hsz
  obtain ⟨R, hR⟩ : ∃ R, R = l.drop s := ⟨_, rfl⟩
  have hRl : R.length = n - s := by rw [hR, List.length_drop, Hl.out]
  have htk := rtake_ok A n c l w1 Hr1.out (by omega) a s hT
  rw [← hR] at htk
  obtain ⟨rn, hrn⟩ : ∃ rn, rn = R.length := ⟨_, rfl⟩
  unfold RetT at htk
  simp only at htk
  rw [← hrn] at htk
  have hrn2 : rn = n - s := by rw [hrn, hRl]
  have hsn : s ≤ n := by have := Hl.out; omega
  have ew : IntKind.u64.wrap (rn : Int) = (rn : Int) := by rw [IntKind.wrap_u64]; omega
  have Htk := ek htk; have HT := ek hT; have HR := ek hR; have Hrn := ek hrn
  clear htk hT hkd hR hRl hrn
  go_enter Tryz.func93, Tryz.ntmps93
  go_wp2_with (rw [← W1.out])
  refine Htk.out.mono ?_
  rintro e w2 ⟨A2, c2, rfl, h2, b2⟩
  have z2 := b2.size
  have x2 := X1.out.below b2 X1.out.lt
  have bb2 := b1.trans (b2.mono (by omega))
  have hrR : Rb w2 w2.heap.size A2 rn c2 R := by have := h2.rb; rwa [← Hrn.out] at this
  have X2 := ek x2; have BB2 := ek bb2; have HrR := ek hrR
  clear h2 b2 bb2 hrR
  by_cases hlong : rn < a
  ·have d1 : decide ((rn : Int) < (a : Int)) = true := by simp; omega
   have hd : Bm.dir l = none := by
    rcases h1 : Bm.num l.length l with _ | ⟨z, s'⟩
    ·exact Bm.dir_nonum h1
    ·obtain ⟨e1, _⟩ := Bm.num_inv h1
     rw [HT.out] at e1
     injection e1 with e1 e2
     injection e2 with e2 _
     subst e1 e2
     exact Bm.dir_short h1 (by have := Hl.out; omega)
   have Hd := ek hd
   clear hd
   obtain ⟨o0, o1, o2, o3, o4, q0, q1, q2, q3, q4, hlt⟩ := x2
   go_wp2
   exact Fin.out _ _ Hd.out X2.out BB2.out rfl rfl
  ·have d1 : decide ((rn : Int) < (a : Int)) = false := by simp; omega
   obtain ⟨D, hD, hrD⟩ := bty.upto_ HrR.out (k := a) (by omega) (a : Int) rfl
   have hcut : R.take a = (l.take (s + a)).drop s := by rw [HR.out, List.drop_take, Nat.add_sub_cancel_left]
   have hnum : Bm.num l.length l = some (a, s) := Bm.num_ok HT.out (by have := Hl.out; omega)
   have hle : a ≤ l.length - s := by have := Hl.out; omega
   have hop := ropened_c D a c2 (R.take a) w2 hrD (by omega)
   have e1 : (n : Int) - (rn : Int) = (s : Int) := by omega
   rcases hO : Cm.openS Cm.tab (R.take a) with ⟨y, x⟩
   rw [hO] at hop
   by_cases hx0 : x = 0
   ·subst hx0
    have hdi : Bm.dir l = Bm.takeE s (s + a) y := Bm.dir_in hnum hle (by rw [← hcut]; exact hO)
    have hyl : y.length + 4 = a := by
     have := congrArg List.length (Bm.open_only hO)
     rw [Bm.sl_len, List.length_take, ← Hrn.out] at this
     omega
    have Hop := ek hop; have Hdi := ek hdi
    clear hop hdi hO hnum hle hcut hrD
    obtain ⟨yn, hyn⟩ : ∃ yn, yn = y.length := ⟨_, rfl⟩
    unfold RetE at Hop
    simp only at Hop
    rw [← hyn] at Hop hyl
    have Hyn := ek hyn; have Hyl := ek hyl; have hyn9 : yn ≤ 90000 := by omega
    have hsa : s + a ≤ n := by omega
    have Hrn2 := ek hrn2
    clear hyn hyl hrn2
    rcases hT2 : Vm.tk y with ⟨m, s2, x2⟩
    have hkd2 := Vm.tk_kinds y
    have hsz2 := Vm.tk_size y
    rw [hT2] at hkd2 hsz2
    simp only at hkd2 hsz2
    by_cases hx20 : x2 = 0
    ·subst hx20
     obtain ⟨hs21, hs22, hs23⟩ := hsz2
     have htk2 := fun (A : Option Addr) (c : Nat) (W : World) (h : Rb W W.heap.size A yn c y) => rtake_ok A yn c y W h (by omega) m s2 hT2
     obtain ⟨rn2, hrn2'⟩ : ∃ rn2, rn2 = (y.drop s2).length := ⟨_, rfl⟩
     unfold RetT at htk2
     simp only at htk2
     rw [← hrn2'] at htk2
     have hrn3 : rn2 + s2 = yn := by rw [hrn2', List.length_drop]; have := Hyn.out; omega
     have Htk2 := ek htk2; have HT2 := ek hT2; have Hrn3 := ek hrn3; have Hrn4 := ek hrn2'
     clear htk2 hT2 hkd2 hrn2' hrn3
     go_wp2_with fail
     refine Hop.out.mono ?_
     rintro e w3 ⟨A3, c3, rfl, h3, b3⟩
     have hr3 : Rb w3 w3.heap.size A3 yn c3 y := by have := h3.rb; rwa [← Hyn.out] at this
     have z3 := b3.size
     have x3 := X2.out.below b3 X2.out.lt
     have bb3 := BB2.out.trans (b3.mono (by omega))
     have X3 := ek x3; have H4 := ek (Htk2.out A3 c3 w3 hr3)
     clear h3 hr3 b3
     go_wp2_with fail
     refine H4.out.mono ?_
     rintro e w4 ⟨A4, c4, rfl, h4, b4⟩
     have z4 := b4.size
     have x4 := X3.out.below b4 X3.out.lt
     have bb4 := bb3.trans (b4.mono (by omega))
     have X4 := ek x4; have BB4 := ek bb4
     have hr4 : Rb w4 w4.heap.size A4 rn2 c4 (y.drop s2) := by have := h4.rb; rwa [← Hrn4.out] at this
     have Hr4 := ek hr4
     clear x3 b4 h4 hr4 bb3 bb4
     by_cases hm : 1000 < m
     ·have d5 : decide ((1000 : Int) < (m : Int)) = true := by simp; omega
      have hd : Bm.dir l = none := by
       rw [Hdi.out]
       exact Bm.takeE_nonum (Bm.num_big HT2.out (by omega))
      have Hd := ek hd
      clear hd
      obtain ⟨o0, o1, o2, o3, o4, q0, q1, q2, q3, q4, hlt4⟩ := x4
      go_wp2
      exact Fin.out _ _ Hd.out X4.out BB4.out rfl rfl
     ·have d5 : decide ((1000 : Int) < (m : Int)) = false := by simp; omega
      have hnum2 := Bm.num_ok HT2.out (show m ≤ 1000 by omega)
      have Hnum2 := ek hnum2
      obtain ⟨E, hE⟩ : ∃ E, E = s + a := ⟨_, rfl⟩
      have e4 : IntKind.i64.wrap (a : Int) = (a : Int) := IntWalk.i64_in _ (by omega)
      have e5 : (s : Int) + (a : Int) = (E : Int) := by omega
      have hE9 : E ≤ 90000 := by omega
      have hs9 : s ≤ 90000 := by omega
      have HE := ek hE
      clear hnum2 hE x4
      obtain ⟨w5, hw5⟩ : ∃ w5, w5 = w4.alloc (.cells #[.slice none 0 0, .slice none 0 0, .slice none 0 0, .int .i64 (E : Int), .bool true] 131) := ⟨_, rfl⟩
      have z5 : w5.heap.size = w4.heap.size + 1 := by rw [hw5]; simp
      have b5 : Below w4.heap.size w4 w5 := by rw [hw5]; exact ej _ _
      have y5 : Box5 w5 w4.heap.size (.slice none 0 0) (.slice none 0 0) (.slice none 0 0) (.int .i64 (E : Int)) (.bool true) := by rw [hw5]; exact Box5.made _ _ _ _ _ _ _
      have bb5 := BB4.out.trans (b5.mono (by omega))
      have hr5 := (Hr4.out.below b5).more (show w4.heap.size ≤ w5.heap.size by omega)
      have x5 := X4.out.below b5 X4.out.lt
      have W5 := ek hw5; have Y5 := ek y5; have HR5 := ek hr5; have BB5 := ek bb5; have X5 := ek x5
      have hg5 : w.heap.size < w4.heap.size := X4.out.lt
      have hg6 : w4.heap.size < w5.heap.size := by omega
      have b5' := b5
      clear hw5 b5 y5 hr5 bb5 x5
      go_wp2_with (rw [← W5.out])
      go_loopw [7, 13] (fun iv kv wr => ReRel w4.heap.size w5.heap.size yn s s2 E m y w4 iv kv wr) (fun _ kv _ => m - (intOf kv).toNat)
      case atStart => exact ⟨_, _, none, 0, none, 0, none, 0, [], [], s2, 0, E, rn2, rfl, Hrn3.out, HR5.out, rfl, Nat.zero_le _, Y5.out, Oc.nil _ _ _ _, Oc.nil _ _ _ _, Oc.nil _ _ _ _, Ap.none_ _, Ap.none_ _, Ap.none_ _, Ti.start, .inl ⟨rfl,rfl⟩, by omega, b5'⟩
      case round =>
       obtain ⟨I, ci, A1, c1, A2', c2', A3', c3', D', N, p, k, en, ir, rfl, hir, hri, rfl, hkm, hbx, ho1, ho2, ho3, ha12, ha13, ha23, hti, hpv, hen, hbel⟩ := hrel
       rename World => wr
       have zr := hbel.size
       have zr5 : w5.heap.size ≤ wr.heap.size := by have := hbx.lt; omega
       have hDl : D'.length = k := by have := ho2.rc.len1; unfold zvs at this; rw [List.length_map] at this; exact this
       have xr := X4.out.below hbel X4.out.lt
       have bbr := BB4.out.trans (hbel.mono (by omega))
       have XR := ek xr; have BBR := ek bbr; have Hri := ek hri; have HO1 := ek ho1; have HO2 := ek ho2; have HO3 := ek ho3; have Hti := ek hti; have Hbx := ek hbx; have Hir := ek hir
       have hir9 : ir ≤ 90000 := by omega
       have hp9 : p ≤ 90000 := by omega
       have HDl := ek hDl
       have hen9 : en ≤ 3000000 := by omega
       have Hbel := ek hbel; have Hpv := ek hpv; have Hen := ek hen
       clear bbr hri ho1 ho2 ho3 hti hir hDl hbel hpv hen
       by_cases hlt : k < m
       ·have hbad : (∀ j, Bm.rdE (j + 1) s p en N y = none) → Bm.dir l = none := fun h => by
         rw [Hdi.out]
         exact Bm.takeE_none Hnum2.out (by rw [← HE.out]; exact Hti.out.bad hlt h)
        have Hbad := ek hbad
        clear hbad
        obtain ⟨SY, hSY⟩ : ∃ SY, SY = s + yn := ⟨_, rfl⟩
        obtain ⟨q, hq⟩ : ∃ q, q = s + p := ⟨_, rfl⟩
        have e6 : (s : Int) + (yn : Int) = (SY : Int) := by omega
        have e7 : (SY : Int) - (ir : Int) = (q : Int) := by have := Hir.out; omega
        have hq9 : q ≤ 200000 := by omega
        have hSY9 : SY ≤ 200000 := by omega
        have HSY := ek hSY; have Hq := ek hq
        clear hSY hq
        rcases hnm : Bm.nam (y.drop p) with _ | ⟨aa, s1⟩
        ·obtain ⟨x9, hx9, hfr⟩ := nam_frame_none hnm
         have hd := Hbad.out fun j => Bm.rdE_nonam hnm
         have htf := rtf_err I ir ci (y.drop p) 100 wr Hri.out (by omega) (by unfold I64; omega) x9 hfr hx9
         have d7 : ((x9 : Int) != 0) = true := by simp; omega
         have Hd := ek hd; have Htf := ek htf
         clear hd htf hfr hnm hx9
         go_wp2_with fail
         refine Htf.out.mono ?_
         rintro e w6 ⟨A6, c6, rfl, -, b6⟩
         have x6 := XR.out.below b6 XR.out.lt
         have bb6 := BBR.out.trans (b6.mono (by omega))
         have X6 := ek x6; have BB6 := ek bb6
         obtain ⟨o0, o1, o2, o3, o4, q0, q1, q2, q3, q4, hlt6⟩ := x6
         clear bb6 b6 xr hbx
         go_wp2
         exact Fin.out _ _ Hd.out X6.out BB6.out rfl rfl
        ·obtain ⟨-, -, haal, hs1n⟩ := Bm.nam_only hnm
         rw [List.length_drop] at hs1n
         have hfr := nam_frame hnm
         have htf := rtf_ok I ir ci (y.drop p) 100 wr Hri.out (by omega) (by unfold I64; omega) aa s1 hfr
         rw [List.drop_drop] at htf
         obtain ⟨P2, hP2⟩ : ∃ P2, P2 = p + s1 := ⟨_, rfl⟩
         rw [← hP2] at htf
         obtain ⟨r2, hr2⟩ : ∃ r2, r2 = (y.drop P2).length := ⟨_, rfl⟩
         unfold RetF at htf
         simp only at htf
         rw [← hr2] at htf
         have hr2y : r2 + P2 = yn := by rw [hr2, List.length_drop]; have := Hyn.out; have := Hir.out; omega
         have hP29 : P2 ≤ 90000 := by have := Hyn.out; have := Hir.out; omega
         have hr29 : r2 ≤ 90000 := by omega
         have Htf := ek htf; have Hnm := ek hnm; have HP2 := ek hP2; have Hr2 := ek hr2; have Hr2y := ek hr2y
         clear htf hfr hnm hP2 hr2 hr2y hs1n
         cases hae : aa with
         | nil =>
          subst hae
          have hd := Hbad.out fun j => by
           rcases h2 : Bm.num 1000 (y.drop (p + s1)) with _ | ⟨z, s2'⟩
           ·exact Bm.rdE_nonum Hnm.out h2
           ·exact Bm.rdE_noasc Hnm.out h2 (Bm.less_nil N)
          have Hd := ek hd
          clear hd
          go_wp2_with fail
          refine Htf.out.mono ?_
          rintro e w6 ⟨A6, c6, rfl, -, b6⟩
          have x6 := XR.out.below b6 XR.out.lt
          have bb6 := BBR.out.trans (b6.mono (by omega))
          have X6 := ek x6; have BB6 := ek bb6
          obtain ⟨o0, o1, o2, o3, o4, q0, q1, q2, q3, q4, hlt6⟩ := x6
          clear bb6 b6 xr hbx
          go_wp2
          exact Fin.out _ _ Hd.out X6.out BB6.out rfl rfl
         | cons ah at_ =>
          obtain ⟨a1, ha1⟩ : ∃ a1, a1 = aa := ⟨_, rfl⟩
          rw [← ha1] at Htf Hnm haal
          have hne : (a1.toArray : Array UInt8).isEmpty = false := by rw [ha1, hae]; rfl
          have hne2 : a1.isEmpty = false := by rw [ha1, hae]; rfl
          have hne0 : a1 ≠ [] := by rw [ha1, hae]; simp
          have Hne := ek hne0
          clear hae ha1 hne0
          cases ho : Op.bytesLess N a1 with
          | false =>
           have hd := Hbad.out fun j => by
            rcases h2 : Bm.num 1000 (y.drop (p + s1)) with _ | ⟨z, s2'⟩
            ·exact Bm.rdE_nonum Hnm.out h2
            ·exact Bm.rdE_noasc Hnm.out h2 ho
           have Hd := ek hd
           clear hd
           rcases Hpv.out with ⟨hk0, hN⟩ | ⟨hk0, hN⟩
           ·exfalso
            subst hN
            rw [Bm.nil_less] at ho
            have := of_decide_eq_false ho
            exact Hne.out (List.eq_nil_of_length_eq_zero (by omega))
           ·obtain ⟨nb, no, v, rfl, hnb, hcn, hvn⟩ := HO1.out.rc.at_ (k := k - 1) (by omega)
            obtain rfl : v = .string ⟨N.toArray⟩ := by
             unfold lvs at hvn
             rw [List.getElem?_map, hN] at hvn
             simpa using hvn.symm
            obtain ⟨kp, hkp⟩ : ∃ kp, kp = k - 1 := ⟨_, rfl⟩
            rw [← hkp] at hcn
            have e8 : IntKind.u64.wrap ((k : Int) - 1) = (kp : Int) := by rw [IntKind.wrap_u64]; omega
            have e9 : (k : Int) - 1 = (kp : Int) := by omega
            have hkpk : (kp : Int) < (k : Int) := by omega
            have d8 : decide ((0 : Int) < (k : Int)) = true := by simp; omega
            have hcn6 := ek (fun (W : World) (b : Below wr.heap.size wr W) => (b.cell (p := ⟨nb, no + kp,none⟩) hnb).trans hcn)
            clear hkp hcn hvn hN hk0
            go_wp2_with fail
            refine Htf.out.mono ?_
            rintro e w6 ⟨A6, c6, rfl, h6, b6⟩
            have z6 := b6.size
            have x6 := XR.out.below b6 XR.out.lt
            have bb6 := BBR.out.trans (b6.mono (by omega))
            have X6 := ek x6; have BB6 := ek bb6; have B6 := ek b6; have H6 := ek h6
            clear bb6 h6
            have hcq := hcn6.out w6 b6
            obtain ⟨t0, t1, t2, t3, t4, -, -, -, -, -, hltG⟩ := Hbx.out.below b6 Hbx.out.lt
            obtain ⟨o0, o1, o2, o3, o4, q0, q1, q2, q3, q4, hlt6⟩ := x6
            clear b6 xr hbx
            go_wp2
            exact Fin.out _ _ Hd.out X6.out BB6.out rfl rfl
          | true =>
           have Ho := ek ho
           rcases Hpv.out with ⟨hk0, hN⟩ | ⟨hk0, hN⟩
           case' inl =>
            have d8 : decide ((0 : Int) < (k : Int)) = false := by simp; omega
            have d8n : decide (0 < k) = false := by simp; omega
            clear hN hk0
            go_wp2_with fail
            refine Htf.out.mono ?_
            rintro e w6 ⟨A6, c6, rfl, h6, b6⟩
            have z6 := b6.size
            have x6 := XR.out.below b6 XR.out.lt
            have bb6 := BBR.out.trans (b6.mono (by omega))
            have X6 := ek x6; have BB6 := ek bb6; have B6 := ek b6; have H6 := ek h6
            clear bb6 h6
            obtain ⟨t0, t1, t2, t3, t4, -, -, -, -, -, hltG⟩ := Hbx.out.below b6 Hbx.out.lt
            clear b6 x6
            go_wp2_with fail
           case' inr =>
            obtain ⟨nb, no, v, rfl, hnb, hcn, hvn⟩ := HO1.out.rc.at_ (k := k - 1) (by omega)
            obtain rfl : v = .string ⟨N.toArray⟩ := by
             unfold lvs at hvn
             rw [List.getElem?_map, hN] at hvn
             simpa using hvn.symm
            obtain ⟨kp, hkp⟩ : ∃ kp, kp = k - 1 := ⟨_, rfl⟩
            rw [← hkp] at hcn
            have e8 : IntKind.u64.wrap ((k : Int) - 1) = (kp : Int) := by rw [IntKind.wrap_u64]; omega
            have e9 : (k : Int) - 1 = (kp : Int) := by omega
            have hkpk : (kp : Int) < (k : Int) := by omega
            have d8 : decide ((0 : Int) < (k : Int)) = true := by simp; omega
            have hcn6 := ek (fun (W : World) (b : Below wr.heap.size wr W) => (b.cell (p := ⟨nb, no + kp,none⟩) hnb).trans hcn)
            clear hkp hcn hvn hN hk0
            go_wp2_with fail
            refine Htf.out.mono ?_
            rintro e w6 ⟨A6, c6, rfl, h6, b6⟩
            have z6 := b6.size
            have x6 := XR.out.below b6 XR.out.lt
            have bb6 := BBR.out.trans (b6.mono (by omega))
            have X6 := ek x6; have BB6 := ek bb6; have B6 := ek b6; have H6 := ek h6
            clear bb6 h6
            have hcq := hcn6.out w6 b6
            obtain ⟨t0, t1, t2, t3, t4, -, -, -, -, -, hltG⟩ := Hbx.out.below b6 Hbx.out.lt
            clear b6 x6
            go_wp2_with fail
           all_goals
            have hr6 : Rb w6 w6.heap.size A6 r2 c6 (y.drop P2) := by have := H6.out.rb; rwa [← Hr2.out] at this
            rcases hT3 : Vm.tk (y.drop P2) with ⟨zz, s3, x3⟩
            have hkd3 := Vm.tk_kinds (y.drop P2)
            have hsz3 := Vm.tk_size (y.drop P2)
            rw [hT3] at hkd3 hsz3
            simp only at hkd3 hsz3
            by_cases hx30 : x3 = 0
            ·subst hx30
             by_cases hzz : 1000 < zz
             ·have hd := Hbad.out fun j => Bm.rdE_nonum Hnm.out (by rw [← HP2.out]; exact Bm.num_big hT3 (by omega))
              have htk3 := rtake_ok A6 r2 c6 (y.drop P2) w6 hr6 (by omega) zz s3 hT3
              have d9 : decide ((1000 : Int) < (zz : Int)) = true := by simp; omega
              have Hd := ek hd; have Htk3 := ek htk3
              clear hd htk3 hT3 hr6 hkd3 hsz3
              refine Htk3.out.mono ?_
              rintro e w7 ⟨A7, c7, rfl, -, b7⟩
              have x7 := X6.out.below b7 X6.out.lt
              have bb7 := BB6.out.trans (b7.mono (by omega))
              have X7 := ek x7
              obtain ⟨o0, o1, o2, o3, o4, q0, q1, q2, q3, q4, hlt6⟩ := x7
              clear b7 xr hbx
              go_wp2
              exact Fin.out _ _ Hd.out X7.out bb7 rfl rfl
             ·have hnum3 := Bm.num_ok hT3 (show zz ≤ 1000 by omega)
              have hti2 := Hti.out.step hlt Hnm.out (by rw [← HP2.out]; exact hnum3) Ho.out
              rw [← HP2.out, ← Hq.out] at hti2
              have htk3 := rtake_ok A6 r2 c6 (y.drop P2) w6 hr6 (by omega) zz s3 hT3
              rw [List.drop_drop] at htk3
              obtain ⟨P3, hP3⟩ : ∃ P3, P3 = P2 + s3 := ⟨_, rfl⟩
              rw [← hP3] at htk3 hti2
              obtain ⟨r3, hr3⟩ : ∃ r3, r3 = (y.drop P3).length := ⟨_, rfl⟩
              unfold RetT at htk3
              simp only at htk3
              rw [← hr3] at htk3
              have hs3 : s3 ≤ r2 := by have := hsz3.1; rwa [← Hr2.out] at this
              have hr3y : r3 + P3 = yn := by rw [hr3, List.length_drop]; have := Hyn.out; have := Hr2y.out; omega
              have d9 : decide ((1000 : Int) < (zz : Int)) = false := by simp; omega
              have e10 : IntKind.i64.wrap (zz : Int) = (zz : Int) := IntWalk.i64_in _ (by omega)
              obtain ⟨J, hJ⟩ : ∃ J, J = k + 1 := ⟨_, rfl⟩
              rw [← hJ] at hti2
              have e11 : IntKind.u64.wrap ((k : Int) + 1) = (J : Int) := by rw [IntKind.wrap_u64]; omega
              have e12 : (k : Int) + 1 = (J : Int) := by omega
              have hen2 : en + zz + 4 ≤ E + J * 1004 := by have := Hen.out; rw [hJ, Nat.add_mul]; omega
              have hJm : J ≤ m := by omega
              have hnJ : (ns (D' ++ [⟨q, a1, zz, en⟩]))[J - 1]? = some a1 := by
               unfold ns
               rw [hJ, List.map_append, List.getElem?_append_right (by rw [List.length_map, HDl.out]; omega), List.length_map, HDl.out, Nat.add_sub_cancel, Nat.sub_self]
               rfl
              have Htk3 := ek htk3; have Hti2 := ek hti2; have Hr3 := ek hr3; have Hr3y := ek hr3y; have Hen2 := ek hen2; have HJ := ek hJ; have HnJ := ek hnJ
              clear htk3 hti2 hr3 hr3y hen2 hJ hnJ hnum3 hT3 hr6 hkd3 hsz3 hP3 hs3
              refine Htk3.out.mono ?_
              rintro e w7 ⟨A7, c7, rfl, h7, b7⟩
              have z7 := b7.size
              have bx7 := (Hbx.out.below B6.out Hbx.out.lt).below b7 (by have := Hbx.out.lt; omega)
              have bw7 := (Hbel.out.trans (B6.out.mono zr)).trans (b7.mono (by omega))
              have b67 := B6.out.trans (b7.mono z6)
              have p1 := HO1.out.keep b67
              have p2 := HO2.out.keep b67
              have p3 := HO3.out.keep b67
              have n1 : ob A7 = none ∨ ob A7 ≠ ob _ := nx_own h7 (fun g hg => (oc_ob HO1.out g hg).2) (by omega)
              have n2 : ob A7 = none ∨ ob A7 ≠ ob A2' := nx_own h7 (fun g hg => (oc_ob HO2.out g hg).2) (by omega)
              have n3 : ob A7 = none ∨ ob A7 ≠ ob A3' := nx_own h7 (fun g hg => (oc_ob HO3.out g hg).2) (by omega)
              obtain ⟨wa, hwa⟩ : ∃ wa, wa = w7.alloc (.cells #[.string ⟨a1.toArray⟩] 9) := ⟨_, rfl⟩
              have ba : Below w7.heap.size w7 wa := by rw [hwa]; exact ej _ _
              have lita : Rc 1 wa (w7.heap.size + 1) (some ⟨w7.heap.size, 0,none⟩) 1 1 [.string ⟨a1.toArray⟩] := by rw [hwa]; exact Rc.lit (z := 1) w7 _ #[.string ⟨a1.toArray⟩] 1 rfl (by simp [maxLen])
              have p1a := p1.keep ba
              have p2a := p2.keep ba
              have p3a := p3.keep ba
              have h7a : Own wa 5 w6.heap.size A7 c7 (y.drop P3) := by rw [hwa]; exact h7.alloc _
              have bxa := bx7.below ba bx7.lt
              have bwa := bw7.trans (ba.mono (by omega))
              have za := ba.size
              have Wa := ek hwa; have Lita := ek lita; have P1a := ek p1a; have P2a := ek p2a; have P3a := ek p3a; have H7a := ek h7a; have Bxa := ek bxa; have Bwa := ek bwa; have N1 := ek n1; have N2 := ek n2; have N3 := ek n3
              clear hwa lita p1 p2 p3 p1a p2a p3a h7 h7a bxa bwa n1 n2 n3 ba b67 bw7 b7 t0 t1 t2 t3 t4 hltG
              obtain ⟨t0, t1, t2, t3, t4, g0, g1, g2, g3, g4, hltG⟩ := bx7
              go_wp2_with (at_builtin; rw [← Wa.out]; go_must (refine Sl.wpAppAt sty rfl (.tmp 124) (.tmp 126) rfl (n := k) (m := 1) (N := J) (base := w5.heap.size) (ws := lvs (ns D') ++ [.string ⟨a1.toArray⟩]) rfl rfl P1a.out Lita.out ?hs1 ?hs2 rfl ?hs4 ?hs5 ?hs6 ?_))
              case hs1 => simp [Value.oneCell']
              case hs2 => have := HJ.out; omega
              case hs4 => omega
              case hs5 => omega
              case hs6 => omega
              intro A8 c8 w8 p18 hg8
              have z8 := hg8.size
              have bw8 := Bwa.out.trans ((hg8.belowC P1a.out (by omega)).mono (show w4.heap.size ≤ w5.heap.size by omega))
              have bx8 := Bxa.out.keep z8 (hg8.keepH Bxa.out.lt (oc_low P1a.out (by omega)))
              have p28 := oc_beside P2a.out hg8 ha12
              have p38 := oc_beside P3a.out hg8 ha13
              have h78 := own_beside H7a.out hg8 N1.out
              have ap12 := ap_next hg8 ha12 P2a.out
              have ap13 := ap_next hg8 ha13 P3a.out
              obtain ⟨w9, hw9⟩ : ∃ w9, w9 = w8.setCell ⟨w4.heap.size, 0,none⟩ (.slice A8 J c8) := ⟨_, rfl⟩
              have z9 : w8.heap.size ≤ w9.heap.size := by rw [hw9]; simp
              have b9 : Below w4.heap.size w8 w9 := by rw [hw9]; exact below_set w8 (Nat.le_refl _) _
              have bx9 := bx8.set0 (.slice A8 J c8)
              rw [← hw9] at bx9
              have p19 := oc_setLow p18 (p := ⟨w4.heap.size, 0,none⟩) (by show w4.heap.size < _; omega) (.slice A8 J c8)
              rw [← hw9] at p19
              have p29 := oc_setLow p28 (p := ⟨w4.heap.size, 0,none⟩) (by show w4.heap.size < _; omega) (.slice A8 J c8)
              rw [← hw9] at p29
              have p39 := oc_setLow p38 (p := ⟨w4.heap.size, 0,none⟩) (by show w4.heap.size < _; omega) (.slice A8 J c8)
              rw [← hw9] at p39
              have h79 := h78.setLow (p := ⟨w4.heap.size, 0,none⟩) (by show w4.heap.size < _; omega) (.slice A8 J c8)
              rw [← hw9] at h79
              have bw9 : Below w4.heap.size w4 w9 := bw8.trans b9
              have W9 := ek hw9; have BX9 := ek bx9; have P19 := ek p19; have P29 := ek p29; have P39 := ek p39; have H79 := ek h79; have BW9 := ek bw9; have AP12 := ek ap12; have AP13 := ek ap13
              have n29 : ob A7 = none ∨ ob A7 ≠ ob A2' := N2.out
              obtain ⟨wb, hwb⟩ : ∃ wb, wb = w9.alloc (.cells #[.int .i64 (zz : Int)] 3) := ⟨_, rfl⟩
              have bb9 : Below w9.heap.size w9 wb := by rw [hwb]; exact ej _ _
              have zb := bb9.size
              have litb : Rc 1 wb (w8.heap.size + 1) (some ⟨w8.heap.size, 0,none⟩) 1 1 [.int .i64 (zz : Int)] := by
               have h := Rc.lit (z := 1) w9 3 #[.int .i64 (zz : Int)] 1 rfl (by simp [maxLen])
               rw [← hwb, show w9.heap.size = w8.heap.size by rw [hw9]; simp] at h
               exact h
              have P1b := ek (p19.keep bb9); have P2b := ek (p29.keep bb9); have P3b := ek (p39.keep bb9)
              have H7b := ek (show Own wb 5 w6.heap.size A7 c7 (y.drop P3) by rw [hwb]; exact h79.alloc _)
              have BXb := ek (bx9.below bb9 bx9.lt); have BWb := ek (bw9.trans (bb9.mono (by omega))); have Wb := ek hwb; have Litb := ek litb
              clear t0 t1 t2 t3 t4 g0 g1 g2 g3 g4 hltG hw9 hwb litb p18 p28 p38 p19 p29 p39 h78 h79 bw9 ap12 ap13 hg8 bw8 b9 bb9
              obtain ⟨t0, t1, t2, t3, t4, g0, g1, g2, g3, g4, hltG⟩ := bx8
              obtain ⟨u0, u1, u2, u3, u4, y0, y1, y2, y3, y4, hltH⟩ := bx9
              go_wp2_with (at_builtin; rw [← W9.out, ← Wb.out]; go_must (refine Sl.wpAppAt ity rfl (.tmp 130) (.tmp 133) rfl (n := k) (m := 1) (N := J) (base := w5.heap.size) (ws := zvs D' ++ [.int .i64 (zz : Int)]) rfl rfl P2b.out Litb.out ?hs1 ?hs2 rfl ?hs4 ?hs5 ?hs6 ?_))
              case hs1 => simp [Value.oneCell']
              case hs2 => have := HJ.out; omega
              case hs4 => omega
              case hs5 => omega
              case hs6 => omega
              intro A10 c10 w10 p20 hg10
              have z10 := hg10.size
              have bw10 := BWb.out.trans ((hg10.belowC P2b.out (by omega)).mono (show w4.heap.size ≤ w5.heap.size by omega))
              have bx10 := BXb.out.keep z10 (hg10.keepH BXb.out.lt (oc_low P2b.out (by omega)))
              have p110 := oc_beside P1b.out hg10 AP12.out.symm
              have p310 := oc_beside P3b.out hg10 ha23
              have h710 := own_beside H7b.out hg10 N2.out
              have ap21 := ap_next hg10 AP12.out.symm P1b.out
              have ap23 := ap_next hg10 ha23 P3b.out
              obtain ⟨w11, hw11⟩ : ∃ w11, w11 = w10.setCell ⟨w4.heap.size, 1,none⟩ (.slice A10 J c10) := ⟨_, rfl⟩
              have z11 : w10.heap.size ≤ w11.heap.size := by rw [hw11]; simp
              have b11 : Below w4.heap.size w10 w11 := by rw [hw11]; exact below_set w10 (Nat.le_refl _) _
              have bx11 := bx10.set1 (.slice A10 J c10)
              rw [← hw11] at bx11
              have p211 := oc_setLow p20 (p := ⟨w4.heap.size, 1,none⟩) (by show w4.heap.size < _; omega) (.slice A10 J c10)
              rw [← hw11] at p211
              have p111 := oc_setLow p110 (p := ⟨w4.heap.size, 1,none⟩) (by show w4.heap.size < _; omega) (.slice A10 J c10)
              rw [← hw11] at p111
              have p311 := oc_setLow p310 (p := ⟨w4.heap.size, 1,none⟩) (by show w4.heap.size < _; omega) (.slice A10 J c10)
              rw [← hw11] at p311
              have h711 := h710.setLow (p := ⟨w4.heap.size, 1,none⟩) (by show w4.heap.size < _; omega) (.slice A10 J c10)
              rw [← hw11] at h711
              have bw11 : Below w4.heap.size w4 w11 := bw10.trans b11
              have W11 := ek hw11; have AP21 := ek ap21; have AP23 := ek ap23
              obtain ⟨wc, hwc⟩ : ∃ wc, wc = w11.alloc (.cells #[.int .i64 (q : Int)] 3) := ⟨_, rfl⟩
              have bb11 : Below w11.heap.size w11 wc := by rw [hwc]; exact ej _ _
              have zc := bb11.size
              have litc : Rc 1 wc (w10.heap.size + 1) (some ⟨w10.heap.size, 0,none⟩) 1 1 [.int .i64 (q : Int)] := by
               have h := Rc.lit (z := 1) w11 3 #[.int .i64 (q : Int)] 1 rfl (by simp [maxLen])
               rw [← hwc, show w11.heap.size = w10.heap.size by rw [hw11]; simp] at h
               exact h
              have P1c := ek (p111.keep bb11); have P2c := ek (p211.keep bb11); have P3c := ek (p311.keep bb11)
              have H7c := ek (show Own wc 5 w6.heap.size A7 c7 (y.drop P3) by rw [hwc]; exact h711.alloc _)
              have BXc := ek (bx11.below bb11 bx11.lt); have BWc := ek (bw11.trans (bb11.mono (by omega))); have Wc := ek hwc; have Litc := ek litc
              clear t0 t1 t2 t3 t4 g0 g1 g2 g3 g4 hltG u0 u1 u2 u3 u4 y0 y1 y2 y3 y4 hltH hw11 hwc litc p20 p110 p310 p111 p211 p311 h710 h711 bw10 bw11 ap21 ap23 hg10 b11 bb11
              obtain ⟨t0, t1, t2, t3, t4, g0, g1, g2, g3, g4, hltG⟩ := bx10
              obtain ⟨u0, u1, u2, u3, u4, y0, y1, y2, y3, y4, hltH⟩ := bx11
              go_wp2_with (at_builtin; rw [← W11.out, ← Wc.out]; go_must (refine Sl.wpAppAt ity rfl (.tmp 137) (.tmp 139) rfl (n := k) (m := 1) (N := J) (base := w5.heap.size) (ws := avs D' ++ [.int .i64 (q : Int)]) rfl rfl P3c.out Litc.out ?hs1 ?hs2 rfl ?hs4 ?hs5 ?hs6 ?_))
              case hs1 => simp [Value.oneCell']
              case hs2 => have := HJ.out; omega
              case hs4 => omega
              case hs5 => omega
              case hs6 => omega
              intro A12 c12 w12 p32 hg12
              have z12 := hg12.size
              have bw12 := BWc.out.trans ((hg12.belowC P3c.out (by omega)).mono (show w4.heap.size ≤ w5.heap.size by omega))
              have bx12 := BXc.out.keep z12 (hg12.keepH BXc.out.lt (oc_low P3c.out (by omega)))
              have p112 := oc_beside P1c.out hg12 AP13.out.symm
              have p212 := oc_beside P2c.out hg12 AP23.out.symm
              have h712 := own_beside H7c.out hg12 N3.out
              have ap31 := ap_next hg12 AP13.out.symm P1c.out
              have ap32 := ap_next hg12 AP23.out.symm P2c.out
              obtain ⟨w13, hw13⟩ : ∃ w13, w13 = w12.setCell ⟨w4.heap.size, 2,none⟩ (.slice A12 J c12) := ⟨_, rfl⟩
              have z13 : w12.heap.size ≤ w13.heap.size := by rw [hw13]; simp
              have b13 : Below w4.heap.size w12 w13 := by rw [hw13]; exact below_set w12 (Nat.le_refl _) _
              have bx13 := bx12.set2 (.slice A12 J c12)
              rw [← hw13] at bx13
              have p313 := oc_setLow p32 (p := ⟨w4.heap.size, 2,none⟩) (by show w4.heap.size < _; omega) (.slice A12 J c12)
              rw [← hw13] at p313
              have p113 := oc_setLow p112 (p := ⟨w4.heap.size, 2,none⟩) (by show w4.heap.size < _; omega) (.slice A12 J c12)
              rw [← hw13] at p113
              have p213 := oc_setLow p212 (p := ⟨w4.heap.size, 2,none⟩) (by show w4.heap.size < _; omega) (.slice A12 J c12)
              rw [← hw13] at p213
              have h713 := h712.setLow (p := ⟨w4.heap.size, 2,none⟩) (by show w4.heap.size < _; omega) (.slice A12 J c12)
              rw [← hw13] at h713
              have bw13 : Below w4.heap.size w4 w13 := bw12.trans b13
              have hr13 : Rb w13 w13.heap.size A7 r3 c7 (y.drop P3) := by have := h713.rb; rwa [← Hr3.out] at this
              have W13 := ek hw13; have AP31 := ek ap31; have AP32 := ek ap32
              have BX13 := ek bx13; have P113 := ek p113; have P213 := ek p213; have P313 := ek p313; have HR13 := ek hr13; have BW13 := ek bw13
              clear t0 t1 t2 t3 t4 g0 g1 g2 g3 g4 hltG u0 u1 u2 u3 u4 y0 y1 y2 y3 y4 hltH hw13 p32 p112 p212 p113 p213 p313 h712 h713 bw12 bw13 ap31 ap32 hg12 b13 bx13 hr13
              obtain ⟨t0, t1, t2, t3, t4, g0, g1, g2, g3, g4, hltG⟩ := bx12
              go_wp2_with (rw [← W13.out])
              go_roundw
              case rel =>
               refine ⟨A7, c7, A8, c8, A10, c10, A12, c12, D' ++ [⟨q, a1, zz, en⟩], a1, P3, J, en + zz + 4, r3, rfl, Hr3y.out, HR13.out, by go_num, hJm, BX13.out, ?_, ?_, ?_, AP21.out.symm, AP31.out.symm, AP32.out.symm, Hti2.out, .inr ⟨by have := HJ.out; omega, HnJ.out⟩, Hen2.out, BW13.out⟩
               ·have e : lvs (ns (D' ++ [⟨q, a1, zz, en⟩])) = lvs (ns D') ++ [.string ⟨a1.toArray⟩] := by unfold ns lvs; simp
                rw [e, z5]; exact P113.out
               ·have e : zvs (D' ++ [⟨q, a1, zz, en⟩]) = zvs D' ++ [.int .i64 (zz : Int)] := by unfold zvs; simp
                rw [e, z5]; exact P213.out
               ·have e : avs (D' ++ [⟨q, a1, zz, en⟩]) = avs D' ++ [.int .i64 (q : Int)] := by unfold avs; simp
                rw [e, z5]; exact P313.out
              case measure => simp [intOf]; have := HJ.out; omega
            ·have hd := Hbad.out fun j => Bm.rdE_nonum Hnm.out (by rw [← HP2.out]; unfold Bm.num; rw [hT3, if_neg fun q => hx30 q.1])
             have htk3 := rtake_err A6 r2 c6 (y.drop P2) w6 hr6 (by omega) x3 (by
              have h1 := Vm.tk_err (y.drop P2) (by rw [hT3]; exact hx30)
              rw [hT3] at h1
              simp only at h1
              obtain ⟨rfl,rfl⟩ := h1
              exact hT3) (by omega)
             have d9 : ((x3 : Int) != 0) = true := by simpa using hx30
             have Hd := ek hd; have Htk3 := ek htk3
             clear hd htk3 hT3 hr6 hkd3 hsz3 hx30
             refine Htk3.out.mono ?_
             rintro e w7 ⟨A7, c7, rfl, -, b7⟩
             have x7 := X6.out.below b7 X6.out.lt
             have bb7 := BB6.out.trans (b7.mono (by omega))
             have X7 := ek x7
             obtain ⟨o0, o1, o2, o3, o4, q0, q1, q2, q3, q4, hlt6⟩ := x7
             clear b7 xr hbx
             go_wp2
             exact Fin.out _ _ Hd.out X7.out bb7 rfl rfl
       ·have hkm2 : k = m := by omega
        have hfin := Hti.out.end_ hkm2
        have hrd := Bm.rdE_only m s s2 E [] y D' p en (by omega) hfin
        have hplc := hrd.2.2.1
        have Hplc := ek hplc; have Hfin := ek hfin
        clear hplc hrd hfin hkm2
        have G1 := Hbx.out
        obtain ⟨t0, t1, t2, t3, t4, g0, g1, g2, g3, g4, hltG⟩ := G1
        have X9 := XR.out
        obtain ⟨o0, o1, o2, o3, o4, q0, q1, q2, q3, q4, hlt9⟩ := X9
        by_cases hi0 : ir = 0
        ·have hdir : Bm.dir l = some (D', en) := by
          rw [Hdi.out]
          exact Bm.takeE_ok Hnum2.out (by rw [← HE.out]; exact Hfin.out) (by have := Hir.out; have := Hyn.out; omega)
         have Hdir := ek hdir
         have di : ((ir : Int) == 0) = true := by simp; exact hi0
         clear hdir hbx xr
         obtain ⟨wq, hwq⟩ : ∃ wq, wq = wr.setCell ⟨w4.heap.size, 4,none⟩ (.bool true) := ⟨_, rfl⟩
         have bq : Below w4.heap.size wr wq := by rw [hwq]; exact below_set wr (Nat.le_refl _) _
         have xq := XR.out.below bq X4.out.lt
         obtain ⟨wf, hwf⟩ : ∃ wf, wf = put5 wq w.heap.size (.slice A1 k c1) (.slice A2' k c2') (.slice A3' k c3') (.int .i64 (E : Int)) (.bool true) := ⟨_, rfl⟩
         have xf := put5_box xq (.slice A1 k c1) (.slice A2' k c2') (.slice A3' k c3') (.int .i64 (E : Int)) (.bool true)
         have qf := put5_below wq w.heap.size (.slice A1 k c1) (.slice A2' k c2') (.slice A3' k c3') (.int .i64 (E : Int)) (.bool true)
         rw [← hwf] at xf qf
         have bf := (BBR.out.trans (bq.mono (by omega))).trans qf
         have Hwq := ek hwq; have Hwf := ek hwf; have Xf := ek xf; have Bf := ek bf; have Zf := ek (show wr.heap.size ≤ wf.heap.size by have := bq.size; have := qf.size; omega)
         clear hwq hwf xf qf bf bq xq
         go_wp2
         change bodyPost _ _ _ _ _ (put5 (wr.setCell ⟨w4.heap.size, 4,none⟩ (.bool true)) w.heap.size (.slice A1 k c1) (.slice A2' k c2') (.slice A3' k c3') (.int .i64 (E : Int)) (.bool true))
         rw [← Hwq.out, ← Hwf.out]
         have xf := Xf.out
         obtain ⟨v0, v1, v2, v3, v4, -, -, -, -, -, -⟩ := xf
         have hst : Stays wr wf (Fr w5.heap.size wr) (Fr w.heap.size wf) := ⟨fun b hb => ⟨by have h : w5.heap.size ≤ b := hb.1; omega, by have h : b < wr.heap.size := hb.2; have := Zf.out; omega⟩, fun p hp => by
          have h : w5.heap.size ≤ p.block := hp.1
          rw [Hwf.out, put5_cell _ _ _ _ _ _ _ _ (by omega), Hwq.out]
          exact World.cell?_setCell_other _ _ _ _ (fun q => by rw [← q] at h; have h' : w5.heap.size ≤ w4.heap.size := h; omega)⟩
         have hk := HDl.out
         refine bodyPost_ret (v := .agg #[.slice A1 k c1, .slice A2' k c2', .slice A3' k c3', .int .i64 (E : Int), .bool true]) ?_ rfl ⟨Bf.out, ?_⟩
         ·simp [results, Tryz.results93, go_sem, v0, v1, v2, v3, v4]
         ·rw [Hdir.out]
          exact ⟨A1, c1, A2', c2', A3', c3', E, by rw [hk], by rw [hk]; exact HO1.out.rcS.keep hst, by rw [hk]; exact HO2.out.rcS.keep hst, by rw [hk]; exact HO3.out.rcS.keep hst, Hplc.out⟩
        ·have hdir : Bm.dir l = none := by
          rw [Hdi.out]
          exact Bm.takeE_more Hnum2.out (by rw [← HE.out]; exact Hfin.out) (by have := Hir.out; have := Hyn.out; omega)
         have Hdir := ek hdir
         have di : ((ir : Int) == 0) = false := by simp; exact hi0
         clear hdir hbx xr
         obtain ⟨wq, hwq⟩ : ∃ wq, wq = wr.setCell ⟨w4.heap.size, 4,none⟩ (.bool false) := ⟨_, rfl⟩
         have bq : Below w4.heap.size wr wq := by rw [hwq]; exact below_set wr (Nat.le_refl _) _
         have xq := XR.out.below bq X4.out.lt
         obtain ⟨wf, hwf⟩ : ∃ wf, wf = put5 wq w.heap.size (.slice A1 k c1) (.slice A2' k c2') (.slice A3' k c3') (.int .i64 (E : Int)) (.bool false) := ⟨_, rfl⟩
         have xf := put5_box xq (.slice A1 k c1) (.slice A2' k c2') (.slice A3' k c3') (.int .i64 (E : Int)) (.bool false)
         have qf := put5_below wq w.heap.size (.slice A1 k c1) (.slice A2' k c2') (.slice A3' k c3') (.int .i64 (E : Int)) (.bool false)
         rw [← hwf] at xf qf
         have bf := (BBR.out.trans (bq.mono (by omega))).trans qf
         have Hwq := ek hwq; have Hwf := ek hwf; have Xf := ek xf; have Bf := ek bf; have Zf := ek (show wr.heap.size ≤ wf.heap.size by have := bq.size; have := qf.size; omega)
         clear hwq hwf xf qf bf bq xq
         go_wp2
         change bodyPost _ _ _ _ _ (put5 (wr.setCell ⟨w4.heap.size, 4,none⟩ (.bool false)) w.heap.size (.slice A1 k c1) (.slice A2' k c2') (.slice A3' k c3') (.int .i64 (E : Int)) (.bool false))
         rw [← Hwq.out, ← Hwf.out]
         have xf := Xf.out
         obtain ⟨v0, v1, v2, v3, v4, -, -, -, -, -, -⟩ := xf
         refine bodyPost_ret (v := .agg #[.slice A1 k c1, .slice A2' k c2', .slice A3' k c3', .int .i64 (E : Int), .bool false]) ?_ rfl ⟨Bf.out, ?_⟩
         ·simp [results, Tryz.results93, go_sem, v0, v1, v2, v3, v4]
         ·rw [Hdir.out]
          exact ⟨_, _, _, _, _, _, _, _, _, _, rfl⟩
    ·have htk2 := fun (A : Option Addr) (c : Nat) (W : World) (h : Rb W W.heap.size A yn c y) => rtake_err A yn c y W h (by omega) x2 (by
      have h1 := Vm.tk_err y (by rw [hT2]; exact hx20)
      rw [hT2] at h1
      simp only at h1
      obtain ⟨rfl,rfl⟩ := h1
      exact hT2) (by omega)
     have hd : Bm.dir l = none := by rw [Hdi.out]; exact Bm.takeE_nonum (by unfold Bm.num; rw [hT2, if_neg fun q => hx20 q.1])
     have d3 : ((x2 : Int) != 0) = true := by simpa using hx20
     have Htk2 := ek htk2; have Hd := ek hd
     clear htk2 hT2 hkd2 hsz2 hd hx20
     go_wp2_with fail
     refine Hop.out.mono ?_
     rintro e w3 ⟨A3, c3, rfl, h3, b3⟩
     have hr3 : Rb w3 w3.heap.size A3 yn c3 y := by have := h3.rb; rwa [← Hyn.out] at this
     have z3 := b3.size
     have x3 := X2.out.below b3 X2.out.lt
     have bb3 := BB2.out.trans (b3.mono (by omega))
     have X3 := ek x3; have H4 := ek (Htk2.out A3 c3 w3 hr3)
     clear h3 hr3 b3
     go_wp2_with fail
     refine H4.out.mono ?_
     rintro e w4 ⟨A4, c4, rfl, -, b4⟩
     have x4 := X3.out.below b4 X3.out.lt
     have bb4 := bb3.trans (b4.mono (by omega))
     have X4 := ek x4
     obtain ⟨o0, o1, o2, o3, o4, q0, q1, q2, q3, q4, hlt4⟩ := x4
     clear x3 b4
     go_wp2
     exact Fin.out _ _ Hd.out X4.out bb4 rfl rfl
   ·have hd : Bm.dir l = none := Bm.dir_bad hnum hle (by rw [← hcut]; exact hO) hx0
    have d3 : ((x : Int) != 0) = true := by simpa using hx0
    have Hop := ek hop; have Hd := ek hd
    clear hop hd hO hnum hle hcut hrD hx0 hrn2
    go_wp2_with fail
    refine Hop.out.mono ?_
    rintro e w3 ⟨A3, c3, rfl, -, b3⟩
    have x3 := X2.out.below b3 X2.out.lt
    have bb3 := BB2.out.trans (b3.mono (by omega))
    have X3 := ek x3
    obtain ⟨o0, o1, o2, o3, o4, q0, q1, q2, q3, q4, hlt⟩ := x3
    clear b3
    go_wp2
    exact Fin.out _ _ Hd.out X3.out bb3 rfl rfl
 ·have htk := rtake_err A n c l w1 Hr1.out (by omega) x (by
   have h1 := Vm.tk_err l (by rw [hT]; exact hx0)
   rw [hT] at h1
   simp only at h1
   obtain ⟨rfl,rfl⟩ := h1
   exact hT) (by omega)
  have hd : Bm.dir l = none := Bm.dir_nonum (by unfold Bm.num; rw [hT, if_neg fun q => hx0 q.1])
  have d1 : ((x : Int) != 0) = true := by simpa using hx0
  have Htk := ek htk; have Hd := ek hd
  clear htk hT hkd hsz hd hx0
  go_enter Tryz.func93, Tryz.ntmps93
  go_wp2_with (rw [← W1.out])
  refine Htk.out.mono ?_
  rintro e w2 ⟨A2, c2, rfl, -, b2⟩
  have x2 := X1.out.below b2 X1.out.lt
  have bb2 := b1.trans (b2.mono (by omega))
  have X2 := ek x2
  obtain ⟨o0, o1, o2, o3, o4, q0, q1, q2, q3, q4, hlt⟩ := x2
  go_wp2
  exact Fin.out _ _ Hd.out X2.out bb2 rfl rfl
def Xe (A : Option Addr) (B : Nat) (w w' : World) : Prop := ∀ g, some g ≠ ob A → g < B → w'.heap[g]? = w.heap[g]?
theorem Xe.refl {A : Option Addr} {B : Nat} (w : World) : Xe A B w w := fun _ _ _ => rfl
theorem Xe.trans {A : Option Addr} {B : Nat} (a b c : World) (h : Xe A B a b) (h2 : Xe A B b c) : Xe A B a c := fun g h1 h3 => (h2 g h1 h3).trans (h g h1 h3)
theorem Xe.of {A : Option Addr} {B B' : Nat} {w w' : World} (h : Below B' w w') (hB : B ≤ B') : Xe A B w w' := fun g _ h2 => h.block g (Nat.lt_of_lt_of_le h2 hB)
theorem Xe.grows {A A' : Option Addr} {B : Nat} {w w' : World} (h : Grows w w' A A') (hB : B ≤ w.heap.size) : Xe A B w w' := fun g h1 h2 => h.heap g (Nat.lt_of_lt_of_le h2 hB) h1
theorem Xe.cell {A : Option Addr} {B : Nat} {w w' : World} (h : Xe A B w w') (p : Addr) (h1 : some p.block ≠ ob A) (h2 : p.block < B) : w'.cell? p = w.cell? p := by
 have := h p.block h1 h2
 unfold World.cell?
 rw [this]
theorem own_xe {w w' : World} {e : TypeId} {base c B : Nat} {A D : Option Addr} {l : List UInt8} (h : Own w e base A c l) (hg : Xe D B w w') (hB : w.heap.size ≤ B) (hne : ob A = none ∨ ob A ≠ ob D) : Own w' e base A c l :=
 Oc.other (z := 1) h fun g hA => hg g (by
  rcases hne with h1 | h1
  ·rw [hA] at h1; cases h1
  ·intro q; exact h1 (by rw [hA]; exact q)) (Nat.lt_of_lt_of_le (own_ob h g (by rw [hA]; rfl)).2 hB)
theorem cts_drop (b : List UInt8) : ∀ (D : List Bm.F) (j : Nat), j ≤ (Bm.cts b D).length → Bm.cts b (D.drop j) = (Bm.cts b D).drop j
 | D, 0, _ => by simp
 | [], j + 1, h => by rw [Bm.cts] at h; simp at h
 | f :: D, j + 1, h => by
  rcases Bm.cts_cases b f D with h1 | ⟨x, -, -, h1⟩
  ·rw [h1] at h; simp at h
  ·rw [h1] at h ⊢
   rw [List.drop_succ_cons, List.drop_succ_cons]
   exact cts_drop b D j (by simpa using h)
theorem rcS_low {z : Nat} {w : World} {B : Nat} {A : Option Addr} {n c : Nat} {vs : List Value} (h : RcS z w (Fr B w) A n c vs) (hn : 0 < n) (b o : Nat) (hA : A = some ⟨b, o,none⟩) : B ≤ b := by
 obtain ⟨-, -, -, h4⟩ := h
 obtain ⟨b', o', e, hS, -⟩ := h4 hn
 rw [hA] at e
 injection e with e
 injection e with e
 rw [e]
 exact hS.1
theorem rows_xe {z : Nat} {w2 w3 wr : World} {lo B0 n c : Nat} {A : Option Addr} {vs : List Value} (h : RcS z w3 (Fr lo w2) A n c vs) (hs : w2.heap.size ≤ w3.heap.size) (hx : Xe (some ⟨B0, 0,none⟩) w3.heap.size w3 wr) (hB : B0 < lo) : Rc z wr w3.heap.size A n c vs :=
 (h.keep (S' := (· < w3.heap.size)) ⟨fun _ hb => Nat.lt_of_lt_of_le hb.2 hs, fun p hp => hx.cell p (fun e => by
  have e2 : p.block = B0 := Option.some.inj e
  have := hp.1
  omega) (Nat.lt_of_lt_of_le hp.2 hs)⟩).rc
def RsRel (w0 w3 : World) (k : Nat) (D : List Bm.F) (V : List (List UInt8)) (en : Nat) (o t i : Value) (wr : World) : Prop :=
 ∃ A c vs, ∃ j a : Nat, o = .slice A j c ∧ t = .int .i64 (a : Int) ∧ i = .int .i64 (j : Int) ∧ j ≤ k ∧ j ≤ V.length ∧ Bm.plc a (D.drop j) en ∧ Oc 2 wr 81 w0.heap.size A j c vs ∧ PsS wr (Sf w0.heap.size wr A) vs (Bm.pcs D (V.take j)) ∧ Below w0.heap.size w0 wr ∧ w3.heap.size ≤ wr.heap.size ∧ Xe (some ⟨w0.heap.size, 0,none⟩) w3.heap.size w3 wr ∧ ∀ g, ob A = some g → g ≤ w0.heap.size ∨ w3.heap.size ≤ g
theorem rscan_c (A : Option Addr) (n c : Nat) (l : List UInt8) (w : World) (hr : Rb w w.heap.size A n c l) (hn : n ≤ 90000) :
  Calls Tryz.prog 65 #[.slice A n c] w (RetSc w (Bm.scS l)) := by
 have hl := hr.len
 obtain ⟨w1, hw1⟩ : ∃ w1, w1 = w.alloc (.cells #[] 81) := ⟨_, rfl⟩
 have z1 : w1.heap.size = w.heap.size + 1 := by rw [hw1]; simp
 have b1 : Below w.heap.size w w1 := by rw [hw1]; exact ej _ _
 have own1 : Oc 2 w1 81 w.heap.size (some ⟨w.heap.size, 0,none⟩) 0 0 [] := by rw [hw1]; exact Oc.made0 2 _ _
 have hr1 := (hr.below b1).more (B' := w1.heap.size) (by omega)
 have hrd := rread_c A n c l w1 hr1 hn
 have Hr := ek hr; have Hl := ek hl; have W1 := ek hw1; have Own1 := ek own1
 clear hr hl hw1 own1 hr1
 rcases hI : Bm.dir l with _ | ⟨D, en⟩
 ·have hres := Bm.scS_none hI
  rw [hI] at hrd
  have Hrd := ek hrd; have Hres := ek hres
  clear hI hres hrd
  go_enter Tryz.func65, Tryz.ntmps65
  go_wp2_with (rw [← W1.out])
  refine Hrd.out.mono ?_
  rintro e w2 ⟨b2, v0, m0, k0, v1, m1, k1, v2, m2, k2, v3, rfl⟩
  have z2 := b2.size
  obtain ⟨w3, hw3⟩ : ∃ w3, w3 = w2.alloc (.cells #[.slice v0 m0 k0, .slice v1 m1 k1, .slice v2 m2 k2, .int .i64 (v3 : Int), .bool false] 131) := ⟨_, rfl⟩
  have b3 : Below w2.heap.size w2 w3 := by rw [hw3]; exact ej _ _
  have x3 : Box5 w3 w2.heap.size (.slice v0 m0 k0) (.slice v1 m1 k1) (.slice v2 m2 k2) (.int .i64 (v3 : Int)) (.bool false) := by rw [hw3]; exact Box5.made _ _ _ _ _ _ _
  obtain ⟨q0, q1, q2, q3, q4, -, -, -, -, -, -⟩ := x3
  have own3 := ((Own1.out.keep (b2.mono (Nat.le_refl _))).keep b3)
  have bb3 := b1.trans ((b2.mono (by omega)).trans (b3.mono (by omega)))
  have W3 := ek hw3; have Own3 := ek own3
  clear hw3 own3 b3
  go_wp2_with (rw [← W3.out])
  go_ret3
  rw [Hres.out]
  exact ⟨_, 0, rfl, ⟨[], (Own3.out).rcS, PsS.nil⟩, bb3⟩
 ·obtain ⟨hD, hen, hm⟩ := dir_files hI Hl.out hn
  obtain ⟨V, hV⟩ : ∃ V, V = Bm.cts l D := ⟨_, rfl⟩
  obtain ⟨k, hk⟩ : ∃ k, D.length = k := ⟨_, rfl⟩
  have hvk : V.length ≤ k := by rw [← hk, hV]; exact Bm.cts_len l D
  rw [hk] at hD
  rw [hI] at hrd
  have HI := ek hI; have Hm := ek hm; have HV := ek hV; have Hk := ek hk; have Hrd := ek hrd; have Hvk := ek hvk
  clear hI hm hV hk hrd hvk
  go_enter Tryz.func65, Tryz.ntmps65
  go_wp2_with (rw [← W1.out])
  refine Hrd.out.mono ?_
  rintro e w2 ⟨b2, A1, c1, A2, c2, A3, c3, st, rfl, r1, r2, r3, hpl⟩
  rw [Hk.out] at r1 r2 r3 ⊢
  have z2 := b2.size
  obtain ⟨g6, hg6⟩ : ∃ g6, g6 = w2.heap.size := ⟨_, rfl⟩
  obtain ⟨w3, hw3⟩ : ∃ w3, w3 = w2.alloc (.cells #[.slice A1 k c1, .slice A2 k c2, .slice A3 k c3, .int .i64 (st : Int), .bool true] 131) := ⟨_, rfl⟩
  have b3 : Below w2.heap.size w2 w3 := by rw [hw3]; exact ej _ _
  have z3 : w3.heap.size = w2.heap.size + 1 := by rw [hw3]; simp
  have x3 : Box5 w3 g6 (.slice A1 k c1) (.slice A2 k c2) (.slice A3 k c3) (.int .i64 (st : Int)) (.bool true) := by rw [hw3, hg6]; exact Box5.made _ _ _ _ _ _ _
  have own3 := ((Own1.out.keep (b2.mono (Nat.le_refl _))).keep b3)
  have bb3 := b1.trans ((b2.mono (by omega)).trans (b3.mono (by omega)))
  have l1 := rcS_low r1; have l2 := rcS_low r2; have l3 := rcS_low r3
  have L1 := ek l1; have L2 := ek l2; have L3 := ek l3
  clear l1 l2 l3
  have s1 := r1.keep (w' := w3) (S' := Fr w1.heap.size w2) ⟨fun _ h => h, fun p hp => b3.cell hp.2⟩
  have s2 := r2.keep (w' := w3) (S' := Fr w1.heap.size w2) ⟨fun _ h => h, fun p hp => b3.cell hp.2⟩
  have s3 := r3.keep (w' := w3) (S' := Fr w1.heap.size w2) ⟨fun _ h => h, fun p hp => b3.cell hp.2⟩
  have W3 := ek hw3; have Own3 := ek own3; have X3 := ek x3; have S1 := ek s1; have S2 := ek s2; have S3 := ek s3; have Hpl := ek hpl; have Hg6 := ek hg6
  have hg6w : g6 < w3.heap.size := by omega
  obtain ⟨q0, q1, q2, q3, q4, -, -, -, -, -, -⟩ := x3
  clear hw3 own3 b3 r1 r2 r3 s1 s2 s3 hpl hg6
  go_wp2_with (rw [← W3.out, ← Hg6.out])
  go_loopw [5, 7, 8] (fun o t i wr => RsRel w w3 k D V en o t i wr) (fun _ _ i _ => k - (intOf i).toNat)
  case atStart => exact ⟨_, 0, [], 0, st, rfl, rfl, rfl, Nat.zero_le _, Nat.zero_le _, Hpl.out, Own3.out, by rw [List.take_zero]; unfold Bm.pcs; rw [List.zipWith_nil_right]; exact PsS.nil, bb3, Nat.le_refl _, Xe.refl _, fun g hg => .inl (by have : w.heap.size = g := Option.some.inj hg; omega)⟩
  case round =>
   obtain ⟨A5, c5, vs, j, a, rfl, rfl, rfl, hj, hjv, hpl, hown, hps, bwr, z5, hxe, hA5⟩ := hrel
   have HA5 := ek hA5; have Hxe := ek hxe
   have hlow : ∀ g, ob A5 = some g → w.heap.size ≤ g := fun g hg => (oc_ob hown g hg).1
   have Hlow := ek hlow
   have hgw : w.heap.size < g6 := by have := Hg6.out; omega
   obtain ⟨y0, y1, y2, y3, y4, -, -, -, -, -, -⟩ := X3.out.keep z5 (hxe g6 (fun e => by have e2 : g6 = w.heap.size := Option.some.inj e; omega) hg6w)
   clear q0 q1 q2 q3 q4 hA5 hlow
   have hfin : PLS wr (Fr w.heap.size wr) A5 j c5 (Bm.pcs D (V.take j)) := ⟨vs, hown.rcS, hps.keep (stays_weak fun b hb => ⟨hb.1, hb.2.1⟩)⟩
   have hPl : (Bm.pcs D (V.take j)).length = j := by rw [Bm.pcs_len D _ (by rw [List.length_take, Hk.out]; omega), List.length_take]; omega
   by_cases hlt : j < k
   ·obtain ⟨f, hfx⟩ : ∃ f, D[j]? = some f := ⟨_, List.getElem?_eq_getElem (by rw [Hk.out]; exact hlt)⟩
    have hdj : D.drop j = f :: D.drop (j + 1) := by
     have hj2 : j < D.length := by rw [Hk.out]; exact hlt
     rw [List.drop_eq_getElem_cons hj2]
     rw [List.getElem?_eq_getElem hj2] at hfx
     injection hfx with hfx
     rw [hfx]
    have hvd := cts_drop l D j (by rw [← HV.out]; exact hjv)
    rw [← HV.out, hdj] at hvd
    rw [hdj] at hpl
    obtain ⟨hfa, hpl2⟩ := hpl
    have hm4 := Hm.out f (List.mem_of_getElem? hfx)
    obtain ⟨sz, hsz⟩ : ∃ a, a = f.sz := ⟨_, rfl⟩
    rw [← hsz] at hpl2
    obtain ⟨nb, no, nx, rfl, hnb, hnc, hnx, -⟩ := lvs_at (rows_xe S1.out (by omega) hxe (by omega)) hlt
    obtain ⟨zb, zo, zx, rfl, hzb, hzc, hzx⟩ := (rows_xe S2.out (by omega) hxe (by omega)).at_ hlt
    obtain ⟨ab, ao, ax, rfl, hab, hac, hax⟩ := (rows_xe S3.out (by omega) hxe (by omega)).at_ hlt
    have hnb1 := L1.out (by omega) nb no rfl
    have hab1 := L3.out (by omega) ab ao rfl
    clear hxe
    have hzx2 : zx = .int .i64 (sz : Int) := by
     unfold zvs at hzx
     rw [List.getElem?_map, hfx] at hzx
     injection hzx with hzx
     rw [hsz]; exact hzx.symm
    have hax2 : ax = .int .i64 (f.at_ : Int) := by
     unfold avs at hax
     rw [List.getElem?_map, hfx] at hax
     injection hax with hax
     exact hax.symm
    have hnx2 : nx = f.nm := by
     unfold ns at hnx
     rw [List.getElem?_map, hfx] at hnx
     injection hnx with hnx
     exact hnx.symm
    rw [hzx2] at hzc; rw [hax2] at hac; rw [hnx2] at hnc
    obtain ⟨T, hT⟩ : ∃ T, T = a + sz + 4 := ⟨_, rfl⟩
    have q1 : IntKind.i64.wrap ((a : Int) + (sz : Int)) = (a : Int) + (sz : Int) := IntWalk.i64_in _ (by omega)
    have q2 : IntKind.i64.wrap (T : Int) = (T : Int) := IntWalk.i64_in _ (by omega)
    have q2' : (a : Int) + (sz : Int) + 4 = (T : Int) := by omega
    by_cases hto : n < T
    ·have d1 : decide ((n : Int) < (T : Int)) = true := by simp; omega
     have hno : V.drop j = [] := by rw [← hvd]; exact Bm.cts_short _ (by rw [hfa, ← hsz, Hl.out]; omega)
     have hvj : V.length = j := by have := congrArg List.length hno; rw [List.length_drop] at this; simp at this; omega
     have hres := Bm.scS_miss HI.out (f := f) (by rw [← HV.out, hvj]; exact hfx)
     rw [← HV.out, hfa] at hres
     rw [List.take_of_length_le (by omega)] at hfin hPl
     have Hres := ek hres; have Hfin := ek hfin; have HPl := ek hPl; have HT := ek hT
     clear hres hfin hPl hvd hno hvj hown hps hfa hpl2 hm4 hsz hzx hax hnx hnx2 hzx2 hax2 hT hac hnc hfx hdj hjv
     go_wp2
     go_ret3
     rw [Hres.out]
     refine ⟨A5, c5, ?_, ?_, bwr⟩
     ·rw [← HPl.out]; rfl
     ·dsimp only
      rw [HPl.out]
      exact Hfin.out
    ·have d1 : decide ((n : Int) < (T : Int)) = false := by simp; omega
     obtain ⟨G, hG, hrG⟩ := bty.mid_ (Hr.out.below bwr) (i := a) (k := T) (by omega) (by omega) (a : Int) (T : Int) rfl rfl (T - a) rfl
     have hop := ropened_c G (T - a) (c - a) ((l.take T).drop a) wr (hrG.more bwr.size) (by omega)
     rcases hO : Cm.openS Cm.tab ((l.take T).drop a) with ⟨x, e⟩
     rw [hO] at hop
     have hlen : f.st + f.sz + 4 ≤ l.length := by rw [hfa, ← hsz, Hl.out]; omega
     have hO2 : Cm.openS Cm.tab ((l.take (f.st + f.sz + 4)).drop f.st) = (x, e) := by rw [hfa, ← hsz, ← hT]; exact hO
     by_cases he : e = 0
     ·subst he
      have hvj := Bm.cts_ok (D.drop (j + 1)) hlen hO2
      rw [hvd] at hvj
      have hvx : V[j]? = some x := by
       have := congrArg List.head? hvj
       rw [List.head?_drop] at this
       simpa using this
      have hjv2 : j < V.length := (List.getElem?_eq_some_iff.1 hvx).1
      have hpn := pcs_next D V j f x hfx hvx
      have hxl : x.length ≤ 90000 := by
       have := congrArg List.length (Bm.open_only hO)
       rw [Bm.sl_len, List.length_drop, List.length_take, Hl.out] at this
       omega
      obtain ⟨fa, hfa2⟩ : ∃ a, a = f.at_ := ⟨_, rfl⟩
      obtain ⟨fn, hfn⟩ : ∃ a, a = f.nm := ⟨_, rfl⟩
      have hfa9 : fa ≤ 2000000 := by rw [hfa2]; exact hm4.2.2.1
      rw [← hfa2] at hac; rw [← hfn] at hnc; rw [← hfa2, ← hfn] at hpn
      obtain ⟨xn, hxn⟩ : ∃ a, a = x.length := ⟨_, rfl⟩
      unfold RetE at hop
      simp only at hop
      rw [← hxn] at hop hxl
      have Hop := ek hop; have Hvk2 := ek hjv2; have Hpn := ek hpn; have Hown := ek hown; have Hps := ek hps; have HT := ek hT; have Hpl2 := ek hpl2; have Hxn := ek hxn
      have hAl := oc_lt hown
      have HAl := ek hAl
      clear hAl hop hjv2 hpn hown hps hO hO2 hvj hvx hvd hfin hPl hfa hpl2 hm4 hsz hzx hax hnx hnx2 hzx2 hax2 hfa2 hfn hT hlen hfx hdj hjv hrG hxn
      go_wp2_with fail
      refine Hop.out.mono ?_
      rintro e8 w8 ⟨X, cx, rfl, h8, b8⟩
      have z8 := b8.size
      have hsz3 := b1.size
      obtain ⟨W5, h5⟩ : ∃ W5, W5 = w8.alloc (.cells #[.string ⟨fn.toArray⟩, .string ⟨x.toArray⟩] 9) := ⟨_, rfl⟩
      obtain ⟨W6, h6⟩ : ∃ W6, W6 = W5.alloc (.cells #[.slice (some ⟨w8.heap.size, 0,none⟩) 2 2] 77) := ⟨_, rfl⟩
      obtain ⟨W7, h7⟩ : ∃ W7, W7 = W6.alloc (.cells #[.int .i64 (fa : Int), .slice (some ⟨w8.heap.size + 1, 0,none⟩) 1 1] 81) := ⟨_, rfl⟩
      have hw8 : w.heap.size ≤ w8.heap.size := by have := bwr.size; omega
      obtain ⟨z7, b7, hlit, hpr⟩ := piece_two w8 fn x fa A5 w.heap.size _ _ _ hw8 (fun g hg => Nat.lt_of_lt_of_le (HAl.out g hg) z8) W5 W6 W7 h5 h6 h7
      have b87 := b8.trans (b7.mono z8)
      have own7 := Hown.out.keep b87
      have ps7 := (Hps.out.keep (sf_below b87)).snoc hpr
      have hXn : ob X = none ∨ ob X ≠ ob A5 := nx_own h8 (fun g hg => HAl.out g hg) (Nat.le_refl _)
      have Hown7 := ek own7; have Hps7 := ek ps7; have Hlit := ek hlit; have H5 := ek h5; have H6 := ek h6; have H7 := ek h7; have H8 := ek h8; have HXn := ek hXn
      clear own7 ps7 hlit hpr h5 h6 h7 h8 hXn
      have hg6l : g6 < wr.heap.size := by omega
      have hnbl : nb < wr.heap.size := by omega
      have habl : ab < wr.heap.size := by omega
      have y0d : w8.drew.cell? ⟨g6, 0,none⟩ = some (.slice (some ⟨nb, no,none⟩) k c1) := (b8.cell (p := ⟨g6, 0,none⟩) hg6l).trans y0
      have y2d : w8.drew.cell? ⟨g6, 2,none⟩ = some (.slice (some ⟨ab, ao,none⟩) k c3) := (b8.cell (p := ⟨g6, 2,none⟩) hg6l).trans y2
      have ncd : w8.drew.cell? ⟨nb, no + j,none⟩ = some (.string ⟨fn.toArray⟩) := (b8.cell (p := ⟨nb, no + j,none⟩) hnbl).trans hnc
      have acd : w8.drew.cell? ⟨ab, ao + j,none⟩ = some (.int .i64 (fa : Int)) := (b8.cell (p := ⟨ab, ao + j,none⟩) habl).trans hac
      have ng6 : some g6 ≠ ob A5 := fun e => by have := HA5.out _ e.symm; omega
      have nnb : some nb ≠ ob A5 := fun e => by have := HA5.out _ e.symm; omega
      have nab : some ab ≠ ob A5 := fun e => by have := HA5.out _ e.symm; omega
      have hg68 : g6 < w8.heap.size := by omega
      have hnb8 : nb < w8.heap.size := by omega
      have hab8 : ab < w8.heap.size := by omega
      have hz5' : W5.heap.size = w8.heap.size + 1 := by rw [H5.out]; simp
      have hz6 : W6.heap.size = w8.heap.size + 2 := by rw [H6.out]; simp [hz5']
      have hx5 : Xe A5 w8.heap.size w8.drew (W5.drewN 1) := by
       have : Below w8.heap.size w8 W5 := by rw [H5.out]; exact ej _ _
       exact Xe.of ⟨this.os, this.tape, this.output, this.size, this.block⟩ (Nat.le_refl _)
      have hx6 : Xe A5 w8.heap.size (W5.drewN 1) (W6.drewN 1) := by
       have : Below w8.heap.size W5 W6 := by rw [H6.out]; exact (Below.refl _ _).alloc (by omega) _
       exact Xe.of ⟨this.os, this.tape, this.output, this.size, this.block⟩ (Nat.le_refl _)
      have hx7 : Xe A5 w8.heap.size (W6.drewN 1) (W7.drewN 1) := by
       have : Below w8.heap.size W6 W7 := by rw [H7.out]; exact (Below.refl _ _).alloc (by omega) _
       exact Xe.of ⟨this.os, this.tape, this.output, this.size, this.block⟩ (Nat.le_refl _)
      have hz7b : w.heap.size ≤ (W7.drewN 1).heap.size := by show _ ≤ W7.heap.size; omega
      have hz7c : w8.heap.size ≤ (W7.drewN 1).heap.size := by show _ ≤ W7.heap.size; omega
      go_upto_region 15 with fail
      refine Pl.wp_region_schedR (Xe A5 w8.heap.size) Xe.refl Xe.trans [(false, 0), (false, 1), (false, 2), (false, 3), (false, 4), (false, 5), (false, 6), (false, 7), (false, 8), (false, 9), (false, 10), (false, 11), (false, 12), (true, 13), (true, 14), (false, 15), (true, 16), (true, 17), (false, 18)] (by kernel_rfl) (by kernel_rfl) (by kernel_rfl) (by kernel_rfl) (fun _ _ d _ _ h => by cases d <;> exact h) ?_
      refine Pl.wpR_read (o := ⟨some 54, .move (.tmp 5), 67, "ref.go:73", #[],none⟩) (v := .slice A5 j c5) rfl (by rfl) ?_ ?_
      ·intro w' _; go_simp
      try simp only [Act.put, ep, eh, ei]
      refine Pl.wpR_read (o := ⟨some 55, .fieldAddr 131 (.tmp 6) 2, 0, "ref.go:73", #[],none⟩) (v := .pointer (some ⟨g6, 2,none⟩)) rfl (by rfl) ?_ ?_
      ·intro w' _; go_simp
      try simp only [Act.put, ep, eh, ei]
      refine Pl.wpR_read (o := ⟨some 56, .load 25 (.tmp 55), 25, "ref.go:73", #[⟨1, .data⟩],none⟩) (v := .slice (some ⟨ab, ao,none⟩) k c3) rfl (by rfl) ?_ ?_
      ·intro w' hw'; have hcl := (hw'.cell ⟨g6, 2,none⟩ ng6 hg68).trans y2d; go_simp
      try simp only [Act.put, ep, eh, ei]
      refine Pl.wpR_read (o := ⟨some 57, .move (.tmp 8), 3, "ref.go:73", #[],none⟩) (v := .int .i64 ((j : Int))) rfl (by rfl) ?_ ?_
      ·intro w' _; go_simp
      try simp only [Act.put, ep, eh, ei]
      refine Pl.wpR_read (o := ⟨some 58, .indexAddr 25 (.tmp 56) (.tmp 57), 0, "ref.go:73", #[⟨2, .data⟩,⟨3, .data⟩],none⟩) (v := .pointer (some ⟨ab, ao + j,none⟩)) rfl (by rfl) ?_ ?_
      ·intro w' _; go_simp
      try simp only [Act.put, ep, eh, ei]
      refine Pl.wpR_read (o := ⟨some 59, .load 3 (.tmp 58), 3, "ref.go:73", #[⟨4, .data⟩],none⟩) (v := .int .i64 ((fa : Int))) rfl (by rfl) ?_ ?_
      ·intro w' hw'; have hcl := (hw'.cell ⟨ab, ao + j,none⟩ nab hab8).trans acd; go_simp
      try simp only [Act.put, ep, eh, ei]
      refine Pl.wpR_read (o := ⟨some 60, .fieldAddr 131 (.tmp 6) 0, 0, "ref.go:73", #[],none⟩) (v := .pointer (some ⟨g6, 0,none⟩)) rfl (by rfl) ?_ ?_
      ·intro w' _; go_simp
      try simp only [Act.put, ep, eh, ei]
      refine Pl.wpR_read (o := ⟨some 61, .load 76 (.tmp 60), 76, "ref.go:73", #[⟨6, .data⟩],none⟩) (v := .slice (some ⟨nb, no,none⟩) k c1) rfl (by rfl) ?_ ?_
      ·intro w' hw'; have hcl := (hw'.cell ⟨g6, 0,none⟩ ng6 hg68).trans y0d; go_simp
      try simp only [Act.put, ep, eh, ei]
      refine Pl.wpR_read (o := ⟨some 62, .move (.tmp 8), 3, "ref.go:73", #[],none⟩) (v := .int .i64 ((j : Int))) rfl (by rfl) ?_ ?_
      ·intro w' _; go_simp
      try simp only [Act.put, ep, eh, ei]
      refine Pl.wpR_read (o := ⟨some 63, .indexAddr 76 (.tmp 61) (.tmp 62), 0, "ref.go:73", #[⟨7, .data⟩,⟨8, .data⟩],none⟩) (v := .pointer (some ⟨nb, no + j,none⟩)) rfl (by rfl) ?_ ?_
      ·intro w' _; go_simp
      try simp only [Act.put, ep, eh, ei]
      refine Pl.wpR_read (o := ⟨some 64, .load 9 (.tmp 63), 9, "ref.go:73", #[⟨9, .data⟩],none⟩) (v := .string ⟨fn.toArray⟩) rfl (by rfl) ?_ ?_
      ·intro w' hw'; have hcl := (hw'.cell ⟨nb, no + j,none⟩ nnb hnb8).trans ncd; go_simp
      try simp only [Act.put, ep, eh, ei]
      refine Pl.wpR_read (o := ⟨some 65, .move (.tmp 10), 22, "ref.go:73", #[],none⟩) (v := .slice X xn cx) rfl (by rfl) ?_ ?_
      ·intro w' _; go_simp
      try simp only [Act.put, ep, eh, ei]
      refine Pl.wpR_read (o := ⟨some 66, .convert 22 9 (.tmp 65), 9, "ref.go:73", #[⟨11, .data⟩],none⟩) (v := .string ⟨x.toArray⟩) rfl (by rfl) ?_ ?_
      ·intro w' hw'; have hcv := bty.conv (P := Tryz.prog) (own_xe (H8.out.drewN 1) hw' (Nat.le_refl _) HXn.out).rb; rw [← Hxn.out] at hcv; go_simp
      try simp only [Act.put, ep, eh, ei]
      refine Pl.wpR_make (o := ⟨some 67, .buildSlice 77 2 #[(0, .tmp 64), (1, .tmp 66)], 77, "ref.go:73", #[⟨10, .data⟩,⟨12, .data⟩],none⟩) (v := .slice (some ⟨w8.heap.size, 0,none⟩) 2 2) (w1 := W5.drewN 1) rfl (by rfl) ?_ ?_ ?_
      ·rw [H5.out]; go_simp; rfl
      ·exact hx5
      try simp only [Act.put, ep, eh, ei]
      refine Pl.wpR_make (o := ⟨some 68, .buildSlice 30 1 #[(0, .tmp 67)], 30, "ref.go:73", #[⟨13, .data⟩],none⟩) (v := .slice (some ⟨w8.heap.size + 1, 0,none⟩) 1 1) (w1 := W6.drewN 1) rfl (by rfl) ?_ ?_ ?_
      ·rw [H6.out]; go_simp; rfl
      ·exact hx6
      try simp only [Act.put, ep, eh, ei]
      refine Pl.wpR_read (o := ⟨some 69, .build 81 #[(0, .tmp 59), (1, .tmp 68)], 81, "ref.go:73", #[⟨5, .data⟩,⟨14, .data⟩],none⟩) (v := .agg #[.int .i64 (fa : Int), .slice (some ⟨w8.heap.size + 1, 0,none⟩) 1 1]) rfl (by rfl) ?_ ?_
      ·intro w' _; go_simp
      try simp only [Act.put, ep, eh, ei]
      refine Pl.wpR_make (o := ⟨some 70, .buildSlice 67 1 #[(0, .tmp 69)], 67, "ref.go:73", #[⟨15, .data⟩],none⟩) (v := .slice (some ⟨w8.heap.size + 2, 0,none⟩) 1 1) (w1 := W7.drewN 1) rfl (by rfl) ?_ ?_ ?_
      ·rw [H7.out]; go_simp; rfl
      ·exact hx7
      try simp only [Act.put, ep, eh, ei]
      refine Pl.wpR_call (o := ⟨some 71, .call { callee := .builtin .append, args := #[.tmp 54, .tmp 70], argTypes := #[67, 67] }, 67, "ref.go:73", #[⟨0, .data⟩,⟨16, .data⟩],none⟩) rfl (by rfl) (fun K hK => ?_)
      refine Sl.opAppAt pty (.tmp 54) (.tmp 70) rfl (n := j) (m := 1) (N := j + 1) (ws := vs ++ [.int .i64 (fa : Int), .slice (some ⟨w8.heap.size + 1, 0,none⟩) 1 1]) rfl rfl (Hown7.out.drewN 1) (Hlit.out.drewN 1) (by simp [Value.oneCell']) rfl rfl (by omega) (by omega) hz7b ?_
      intro A9 c9 w9 hown9 hg9
      refine hK.out _ _ (Xe.grows hg9 hz7c) ?_
      clear hK K
      try simp only [Act.put, ep, eh, ei]
      refine Pl.wpR_read (o := ⟨some 5, .assign (.tmp 71), 67, "ref.go:73", #[⟨17, .data⟩,⟨17, .chain⟩,⟨0, .phase⟩,⟨1, .phase⟩,⟨2, .phase⟩,⟨3, .phase⟩,⟨4, .phase⟩,⟨5, .phase⟩,⟨6, .phase⟩,⟨7, .phase⟩,⟨8, .phase⟩,⟨9, .phase⟩,⟨10, .phase⟩,⟨11, .phase⟩,⟨12, .phase⟩,⟨13, .phase⟩,⟨14, .phase⟩,⟨15, .phase⟩,⟨16, .phase⟩,⟨17, .phase⟩],none⟩) (v := .slice A9 (j + 1) c9) rfl (by rfl) ?_ ?_
      ·intro w' _; go_simp
      try simp only [Act.put, ep, eh, ei]
      refine Pl.wpR_done ?_
      have bx := hg9.belowC (Hown7.out.drewN 1) hz7b
      have bW7 : Below w.heap.size w (W7.drewN 1) := below_drewN (bwr.trans (b87.mono bwr.size)) 1
      have bW := bW7.trans bx
      have hz9 : w3.heap.size ≤ w9.heap.size := by have h1 : (W7.drewN 1).heap.size ≤ w9.heap.size := bx.size; have h2 : w8.heap.size ≤ (W7.drewN 1).heap.size := hz7c; omega
      have hxW : Xe (some ⟨w.heap.size, 0,none⟩) w3.heap.size w3 w9 := fun g h1 h2 => by
       have hne : some g ≠ ob A5 := fun e => by
        have e1 := HA5.out g e.symm
        have e2 := Hlow.out g e.symm
        exact h1 (by show some g = some w.heap.size; congr 1; omega)
       have e3 := b87.block g (by omega)
       have e4 := Hxe.out g h1 h2
       have e5 : w9.heap[g]? = (W7.drewN 1).heap[g]? := hg9.heap g (by have h2 : w8.heap.size ≤ (W7.drewN 1).heap.size := hz7c; omega) hne
       exact e5.trans (e3.trans e4)
      have hps9 := (Hps7.out.keep (w' := W7.drewN 1) (S' := Sf w.heap.size (W7.drewN 1) A5) ⟨fun _ h => h, fun _ _ => rfl⟩).keep (sf_grow hg9)
      rw [← Hpn.out] at hps9
      have hA9 : ∀ g, ob A9 = some g → g ≤ w.heap.size ∨ w3.heap.size ≤ g := fun g hg => by
       rcases hg9.2 with q | ⟨g', q, hlt'⟩
       ·exact HA5.out g (by rw [← q]; exact hg)
       ·rw [q] at hg
        injection hg with hg
        have : W7.heap.size ≤ g' := hlt'
        omega
      have Hown9 := ek hown9; have Hps9 := ek hps9; have HA9 := ek hA9; have HxW := ek hxW; have BW := ek bW
      clear hown9 hps9 hA9 hxW bW bx bW7 hg9 b7 b87 y0 y1 y2 y3 y4 y0d y2d ncd acd
      go_wp2
      go_roundw
      case rel => exact ⟨A9, c9, _, j + 1, T, rfl, rfl, by go_num, by omega, Hvk2.out, by rw [HT.out]; exact Hpl2.out, Hown9.out, Hps9.out, BW.out, hz9, HxW.out, HA9.out⟩
      case measure => simp [intOf]; omega
     ·have d3 : ((e : Int) != 0) = true := by simpa using he
      have hno : V.drop j = [] := by rw [← hvd]; exact Bm.cts_bad _ hlen hO2 he
      have hvj : V.length = j := by have := congrArg List.length hno; rw [List.length_drop] at this; simp at this; omega
      have hres := Bm.scS_miss HI.out (f := f) (by rw [← HV.out, hvj]; exact hfx)
      rw [← HV.out, hfa] at hres
      rw [List.take_of_length_le (by omega)] at hfin hPl
      have hop2 := hop
      unfold RetE at hop2
      simp only at hop2
      obtain ⟨xn, hxn⟩ : ∃ a, a = x.length := ⟨_, rfl⟩
      rw [← hxn] at hop2
      have Hres := ek hres; have Hfin := ek hfin; have HPl := ek hPl; have HT := ek hT; have Hop := ek hop2
      clear hop2 hop hO hO2 hres hfin hPl hvd hno hvj hown hps hfa hpl2 hm4 hsz hzx hax hnx hnx2 hzx2 hax2 hT hac hnc hlen hfx hdj hjv hrG hxn
      go_wp2_with fail
      refine Hop.out.mono ?_
      rintro e8 w8 ⟨A8, c8, rfl, -, b8⟩
      go_wp2
      go_ret3
      rw [Hres.out]
      refine ⟨A5, c5, ?_, ?_, bwr.trans (b8.mono bwr.size)⟩
      ·rw [← HPl.out]; rfl
      ·dsimp only
       rw [HPl.out]
       have hF := Hfin.out
       exact hF.keep ⟨fun b hb => ⟨hb.1, Nat.lt_of_lt_of_le hb.2 b8.size⟩, fun p hp => b8.cell hp.2⟩
   ·have hjk : j = k := by omega
    subst hjk
    clear hxe
    have hvl : V.length = j := by have := Hvk.out; omega
    have hend : D.drop j = [] := List.drop_of_length_le (by rw [Hk.out]; exact Nat.le_refl _)
    rw [hend] at hpl
    have hae : en = a := hpl
    subst hae
    rw [List.take_of_length_le (by omega)] at hfin hPl
    by_cases hen2 : en < n
    ·have hres := Bm.scS_left HI.out (by rw [← HV.out, hvl, Hk.out]; exact Nat.le_refl _) (by rw [Hl.out]; exact hen2)
     rw [← HV.out] at hres
     have Hres := ek hres; have Hfin := ek hfin; have HPl := ek hPl
     have de : decide ((en : Int) < (n : Int)) = true := by simp; omega
     clear hres hfin hPl hvl hend hpl hown hps hjv
     go_wp2
     go_ret3
     rw [Hres.out]
     refine ⟨A5, c5, ?_, ?_, bwr⟩
     ·rw [← HPl.out]; rfl
     ·dsimp only
      rw [HPl.out]
      exact Hfin.out
    ·have hres := Bm.scS_good HI.out (by rw [← HV.out, hvl, Hk.out]; exact Nat.le_refl _) (by rw [Hl.out]; exact hen2)
     rw [← HV.out] at hres
     have Hres := ek hres; have Hfin := ek hfin; have HPl := ek hPl
     have de : decide ((en : Int) < (n : Int)) = false := by simp; omega
     clear hres hfin hPl hvl hend hpl hown hps hjv
     go_wp2
     go_ret3
     rw [Hres.out]
     refine ⟨A5, c5, ?_, ?_, bwr⟩
     ·rw [← HPl.out]; rfl
     ·dsimp only
      rw [HPl.out]
      exact Hfin.out
end Go.Proofs.YtkekmokdlgocaaaGreatDoor.Bun
