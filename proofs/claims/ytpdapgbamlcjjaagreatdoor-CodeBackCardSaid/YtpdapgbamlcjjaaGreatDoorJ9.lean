/-
  Joined: Rq Rs1 Rt1 Rv1 Ru1.
-/
import Derived.Test.YtpdapgbamlcjjaaGreatDoorJ8
import Derived.Lib.Bytealg
import Derived.Deep.MidRow
/-
  strings.(*trieNode).add where a node with one child is parted.
-/
namespace Go.Proofs.YtpdapgbamlcjjaaGreatDoor
open Go.RowKit Vl

theorem full_of {K : ByteArray} (h : 0 < K.size) : K.toList.isEmpty = false := by
  rw [Lib.toList_data]
  have := str_len K
  cases hh : K.data.toList with
  | nil => rw [hh] at this; simp at this; omega
  | cons _ _ => rfl
theorem nty : Sl Tryz.prog 147 146 (.pointer none) 1 8 := ⟨Tryz.underlying147, by kernel_rfl, rfl, by omega⟩
theorem nmake (w : World) : (Instr.makeSlice 147 (.int .i64 3) (.int .i64 3)).run Tryz.prog w = .ok (.slice (some ⟨w.heap.size, 0, none⟩) 3 3) (w.alloc (.cells #[np, np, np] 146)) := by
  obtain ⟨i, hi, hz0, hz1, hz2⟩ := info_parts nty.inf
  have h := run_make (P := Tryz.prog) w 147 146 i (.pointer none) nty.sl hi hz0 .i64 .i64 3 3 (by omega) (by omega) (by rw [hz2]; omega) (by omega)
  simp only [hz1] at h
  rw [h]
  have e1 : madeCells (Value.pointer none).cells 3 = #[np, np, np] := by
    apply Array.toList_inj.1
    have hcells : (Value.pointer none).cells = #[.pointer none] := rfl
    rw [hcells, toList_madeCells_one]
    rfl
  rw [show (3 : Int).toNat * 1 = 3 from rfl, e1]; rfl

set_option maxRecDepth 100000 in
set_option maxHeartbeats 4000000 in
theorem addS_c (b g kb : Nat) (K PF V : ByteArray) (p : Int) (v0 v1 : Value) (w : World) (h : B5 w b v0 v1 (.string PF) (pt kb) ns)
    (sK : K.size = 1) (xK : (K[0]'(by omega)).toNat = 34) (sP : PF.size = 1) (xP : (PF[0]'(by omega)).toNat = 92)
    (g5 : w.cell? ⟨g, 5, none⟩ = some (.int .i64 3)) (g34 : w.cell? ⟨g, 40, none⟩ = some (.int .u8 0)) (g92 : w.cell? ⟨g, 98, none⟩ = some (.int .u8 1)) (hg : g < w.heap.size) (hgb : g ≠ b) :
    Calls Tryz.prog 105 #[pt b, .string K, .string V, .int .i64 p, pt g] w fun e w' => e = .returned (.tuple #[]) ∧
      ∃ k t, w.heap.size ≤ k ∧ w.heap.size ≤ t ∧ k ≠ t ∧ B5 w' b v0 v1 em np (.slice (some ⟨t, 0, none⟩) 3 3) ∧ B5 w' k (.string V) (.int .i64 p) em np ns ∧
        Blk w' t 3 (fun j => if j = 0 then pt k else if j = 1 then pt kb else np) ∧ Chg (· = b) w w' := by
  have q2 := h.c2; have q3 := h.c3; have q4 := h.c4; have f2 := h.fz 2; have f3 := h.fz 3; have f4 := h.fz 4
  have hlt := h.lt
  have pK : 0 < K.size := by omega
  have pP : 0 < PF.size := by omega
  have nm := nmake
  have eK := full_of pK
  have eP := full_of pP
  have xx : K.extract 1 K.size = ⟨#[]⟩ := by rw [sK]; apply str_eq; simp
  have H := Lib.hid h; have Hlt := Lib.hid hlt
  clear h
  go_enter Tryz.func105, Tryz.ntmps105
  go_wp2
  go_loopw [10] (fun n wr => n = .int .i64 0 ∧ wr = w) (fun _ _ => 0)
  case atStart => exact ⟨rfl, rfl⟩
  case round =>
    obtain ⟨rfl, rfl⟩ := hrel
    have dK : decide ((0 : Int) < (K.size : Int)) = true := by simp; omega
    have dP : decide ((0 : Int) < (PF.size : Int)) = true := by simp; omega
    go_wp2
    go_quiet (fail)
    obtain ⟨wA, hwA⟩ : ∃ wA, wA = (wr.drewN nq).alloc (.cells #[em, .int .i64 0, em, np, ns] 149) := ⟨_, rfl⟩
    have zA : wA.heap.size = wr.heap.size + 1 := by rw [hwA]; simp
    have cA : Chg (fun x => x = b) wr wA := by rw [hwA]; exact ((Chg.refl _ _).drewN nq).alloc _
    have nA : B5 wA wr.heap.size em (.int .i64 0) em np ns := by rw [hwA]; exact B5.made (wr.drewN nq) _ _ _ _ _ _
    have bA : B5 wA b v0 v1 (.string PF) (pt kb) ns := by rw [hwA]; exact ((H.out.drewN nq)).below ((Below.refl _ _).alloc (Nat.le_refl _) _) Hlt.out
    have gA : ∀ k, wA.cell? ⟨g, k, none⟩ = wr.cell? ⟨g, k, none⟩ := fun k => by
      have := cA.block g hg hgb
      unfold World.cell?; rw [this]
    obtain ⟨wB, hwB⟩ : ∃ wB, wB = wA.alloc (.cells #[np, np, np] 146) := ⟨_, rfl⟩
    have mB := nmake wA
    rw [← hwB] at mB
    have bbB : Below wA.heap.size wA wB := by rw [hwB]; exact (Below.refl _ _).alloc (Nat.le_refl _) _
    have cB : Chg (fun x => x = b) wr wB := by rw [hwB]; exact cA.alloc _
    have tB : Blk wB wA.heap.size 3 (fun _ => np) := by
      rw [hwB]; exact Blk.made _ _ _ _ _ fun j hj => by
        rcases (show j = 0 ∨ j = 1 ∨ j = 2 by omega) with rfl | rfl | rfl <;> rfl
    have nB := nA.below bbB nA.lt
    have bB := bA.below bbB bA.lt
    have gB : ∀ k, wB.cell? ⟨g, k, none⟩ = wr.cell? ⟨g, k, none⟩ := fun k => by
      have := cB.block g hg hgb
      unfold World.cell?; rw [this]
    obtain ⟨wC, hwC⟩ : ∃ wC, wC = wB.setCell ⟨b, 4, none⟩ (.slice (some ⟨wA.heap.size, 0, none⟩) 3 3) := ⟨_, rfl⟩
    have bC : B5 wC b v0 v1 (.string PF) (pt kb) (.slice (some ⟨wA.heap.size, 0, none⟩) 3 3) := by
      have := bB.set 4 (.slice (some ⟨wA.heap.size, 0, none⟩) 3 3)
      simp only [reduceIte, Nat.reduceEqDiff] at this
      rw [hwC]; exact this
    have cC : Chg (fun x => x = b) wr wC := by rw [hwC]; exact cB.set b 4 _ (.inl rfl)
    have oC : Chg (fun x => x = b) wB wC := by rw [hwC]; exact (Chg.refl _ _).set b 4 _ (.inl rfl)
    have hlt := Hlt.out
    have tC : Blk wC wA.heap.size 3 (fun _ => np) := oC.blk tB (by omega)
    have nC := oC.b5 nB (by omega)
    have gC : ∀ k, wC.cell? ⟨g, k, none⟩ = wr.cell? ⟨g, k, none⟩ := fun k => by
      have := cC.block g hg hgb
      unfold World.cell?; rw [this]
    have ga := (gA 5).trans g5
    have fb4 := bB.fz 4
    have qb4 := bB.c4
    have cb4 := bC.c4
    have cb2 := bC.c2
    have cg1 := (gC 98).trans g92
    have cg2 := (gC 40).trans g34
    have ct0 := tC.c 0 (by omega)
    have ct1 := tC.c 1 (by omega)
    have ft0 := tC.fz 0
    have ft1 := tC.fz 1
    have WA := Lib.hid hwA; have WB := Lib.hid hwB; have WC := Lib.hid hwC; have BC := Lib.hid bC; have TC := Lib.hid tC; have NC := Lib.hid nC; have CC := Lib.hid cC; have ZA := Lib.hid zA
    clear hwA hwB hwC zA cA nA bA gA bbB cB tB nB bB gB bC cC oC hlt tC nC gC f2 f3 f4 q4 nm
    go_wp2_with (first | rw [← WA.out] | rw [← WC.out])
    obtain ⟨wD, hwD⟩ : ∃ wD, wD = (wC.setCell ⟨wA.heap.size, 1, none⟩ (pt kb)).drew := ⟨_, rfl⟩
    have zA := ZA.out
    have hlt := Hlt.out
    have oD : Chg (fun x => x = wA.heap.size) wC wD := by rw [hwD]; exact ((Chg.refl (fun x => x = wA.heap.size) wC).set _ 1 _ (.inl rfl)).drewN 1
    have cD : Chg (fun x => x = b) wr wD := by rw [hwD]; exact (CC.out.set _ 1 _ (.inr (by omega))).drewN 1
    have bD := oD.b5 BC.out (by omega)
    have nD := oD.b5 NC.out (by omega)
    have tD : Blk wD wA.heap.size 3 (fun j => if j = 1 then pt kb else np) := by rw [hwD]; exact (TC.out.set 1 (pt kb)).drewN 1
    have gD : ∀ k, wD.cell? ⟨g, k, none⟩ = wr.cell? ⟨g, k, none⟩ := fun k => by
      have := cD.block g hg hgb
      unfold World.cell?; rw [this]
    obtain ⟨wE, hwE⟩ : ∃ wE, wE = (wD.setCell ⟨wA.heap.size, 0, none⟩ (pt wr.heap.size)).drew := ⟨_, rfl⟩
    have oE : Chg (fun x => x = wA.heap.size) wD wE := by rw [hwE]; exact ((Chg.refl (fun x => x = wA.heap.size) wD).set _ 0 _ (.inl rfl)).drewN 1
    have cE : Chg (fun x => x = b) wr wE := by rw [hwE]; exact (cD.set _ 0 _ (.inr (by omega))).drewN 1
    have bE := oE.b5 bD (by omega)
    have nE := oE.b5 nD (by omega)
    have tE : Blk wE wA.heap.size 3 (fun j => if j = 0 then pt wr.heap.size else if j = 1 then pt kb else np) := by rw [hwE]; exact (tD.set 0 (pt wr.heap.size)).drewN 1
    obtain ⟨wG, hwG⟩ : ∃ wG, wG = (wE.setCell ⟨b, 2, none⟩ em).setCell ⟨b, 3, none⟩ np := ⟨_, rfl⟩
    have oG : Chg (fun x => x = b) wE wG := by rw [hwG]; exact ((Chg.refl (fun x => x = b) wE).set b 2 _ (.inl rfl)).set b 3 _ (.inl rfl)
    have cG := cE.trans oG
    have bG : B5 wG b v0 v1 em np (.slice (some ⟨wA.heap.size, 0, none⟩) 3 3) := by
      have := (bE.set 2 em).set 3 np
      simp only [reduceIte, Nat.reduceEqDiff] at this
      rw [hwG]; exact this
    have nG := oG.b5 nE (by omega)
    have tG := oG.blk tE (by omega)
    have hE := addE_c wr.heap.size V p (pt g) em np ns wG nG
    have db4 := bD.c4
    have dg := (gD 40).trans g34
    have dt0 := tD.c 0 (by omega)
    have dft := tD.fz 0
    have eb2 := bE.c2
    have ef2 := bE.fz 2
    have eb3 := (bE.set 2 em).c3
    have ef3 := (bE.set 2 em).fz 3
    simp only [reduceIte, Nat.reduceEqDiff] at dt0 eb3
    have WD := Lib.hid hwD; have WE := Lib.hid hwE; have WG := Lib.hid hwG; have HE := Lib.hid hE; have BG := Lib.hid bG; have NG := Lib.hid nG; have TG := Lib.hid tG; have CG := Lib.hid cG
    clear hwD hwE hwG hE bG nG tG cG oG tE nE bE cE oE gD tD nD bD cD oD zA hlt
    go_region
    all_goals
      rw [← WD.out]
      go_wp2
      go_region
      all_goals
        rw [← WE.out]
        go_wp2_with (rw [← WG.out])
        refine HE.out.mono ?_
        rintro e w2 ⟨rfl, rfl⟩
        go_wp2
        first | go_end0 | refine bodyPost_ret (results_none rfl _ _ _) rfl ?_
        have hfin : ∃ w2, w2 = (wG.setCell ⟨wr.heap.size, 0, none⟩ (.string V)).setCell ⟨wr.heap.size, 1, none⟩ (.int .i64 p) := ⟨_, rfl⟩
        obtain ⟨w2, hw2⟩ := hfin
        rw [← hw2]
        have zA := ZA.out
        have hlt := Hlt.out
        have o2 : Chg (fun x => x = wr.heap.size) wG w2 := by rw [hw2]; exact ((Chg.refl (fun x => x = wr.heap.size) wG).set _ 0 _ (.inl rfl)).set _ 1 _ (.inl rfl)
        have c2 : Chg (fun x => x = b) wr w2 := by rw [hw2]; exact (CG.out.set _ 0 _ (.inr (Nat.le_refl _))).set _ 1 _ (.inr (Nat.le_refl _))
        refine ⟨rfl, wr.heap.size, wA.heap.size, Nat.le_refl _, by omega, by omega, o2.b5 BG.out (by omega), ?_, o2.blk TG.out (by omega), c2⟩
        have := (NG.out.set 0 (.string V)).set 1 (.int .i64 p)
        simp only [reduceIte, Nat.reduceEqDiff] at this
        rw [hw2]; exact this
end Go.Proofs.YtpdapgbamlcjjaaGreatDoor

/-
  strings.(*trieNode).add where a node has a table.
-/
namespace Go.Proofs.YtpdapgbamlcjjaaGreatDoor
open Go.RowKit Vl

theorem Blk.cell_eq {w w' : World} {g N : Nat} {F : Nat → Value} (h : Blk w g N F) (hg : w'.heap[g]? = w.heap[g]?) (j : Nat) (hj : j < N) : w'.cell? ⟨g, j, none⟩ = some (F j) := by
  unfold World.cell?; rw [hg]; exact h.c j hj

set_option maxRecDepth 100000 in
set_option maxHeartbeats 4000000 in
theorem addT1_c (b g t m kc : Nat) (K K' V : ByteArray) (p : Int) (v0 v1 v3 : Value) (T : Nat → Value) (S' : Nat → Prop) (R : World → World → Prop) (w : World)
    (h : B5 w b v0 v1 em v3 (.slice (some ⟨t, 0, none⟩) 3 3)) (pK : 0 < K.size) (xK : (K[0]'pK).toNat = kc) (xx : K.extract 1 K.size = K')
    (hm : m < 3) (gm : w.cell? ⟨g, 6 + kc, none⟩ = some (.int .u8 (m : Int)))
    (ht : Blk w t 3 T) (hTm : T m = np) (hbt : b ≠ t) (hkc : kc < 256) (hS1 : ¬ S' b) (hS2 : ¬ S' t)
    (hrec : ∀ W, Chg (fun x => x = t) w W → B5 W w.heap.size em (.int .i64 0) em np ns → Calls Tryz.prog 105 #[pt w.heap.size, .string K', .string V, .int .i64 p, pt g] W fun e w' => e = .returned (.tuple #[]) ∧ Chg S' W w' ∧ R W w') :
    Calls Tryz.prog 105 #[pt b, .string K, .string V, .int .i64 p, pt g] w fun e w' => e = .returned (.tuple #[]) ∧
      ∃ W, Chg (fun x => x = t) w W ∧ B5 W w.heap.size em (.int .i64 0) em np ns ∧ Blk W t 3 (fun j => if j = m then pt w.heap.size else T j) ∧ Chg S' W w' ∧ R W w' := by
  have q2 := h.c2; have q4 := h.c4
  have hlt := h.lt
  have eK := full_of pK
  have qt := ht.c m hm
  rw [hTm] at qt
  have ft := ht.fz m
  have htl := ht.lt
  have k1 : (1 : Int) ≤ (K.size : Int) := by omega
  have k2 : (0 : Int) ≤ (K.size : Int) := by omega
  have k3 : 1 ≤ K.size := by omega
  have m1 : (m : Int) < 3 := by omega
  have m2 : (0 : Int) ≤ (m : Int) := by omega
  have m3 : ¬ ((m : Int) < 0) := by omega
  have m4 : ¬ (3 ≤ (m : Int)) := by omega
  have nn : ∀ (A : Option Addr) (n c : Nat) (W : World), (binOp .neq 147 (.slice A n c) (.slice none 0 0)).run Tryz.prog W = .ok (.bool (!A.isNone)) W := fun A n c W => run_neq_slice_nil W 147 146 A n c Tryz.underlying147
  have nn := nn (some ⟨t, 0, none⟩) 3 3
  have H := Lib.hid h; have Hrec := Lib.hid hrec; have HT := Lib.hid ht
  clear h hrec ht
  go_enter Tryz.func105, Tryz.ntmps105
  go_wp2
  go_quiet (fail)
  obtain ⟨W0, hW0⟩ : ∃ W0, W0 = (w.drewN nq).alloc (.cells #[em, .int .i64 0, em, np, ns] 149) := ⟨_, rfl⟩
  have c0 : Chg (fun x => x = t) w W0 := by rw [hW0]; exact ((Chg.refl _ _).drewN nq).alloc _
  have b0 : Chg (fun _ => False) w W0 := by rw [hW0]; exact ((Chg.refl _ _).drewN nq).alloc _
  have z0 : W0.heap.size = w.heap.size + 1 := by rw [hW0]; simp
  have n0 : B5 W0 w.heap.size em (.int .i64 0) em np ns := by rw [hW0]; exact B5.made (w.drewN nq) _ _ _ _ _ _
  have t0 := b0.blk HT.out (fun q => q)
  have h0 := b0.b5 H.out (fun q => q)
  obtain ⟨W1, hW1⟩ : ∃ W1, W1 = W0.setCell ⟨t, m, none⟩ (pt w.heap.size) := ⟨_, rfl⟩
  have c1 : Chg (fun x => x = t) w W1 := by rw [hW1]; exact c0.set t m _ (.inl rfl)
  have o1 : Chg (fun x => x = t) W0 W1 := by rw [hW1]; exact (Chg.refl (fun x => x = t) W0).set t m _ (.inl rfl)
  have t1 : Blk W1 t 3 (fun j => if j = m then pt w.heap.size else T j) := by rw [hW1]; exact t0.set m (pt w.heap.size)
  have n1 := o1.b5 n0 (by omega)
  have h1 := o1.b5 h0 hbt
  have r0 := t0.c m hm
  rw [hTm] at r0
  have f0 := t0.fz m
  have r1 := t1.c m hm
  rw [if_pos rfl] at r1
  have s1 := h1.c4
  have s0 := h0.c4
  have W0h := Lib.hid hW0; have W1h := Lib.hid hW1; have C1 := Lib.hid c1; have N1 := Lib.hid n1; have T1 := Lib.hid t1; have H1 := Lib.hid h1
  clear hW0 hW1 c0 b0 z0 n0 t0 h0 c1 o1 t1 n1 h1 ft
  go_wp2_with (first | rw [← W1h.out] | rw [← W0h.out])
  go_region_held3 (fun w' => w'.cell? ⟨b, 4, none⟩ = some (.slice (some ⟨t, 0, none⟩) 3 3) ∧ w'.cell? ⟨t, m, none⟩ = some (pt w.heap.size)) (go_keep) (first | (go_at_call 105; refine (Hrec.out _ ?_ ?_).mono ?_; exact C1.out.drewN 1; exact N1.out.drewN 1; rintro e w4 ⟨rfl, hc4, hr4⟩; have e1 : w4.cell? ⟨b, 4, none⟩ = some (.slice (some ⟨t, 0, none⟩) 3 3) := (hc4.b5 (H1.out.drewN 1) hS1).c4; have e2 : w4.cell? ⟨t, m, none⟩ = some (pt w.heap.size) := by { have q := (hc4.blk (T1.out.drewN 1) hS2).c m hm; rw [if_pos rfl] at q; exact q }))
  go_wp2
  first | go_end0 | refine bodyPost_ret (results_none rfl _ _ _) rfl ?_
  exact ⟨rfl, W1.drew, C1.out.drewN 1, N1.out.drewN 1, T1.out.drewN 1, hc4, hr4⟩

set_option maxRecDepth 100000 in
set_option maxHeartbeats 4000000 in
theorem addT2_c (b g t m kc : Nat) (K K' V : ByteArray) (p : Int) (v0 v1 v3 : Value) (T : Nat → Value) (S' : Nat → Prop) (R : World → World → Prop) (w : World)
    (h : B5 w b v0 v1 em v3 (.slice (some ⟨t, 0, none⟩) 3 3)) (pK : 0 < K.size) (xK : (K[0]'pK).toNat = kc) (xx : K.extract 1 K.size = K')
    (hm : m < 3) (gm : w.cell? ⟨g, 6 + kc, none⟩ = some (.int .u8 (m : Int)))
    (ht : Blk w t 3 T) (ch : Nat) (hTm : T m = pt ch) (hkc : kc < 256) (hS1 : ¬ S' b) (hS2 : ¬ S' t)
    (hrec : ∀ W, Chg (fun _ => False) w W → Calls Tryz.prog 105 #[pt ch, .string K', .string V, .int .i64 p, pt g] W fun e w' => e = .returned (.tuple #[]) ∧ Chg S' W w' ∧ R W w') :
    Calls Tryz.prog 105 #[pt b, .string K, .string V, .int .i64 p, pt g] w fun e w' => e = .returned (.tuple #[]) ∧
      ∃ W, Chg (fun _ => False) w W ∧ Chg S' W w' ∧ R W w' := by
  have q2 := h.c2; have q4 := h.c4
  have hlt := h.lt
  have eK := full_of pK
  have qt := ht.c m hm
  rw [hTm] at qt
  have ft := ht.fz m
  have htl := ht.lt
  have k1 : (1 : Int) ≤ (K.size : Int) := by omega
  have k2 : (0 : Int) ≤ (K.size : Int) := by omega
  have k3 : 1 ≤ K.size := by omega
  have m1 : (m : Int) < 3 := by omega
  have m2 : (0 : Int) ≤ (m : Int) := by omega
  have m3 : ¬ ((m : Int) < 0) := by omega
  have m4 : ¬ (3 ≤ (m : Int)) := by omega
  have nn : ∀ (A : Option Addr) (n c : Nat) (W : World), (binOp .neq 147 (.slice A n c) (.slice none 0 0)).run Tryz.prog W = .ok (.bool (!A.isNone)) W := fun A n c W => run_neq_slice_nil W 147 146 A n c Tryz.underlying147
  have nn := nn (some ⟨t, 0, none⟩) 3 3
  have H := Lib.hid h; have Hrec := Lib.hid hrec; have HT := Lib.hid ht
  clear h hrec ht
  go_enter Tryz.func105, Tryz.ntmps105
  go_wp2
  go_quiet (fail)
  obtain ⟨W1, hW1⟩ : ∃ W1, W1 = w.drewN nq := ⟨_, rfl⟩
  have c1 : Chg (fun _ => False) w W1 := by rw [hW1]; exact (Chg.refl _ _).drewN nq
  have t1 := c1.blk HT.out (fun q => q)
  have h1 := c1.b5 H.out (fun q => q)
  have r1 := t1.c m hm
  rw [hTm] at r1
  have s1 := h1.c4
  have W1h := Lib.hid hW1; have C1 := Lib.hid c1; have T1 := Lib.hid t1; have H1 := Lib.hid h1
  rw [← hW1]
  clear hW1 c1 t1 h1 ft
  go_wp2
  go_region_held3 (fun w' => w'.cell? ⟨b, 4, none⟩ = some (.slice (some ⟨t, 0, none⟩) 3 3) ∧ w'.cell? ⟨t, m, none⟩ = some (pt ch)) (go_keep) (first | (go_at_call 105; refine (Hrec.out _ ?_).mono ?_; exact C1.out.drewN 1; rintro e w4 ⟨rfl, hc4, hr4⟩; have e1 : w4.cell? ⟨b, 4, none⟩ = some (.slice (some ⟨t, 0, none⟩) 3 3) := (hc4.b5 (H1.out.drewN 1) hS1).c4; have e2 : w4.cell? ⟨t, m, none⟩ = some (pt ch) := by { have q := (hc4.blk (T1.out.drewN 1) hS2).c m hm; rw [hTm] at q; exact q }))
  go_wp2
  first | go_end0 | refine bodyPost_ret (results_none rfl _ _ _) rfl ?_
  exact ⟨rfl, W1.drew, C1.out.drewN 1, hc4, hr4⟩
end Go.Proofs.YtpdapgbamlcjjaaGreatDoor

/-
  Words for the generic replacer: its block, marks, places, copies of its table.
-/
namespace Go.Proofs.YtpdapgbamlcjjaaGreatDoor
open Go.RowKit Vl

def LU : List (List UInt8) := [[92, 92], [92], [92, 34], [34], [92, 110], [10]]
/-- The cells of a generic replacer. -/
def GF (tb : Value) (sz : Int) (M : Nat → Nat) (j : Nat) : Value :=
  if j = 0 then em else if j = 1 then .int .i64 0 else if j = 2 then em else if j = 3 then np else if j = 4 then tb else if j = 5 then .int .i64 sz else .int .u8 ((M (j - 6) : Nat) : Int)
theorem GF_at (tb : Value) (sz : Int) (M : Nat → Nat) (x : Nat) : GF tb sz M (6 + x) = .int .u8 ((M x : Nat) : Int) := by
  unfold GF
  repeat rw [if_neg (by omega)]
  rw [show 6 + x - 6 = x by omega]
theorem GF_put {w : World} {g : Nat} {tb : Value} {sz : Int} {M M' : Nat → Nat} {x v : Nat} (h : Blk w g 262 (GF tb sz M)) (hM : ∀ j, j < 256 → M' j = if j = x then v else M j) :
    Blk (w.setCell ⟨g, 6 + x, none⟩ (.int .u8 (v : Int))) g 262 (GF tb sz M') :=
  (h.set (6 + x) (.int .u8 (v : Int))).congr fun j hj => by
    by_cases e : j = 6 + x
    · subst e
      rw [if_pos rfl, GF_at, hM x (by omega), if_pos rfl]
    · rw [if_neg e]
      by_cases h6 : j < 6
      · unfold GF
        rcases (show j = 0 ∨ j = 1 ∨ j = 2 ∨ j = 3 ∨ j = 4 ∨ j = 5 by omega) with rfl | rfl | rfl | rfl | rfl | rfl <;> rfl
      · obtain ⟨q, rfl⟩ : ∃ q, j = 6 + q := ⟨j - 6, by omega⟩
        rw [GF_at, GF_at, hM q (by omega), if_neg (by omega)]
theorem GF_size {w : World} {g : Nat} {tb : Value} {sz sz' : Int} {M : Nat → Nat} (h : Blk w g 262 (GF tb sz M)) : Blk (w.setCell ⟨g, 5, none⟩ (.int .i64 sz')) g 262 (GF tb sz' M) :=
  (h.set 5 (.int .i64 sz')).congr fun j hj => by
    by_cases e : j = 5
    · subst e; rfl
    · rw [if_neg e]; unfold GF; rw [if_neg e]; simp only [if_neg e]
theorem GF_tab {w : World} {g : Nat} {tb tb' : Value} {sz : Int} {M : Nat → Nat} (h : Blk w g 262 (GF tb sz M)) : Blk (w.setCell ⟨g, 4, none⟩ tb') g 262 (GF tb' sz M) :=
  (h.set 4 tb').congr fun j hj => by
    by_cases e : j = 4
    · subst e; rfl
    · rw [if_neg e]; unfold GF; simp only [if_neg e]
theorem GF_b5 {w : World} {g : Nat} {tb : Value} {sz : Int} {M : Nat → Nat} (h : Blk w g 262 (GF tb sz M)) : B5 w g em (.int .i64 0) em np tb :=
  ⟨h.c 0 (by omega), h.c 1 (by omega), h.c 2 (by omega), h.c 3 (by omega), h.c 4 (by omega), h.fz, h.lt⟩
/-- A table, by value. -/
def cpy (M : Nat → Nat) : List Value := (List.range 256).map fun j => .int .u8 ((M j : Nat) : Int)
theorem cpy_at (M : Nat → Nat) {k : Nat} (hk : k < 256) : (cpy M)[k]? = some (.int .u8 ((M k : Nat) : Int)) := by
  unfold cpy; rw [List.getElem?_map, List.getElem?_range hk]; rfl
theorem cpy_len (M : Nat → Nat) : (cpy M).length = 256 := by unfold cpy; simp
theorem info123 (M : Nat → Nat) : (Tryz.prog.info? 123).map (·.size) = some (cpy M).length := by rw [cpy_len]; kernel_rfl
theorem GF_range {w : World} {g : Nat} {tb : Value} {sz : Int} {M : Nat → Nat} (h : Blk w g 262 (GF tb sz M)) : w.rangeAt g 6 (cpy M) := fun j v hv => by
  have hj : j < 256 := by
    rcases Nat.lt_or_ge j 256 with h' | h'
    · exact h'
    · rw [List.getElem?_eq_none (by rw [cpy_len]; exact h')] at hv; cases hv
  rw [cpy_at M hj] at hv
  rw [h.c (6 + j) (by omega), GF_at]; exact hv
theorem idx123 (M : Nat → Nat) (k : Nat) (hk : k < 256) (W : World) : (Instr.index 123 (.agg (cpy M).toArray) (.int .i64 (k : Int))).run Tryz.prog W = .ok (.int .u8 ((M k : Nat) : Int)) W := by
  have h1 : (cpy M)[k]? = some (.int .u8 ((M k : Nat) : Int)) := cpy_at M hk
  obtain ⟨i, hi, -, hz, -⟩ := info_parts bty.inf
  simp [Instr.index, asIntOf, run_underlying Tryz.underlying123, sizeOf, typeInfo, part, hi, hz, h1, hk]
/-- Marks. -/
def mk (S : List Nat) (j : Nat) : Nat := if j ∈ S then 1 else 0
def sm (M : Nat → Nat) : Nat → Nat
  | 0 => 0
  | k + 1 => sm M k + M k
def M0 : Nat → Nat := mk [92, 92, 92, 34, 92, 110]
theorem M0_le (j : Nat) : M0 j ≤ 1 := by unfold M0 mk; split <;> omega
theorem sm_le (k : Nat) : sm M0 k ≤ k := by
  induction k with
  | zero => exact Nat.le_refl _
  | succ k ih => unfold sm; have := M0_le k; omega
theorem sm_mono (j : Nat) : ∀ k, j ≤ k → sm M0 j ≤ sm M0 k
  | 0, h => by rw [show j = 0 by omega]; exact Nat.le_refl _
  | k + 1, h => by
    rcases Nat.lt_or_ge k j with h1 | h1
    · rw [show j = k + 1 by omega]; exact Nat.le_refl _
    · have := sm_mono j k h1; show sm M0 j ≤ sm M0 k + M0 k; omega
theorem sm_all : sm M0 256 = 3 := by decide +kernel
theorem sm_three (k : Nat) (h : k ≤ 256) : sm M0 k ≤ 3 := by have := sm_mono k 256 h; rw [sm_all] at this; exact this
/-- The places, as far as they stand after k bytes. -/
def plc (k j : Nat) : Nat := if j < k then (if M0 j = 0 then 3 else sm M0 j) else M0 j
def mp (j : Nat) : Nat := if j = 34 then 0 else if j = 92 then 1 else if j = 110 then 2 else 3
theorem plc_all : ∀ j, j < 256 → plc 256 j = mp j := by decide +kernel
theorem plc_next {k j : Nat} : plc (k + 1) j = if j = k then (if M0 k = 0 then 3 else sm M0 k) else plc k j := by
  unfold plc
  by_cases e : j = k
  · subst e; rw [if_pos (by omega), if_pos rfl]
  · rw [if_neg e]
    by_cases h : j < k
    · rw [if_pos (by omega), if_pos h]
    · rw [if_neg (by omega), if_neg h]
theorem mk_next {S : List Nat} {x : Nat} (j : Nat) : mk (S ++ [x]) j = if j = x then 1 else mk S j := by
  unfold mk
  by_cases e : j = x
  · subst e; simp
  · simp [e]
end Go.Proofs.YtpdapgbamlcjjaaGreatDoor

/-
  The three keys of the generic replacer, one after another.
-/
namespace Go.Proofs.YtpdapgbamlcjjaaGreatDoor
open Go.RowKit Vl

abbrev sl3 (t : Nat) : Value := .slice (some ⟨t, 0, none⟩) 3 3
/-- What stays while the keys come. -/
structure G0 (w : World) (base g t0 : Nat) : Prop where
  k : Blk w g 262 (GF (sl3 t0) 3 mp)
  ge : base ≤ g
  ge0 : base ≤ t0
  ne : t0 ≠ g
theorem G0.gm {w : World} {base g t0 x : Nat} (h : G0 w base g t0) (hx : x < 256) : w.cell? ⟨g, 6 + x, none⟩ = some (.int .u8 ((mp x : Nat) : Int)) := by rw [h.k.c (6 + x) (by omega), GF_at]
theorem G0.chg {S : Nat → Prop} {w w' : World} {base g t0 : Nat} (h : G0 w base g t0) (hc : Chg S w w') (hS : ¬ S g) : G0 w' base g t0 := ⟨hc.blk h.k hS, h.ge, h.ge0, h.ne⟩
def T1F (n1 : Nat) (j : Nat) : Value := if j = 1 then pt n1 else np
structure St1 (w : World) (base g t0 n1 kb : Nat) : Prop where
  g0 : G0 w base g t0
  tab : Blk w t0 3 (T1F n1)
  b1 : B5 w n1 em (.int .i64 0) (.string ⟨#[92]⟩) (pt kb) ns
  b2 : B5 w kb (.string ⟨#[92]⟩) (.int .i64 6) em np ns
  ge1 : base ≤ n1
  ge2 : base ≤ kb
  d : n1 ≠ g ∧ n1 ≠ t0 ∧ kb ≠ g ∧ kb ≠ t0 ∧ kb ≠ n1
def T2F (kq kb : Nat) (j : Nat) : Value := if j = 0 then pt kq else if j = 1 then pt kb else np
structure St2 (w : World) (base g t0 n1 t1 kq kb : Nat) : Prop where
  g0 : G0 w base g t0
  tab : Blk w t0 3 (T1F n1)
  b1 : B5 w n1 em (.int .i64 0) em np (sl3 t1)
  tab1 : Blk w t1 3 (T2F kq kb)
  b2 : B5 w kb (.string ⟨#[92]⟩) (.int .i64 6) em np ns
  b3 : B5 w kq (.string ⟨#[34]⟩) (.int .i64 4) em np ns
  ge : base ≤ n1 ∧ base ≤ kb ∧ base ≤ t1 ∧ base ≤ kq
  d : n1 ≠ g ∧ n1 ≠ t0 ∧ kb ≠ g ∧ kb ≠ t0 ∧ kb ≠ n1 ∧ t1 ≠ g ∧ t1 ≠ t0 ∧ t1 ≠ n1 ∧ t1 ≠ kb ∧ t1 ≠ kq ∧ kq ≠ g ∧ kq ≠ t0 ∧ kq ≠ n1 ∧ kq ≠ kb
def T3F (kq kb kn : Nat) (j : Nat) : Value := if j = 2 then pt kn else T2F kq kb j
structure St3 (w : World) (base g t0 n1 t1 kq kb kn : Nat) : Prop where
  g0 : G0 w base g t0
  tab : Blk w t0 3 (T1F n1)
  b1 : B5 w n1 em (.int .i64 0) em np (sl3 t1)
  tab1 : Blk w t1 3 (T3F kq kb kn)
  b2 : B5 w kb (.string ⟨#[92]⟩) (.int .i64 6) em np ns
  b3 : B5 w kq (.string ⟨#[34]⟩) (.int .i64 4) em np ns
  b4 : B5 w kn (.string ⟨#[10]⟩) (.int .i64 2) em np ns
  ge : base ≤ n1 ∧ base ≤ kb ∧ base ≤ t1 ∧ base ≤ kq ∧ base ≤ kn
  d : n1 ≠ g ∧ kb ≠ g ∧ kq ≠ g ∧ kn ≠ g

theorem G0.drewN {w : World} {base g t0 : Nat} (h : G0 w base g t0) (q : Nat) : G0 (w.drewN q) base g t0 := ⟨h.k.drewN q, h.ge, h.ge0, h.ne⟩
theorem St1.drewN {w : World} {base g t0 n1 kb : Nat} (h : St1 w base g t0 n1 kb) (q : Nat) : St1 (w.drewN q) base g t0 n1 kb := ⟨h.g0.drewN q, h.tab.drewN q, h.b1.drewN q, h.b2.drewN q, h.ge1, h.ge2, h.d⟩
theorem St2.drewN {w : World} {base g t0 n1 t1 kq kb : Nat} (h : St2 w base g t0 n1 t1 kq kb) (q : Nat) : St2 (w.drewN q) base g t0 n1 t1 kq kb := ⟨h.g0.drewN q, h.tab.drewN q, h.b1.drewN q, h.tab1.drewN q, h.b2.drewN q, h.b3.drewN q, h.ge, h.d⟩
theorem add1_c (w : World) (base g t0 : Nat) (h : G0 w base g t0) (ht : Blk w t0 3 (fun _ => np)) :
    Calls Tryz.prog 105 #[pt g, .string ⟨#[92, 92]⟩, .string ⟨#[92]⟩, .int .i64 6, pt g] w fun e w' => e = .returned (.tuple #[]) ∧ (∃ n1 kb, St1 w' base g t0 n1 kb) ∧ Below base w w' := by
  have hg := h.k.lt
  have ht0 := ht.lt
  have hge := h.ge
  have hge0 := h.ge0
  refine (addT1_c g g t0 1 92 ⟨#[92, 92]⟩ ⟨#[92]⟩ ⟨#[92]⟩ 6 em (.int .i64 0) np (fun _ => np) (fun x => x = w.heap.size) (fun W w' => B5 w' w.heap.size em (.int .i64 0) (.string ⟨#[92]⟩) (pt W.heap.size) ns ∧ B5 w' W.heap.size (.string ⟨#[92]⟩) (.int .i64 6) em np ns ∧ w.heap.size < W.heap.size) w
    (GF_b5 h.k) (by decide) rfl (by rfl) (by omega) (h.gm (by omega)) ht rfl (fun e => h.ne e.symm) (by omega) (by omega) (by omega) (fun W hW hn => ?_)).mono ?_
  · refine (addP_c w.heap.size ⟨#[92]⟩ 6 (pt g) em (.int .i64 0) np W hn).mono ?_
    rintro e w' ⟨rfl, q1, q2, q3⟩
    exact ⟨rfl, q3, q1, q2, hn.lt⟩
  · rintro e w' ⟨rfl, W, cW, -, tW, c', r1, r2, r3⟩
    have zW := cW.size
    refine ⟨rfl, ⟨w.heap.size, W.heap.size, (h.chg cW (fun e => h.ne e.symm)).chg c' (by omega), (c'.blk tW (by omega)).congr (fun j _ => rfl), r1, r2, by omega, by omega, by omega, by omega, by omega, by omega, by omega⟩, ?_⟩
    exact (cW.below (fun j hj => by omega) (by omega)).trans (c'.below (fun j hj => by omega) (by omega))
theorem add2_c (w : World) (base g t0 n1 kb : Nat) (h : St1 w base g t0 n1 kb) :
    Calls Tryz.prog 105 #[pt g, .string ⟨#[92, 34]⟩, .string ⟨#[34]⟩, .int .i64 4, pt g] w fun e w' => e = .returned (.tuple #[]) ∧ (∃ n1 t1 kq kb, St2 w' base g t0 n1 t1 kq kb) ∧ Below base w w' := by
  obtain ⟨h0, ht, h1, h2, e1, e2, d1, d2, d3, d4, d5⟩ := h
  have hge := h0.ge
  have hge0 := h0.ge0
  have hlt := h1.lt
  have hlk := h2.lt
  have hlg := h0.k.lt
  have hlt0 := ht.lt
  refine (addT2_c g g t0 1 92 ⟨#[92, 34]⟩ ⟨#[34]⟩ ⟨#[34]⟩ 4 em (.int .i64 0) np (T1F n1) (fun x => x = n1) (fun W w' => ∃ k t, W.heap.size ≤ k ∧ W.heap.size ≤ t ∧ k ≠ t ∧ B5 w' n1 em (.int .i64 0) em np (sl3 t) ∧ B5 w' k (.string ⟨#[34]⟩) (.int .i64 4) em np ns ∧
        Blk w' t 3 (fun j => if j = 0 then pt k else if j = 1 then pt kb else np)) w
    (GF_b5 h0.k) (by decide) rfl (by rfl) (by omega) (h0.gm (by omega)) ht n1 rfl (by omega) (by omega) (by omega) (fun W hW => ?_)).mono ?_
  · have gW := h0.chg hW (fun q => q)
    have hne : g ≠ n1 := fun e => d1 e.symm
    refine (addS_c n1 g kb ⟨#[34]⟩ ⟨#[92]⟩ ⟨#[34]⟩ 4 em (.int .i64 0) W (hW.b5 h1 (fun q => q)) rfl rfl rfl rfl (gW.k.c 5 (by omega)) (gW.gm (x := 34) (by omega)) (gW.gm (x := 92) (by omega)) gW.k.lt hne).mono ?_
    rintro e w' ⟨rfl, k, t, q1, q2, q3, q4, q5, q6, q7⟩
    exact ⟨rfl, q7, k, t, q1, q2, q3, q4, q5, q6⟩
  · rintro e w' ⟨rfl, W, cW, c', k, t, q1, q2, q3, q4, q5, q6⟩
    have zW := cW.size
    refine ⟨rfl, ⟨n1, t, k, kb, (h0.chg cW (fun q => q)).chg c' (by omega), c'.blk (cW.blk ht (fun q => q)) (by omega), q4, q6.congr (fun j _ => rfl), c'.b5 (cW.b5 h2 (fun q => q)) (by omega), q5, by omega, by omega⟩, ?_⟩
    exact (cW.below (fun j hj => hj.elim) (by omega)).trans (c'.below (fun j hj => by omega) (by omega))
theorem add3_c (w : World) (base g t0 n1 t1 kq kb : Nat) (h : St2 w base g t0 n1 t1 kq kb) :
    Calls Tryz.prog 105 #[pt g, .string ⟨#[92, 110]⟩, .string ⟨#[10]⟩, .int .i64 2, pt g] w fun e w' => e = .returned (.tuple #[]) ∧ (∃ n1 t1 kq kb kn, St3 w' base g t0 n1 t1 kq kb kn) ∧ Below base w w' := by
  obtain ⟨h0, ht, h1, ht1, h2, h3, ⟨e1, e2, e3, e4⟩, d1, d2, d3, d4, d5, d6, d7, d8, d9, d10, d11, d12, d13, d14⟩ := h
  have hge := h0.ge
  have hge0 := h0.ge0
  have hlt := h1.lt
  have hlk := h2.lt
  have hlg := h0.k.lt
  have hlt0 := ht.lt
  have hlt1 := ht1.lt
  have hlq := h3.lt
  refine (addT2_c g g t0 1 92 ⟨#[92, 110]⟩ ⟨#[110]⟩ ⟨#[10]⟩ 2 em (.int .i64 0) np (T1F n1) (fun x => x = t1) (fun W w' => Blk w' t1 3 (T3F kq kb W.heap.size) ∧ B5 w' W.heap.size (.string ⟨#[10]⟩) (.int .i64 2) em np ns) w
    (GF_b5 h0.k) (by decide) rfl (by rfl) (by omega) (h0.gm (by omega)) ht n1 rfl (by omega) (by omega) (by omega) (fun W hW => ?_)).mono ?_
  · have gW := h0.chg hW (fun q => q)
    have zW := hW.size
    have tW := hW.blk ht1 (fun q => q)
    refine (addT1_c n1 g t1 2 110 ⟨#[110]⟩ ⟨#[]⟩ ⟨#[10]⟩ 2 em (.int .i64 0) np (T2F kq kb) (fun x => x = W.heap.size) (fun W' w' => B5 w' W.heap.size (.string ⟨#[10]⟩) (.int .i64 2) em np ns) W
      (hW.b5 h1 (fun q => q)) (by decide) rfl (by rfl) (by omega) (gW.gm (x := 110) (by omega)) tW rfl (by omega) (by omega) (by omega) (by omega) (fun W' hW' hn => ?_)).mono ?_
    · refine (addE_c W.heap.size ⟨#[10]⟩ 2 (pt g) em np ns W' hn).mono ?_
      rintro e w' ⟨rfl, rfl⟩
      refine ⟨rfl, ((Chg.refl (fun x => x = W.heap.size) W').set _ 0 _ (.inl rfl)).set _ 1 _ (.inl rfl), ?_⟩
      have := (hn.set 0 (.string ⟨#[10]⟩)).set 1 (.int .i64 2)
      simp only [reduceIte, Nat.reduceEqDiff] at this
      exact this
    · rintro e w' ⟨rfl, W', c1, -, t', c2, r⟩
      have ltt := tW.lt
      refine ⟨rfl, ?_, (c2.blk t' (by omega)).congr (fun j _ => rfl), r⟩
      exact ⟨c2.os.trans c1.os, c2.tape.trans c1.tape, c2.output.trans c1.output, Nat.le_trans c1.size c2.size, fun j hj hs => (c2.block j (Nat.lt_of_lt_of_le hj c1.size) (by omega)).trans (c1.block j hj hs)⟩
  · rintro e w' ⟨rfl, W, cW, c', q1, q2⟩
    have zW := cW.size
    refine ⟨rfl, ⟨n1, t1, kq, kb, W.heap.size, (h0.chg cW (fun q => q)).chg c' (by omega), c'.blk (cW.blk ht (fun q => q)) (by omega), c'.b5 (cW.b5 h1 (fun q => q)) (by omega), q1, c'.b5 (cW.b5 h2 (fun q => q)) (by omega), c'.b5 (cW.b5 h3 (fun q => q)) (by omega), q2, by omega, by omega⟩, ?_⟩
    exact (cW.below (fun j hj => hj.elim) (by omega)).trans (c'.below (fun j hj => by omega) (by omega))
end Go.Proofs.YtpdapgbamlcjjaaGreatDoor

/-
  strings.makeGenericReplacer at three keys of two bytes.
-/
namespace Go.Proofs.YtpdapgbamlcjjaaGreatDoor
open Go.RowKit Vl

/-- What a generic replacer of those keys is in memory; all of it was made from 'base' on. -/
structure Gsr (w : World) (base g : Nat) : Prop where
  ex : ∃ t0 n1 t1 kq kb kn, Blk w g 262 (GF (sl3 t0) 3 mp) ∧ Blk w t0 3 (T1F n1) ∧
    B5 w n1 em (.int .i64 0) em np (sl3 t1) ∧ Blk w t1 3 (T3F kq kb kn) ∧
    B5 w kq (.string ⟨#[34]⟩) (.int .i64 4) em np ns ∧ B5 w kb (.string ⟨#[92]⟩) (.int .i64 6) em np ns ∧ B5 w kn (.string ⟨#[10]⟩) (.int .i64 2) em np ns ∧
    base ≤ t0 ∧ base ≤ n1 ∧ base ≤ t1 ∧ base ≤ kq ∧ base ≤ kb ∧ base ≤ kn ∧ n1 ≠ g ∧ kq ≠ g ∧ kb ≠ g ∧ kn ≠ g
  ge : base ≤ g
theorem Gsr.keep {w w' : World} {base g : Nat} (h : Gsr w base g) (hs : w.heap.size ≤ w'.heap.size) (hk : ∀ k, base ≤ k → k < w.heap.size → w'.heap[k]? = w.heap[k]?) : Gsr w' base g := by
  obtain ⟨⟨t0, n1, t1, kq, kb, kn, h1, h2, h3, h4, h5, h6, h7, g1, g2, g3, g4, g5, g6, d1, d2, d3, d4⟩, hg⟩ := h
  exact ⟨⟨t0, n1, t1, kq, kb, kn, h1.keep hs (hk _ hg h1.lt), h2.keep hs (hk _ g1 h2.lt), h3.keep hs (hk _ g2 h3.lt), h4.keep hs (hk _ g3 h4.lt), h5.keep hs (hk _ g4 h5.lt), h6.keep hs (hk _ g5 h6.lt), h7.keep hs (hk _ g6 h7.lt), g1, g2, g3, g4, g5, g6, d1, d2, d3, d4⟩, hg⟩

theorem Gsr.of {w : World} {base g t0 n1 t1 kq kb kn : Nat} (h : St3 w base g t0 n1 t1 kq kb kn) : Gsr w base g :=
  ⟨⟨t0, n1, t1, kq, kb, kn, h.g0.k, h.tab, h.b1, h.tab1, h.b3, h.b2, h.b4, h.g0.ge0, h.ge.1, h.ge.2.2.1, h.ge.2.2.2.1, h.ge.2.1, h.ge.2.2.2.2, h.d.1, h.d.2.2.1, h.d.2.1, h.d.2.2.2⟩, h.g0.ge⟩
def U5Rel (base g t0 : Nat) (w : World) (i : Value) (wr : World) : Prop :=
  Below base w wr ∧ ((i = .int .i64 0 ∧ G0 wr base g t0 ∧ Blk wr t0 3 (fun _ => np)) ∨ (i = .int .i64 2 ∧ ∃ n1 kb, St1 wr base g t0 n1 kb) ∨ (i = .int .i64 4 ∧ ∃ n1 t1 kq kb, St2 wr base g t0 n1 t1 kq kb) ∨ (i = .int .i64 6 ∧ ∃ n1 t1 kq kb kn, St3 wr base g t0 n1 t1 kq kb kn))
theorem zero151 : Tryz.zeroCells151 = (#[em, .int .i64 0, em, np, ns, .int .i64 0] ++ Array.replicate 256 (.int .u8 0)) := by kernel_rfl
theorem zero151_at (j : Nat) (hj : j < 262) : Tryz.zeroCells151[j]? = some (GF ns 0 (mk []) j) := by
  rw [zero151]
  by_cases h6 : j < 6
  · rw [Array.getElem?_append_left (by simp; omega)]
    rcases (show j = 0 ∨ j = 1 ∨ j = 2 ∨ j = 3 ∨ j = 4 ∨ j = 5 by omega) with rfl | rfl | rfl | rfl | rfl | rfl <;> rfl
  · obtain ⟨q, rfl⟩ : ∃ q, j = 6 + q := ⟨j - 6, by omega⟩
    rw [GF_at, Array.getElem?_append_right (by simp)]
    rw [Array.getElem?_replicate, if_pos (by simp; omega)]
    rfl

/-- The marks after k keys. -/
def S_ (k : Nat) : List Nat := [92, 92, 92, 34, 92, 110].take (2 * k)
def U1Rel (base g : Nat) (w : World) (i : Value) (wr : World) : Prop := ∃ k : Nat, k ≤ 3 ∧ i = .int .i64 ((2 * k : Nat) : Int) ∧ Blk wr g 262 (GF ns 0 (mk (S_ k))) ∧ Below base w wr
def U2Rel (base g k : Nat) (w : World) (i : Value) (wr : World) : Prop := ∃ j : Nat, j ≤ 2 ∧ i = .int .i64 (j : Int) ∧ Blk wr g 262 (GF ns 0 (mk ([92, 92, 92, 34, 92, 110].take (2 * k + j)))) ∧ Below base w wr
def U3Rel (base g : Nat) (w : World) (i : Value) (wr : World) : Prop := ∃ k : Nat, k ≤ 256 ∧ i = .int .i64 (k : Int) ∧ Blk wr g 262 (GF ns ((sm M0 k : Nat) : Int) M0) ∧ Below base w wr
def U4Rel (base g : Nat) (w : World) (x i : Value) (wr : World) : Prop := ∃ k : Nat, k ≤ 256 ∧ i = .int .i64 (k : Int) ∧ x = .int .u8 ((sm M0 k : Nat) : Int) ∧ Blk wr g 262 (GF ns 3 (plc k)) ∧ Below base w wr
/-- The second bytes of the keys. -/
def ky (k : Nat) : Nat := if k = 0 then 92 else if k = 1 then 34 else 110
theorem S_next {k : Nat} (hk : k < 3) : [92, 92, 92, 34, 92, 110].take (2 * k + 1) = S_ k ++ [92] ∧ S_ (k + 1) = [92, 92, 92, 34, 92, 110].take (2 * k + 1) ++ [ky k] := by
  rcases (show k = 0 ∨ k = 1 ∨ k = 2 by omega) with rfl | rfl | rfl <;> exact ⟨rfl, rfl⟩
theorem LU_key {k : Nat} (hk : k < 3) : LU[2 * k]? = some [92, UInt8.ofNat (ky k)] ∧ (UInt8.ofNat (ky k)).toNat = ky k := by
  rcases (show k = 0 ∨ k = 1 ∨ k = 2 by omega) with rfl | rfl | rfl <;> exact ⟨rfl, rfl⟩

set_option maxRecDepth 100000 in
set_option maxHeartbeats 8000000 in
theorem makeG_c (A : Option Addr) (c : Nat) (w : World) (hr : Rc 1 w w.heap.size A 6 c (lvs LU)) :
    Calls Tryz.prog 92 #[.slice A 6 c] w fun e w' => ∃ g, e = .returned (pt g) ∧ Gsr w' w.heap.size g ∧ Below w.heap.size w w' := by
  obtain ⟨b, off, hA, hb, hc⟩ := hr.2.2.2 (by omega)
  subst hA
  obtain ⟨w1, hw1⟩ : ∃ w1, w1 = w.alloc (.cells Tryz.zeroCells151 151) := ⟨_, rfl⟩
  have b1 : Below w.heap.size w w1 := by rw [hw1]; exact (Below.refl _ _).alloc (Nat.le_refl _) _
  have k1 : Blk w1 w.heap.size 262 (GF ns 0 (mk [])) := by rw [hw1]; exact Blk.made _ _ _ _ _ zero151_at
  have W1 := Lib.hid hw1; have B1 := Lib.hid b1; have K1 := Lib.hid k1; have Hc := Lib.hid hc; have Hb := Lib.hid hb
  clear hw1 b1 k1 hc hr hb
  go_enter Tryz.func92, Tryz.ntmps92
  go_wp2_with (rw [← W1.out])
  go_loopw [4] (fun i wr => U1Rel w.heap.size w.heap.size w i wr) (fun i _ => 6 - (intOf i).toNat)
  case atStart => exact ⟨0, by omega, rfl, K1.out, B1.out⟩
  case round =>
    obtain ⟨k, hk, rfl, hB, hbel⟩ := hrel
    by_cases hlt : k < 3
    · obtain ⟨e1, e2⟩ := LU_key hlt
      have hcell := (hbel.cell (p := ⟨b, off + 2 * k, none⟩) Hb.out).trans (Hc.out (2 * k) _ (lvs_get _ _ _ e1))
      obtain ⟨X, hX⟩ : ∃ X : ByteArray, X = ⟨[92, UInt8.ofNat (ky k)].toArray⟩ := ⟨_, rfl⟩
      rw [← hX] at hcell
      have sX : X.size = 2 := by rw [hX]; rfl
      have p0 : 0 < X.size := by omega
      have p1 : 1 < X.size := by omega
      have x0 : (X[0]'p0).toNat = 92 := by subst hX; rfl
      have x1 : (X[1]'p1).toNat = ky k := by subst hX; exact e2
      have d6 : decide (((2 * k : Nat) : Int) < 6) = true := by simp; omega
      have HB := Lib.hid hB; have HBel := Lib.hid hbel
      clear hX e1 e2 hB hbel
      go_wp2
      go_loopw [6] (fun j wr => U2Rel w.heap.size w.heap.size k w j wr) (fun j _ => 2 - (intOf j).toNat)
      case atStart => exact ⟨0, by omega, rfl, HB.out, HBel.out⟩
      case round =>
        obtain ⟨j, hj, rfl, hB2, hbel2⟩ := hrel
        obtain ⟨n1, n2⟩ := S_next hlt
        have hf := hB2.fz
        rcases (show j = 0 ∨ j = 1 ∨ j = 2 by omega) with rfl | rfl | rfl
        · have hq := hB2.c 98 (by omega)
          have hf0 := hf 98
          obtain ⟨W2, hW2⟩ : ∃ W2, W2 = (wr.setCell ⟨w.heap.size, 98, none⟩ (.int .u8 1)).drew := ⟨_, rfl⟩
          have hB3 : Blk W2 w.heap.size 262 (GF ns 0 (mk ([92, 92, 92, 34, 92, 110].take (2 * k + 1)))) := by
            rw [hW2, n1]
            exact (GF_put (x := 92) (v := 1) hB2 (fun j _ => by rw [mk_next]; rfl)).drewN 1
          have hb3 : Below w.heap.size w W2 := by rw [hW2]; exact below_drewN (below_cell hbel2 _ _) 1
          have W2h := Lib.hid hW2; have HB3 := Lib.hid hB3; have Hb3 := Lib.hid hb3
          clear hW2 hB3 hb3 hB2 hbel2 n1 n2 hf
          go_wp2
          go_region
          all_goals
            rw [← W2h.out]
            go_wp2
            go_roundw
            case rel => exact ⟨1, by omega, rfl, HB3.out, Hb3.out⟩
            case measure => simp [intOf]
        · have hkb : ky k < 256 := by unfold ky; split <;> try split
                                      all_goals omega
          have hq := hB2.c (6 + ky k) (by omega)
          have hf0 := hf (6 + ky k)
          obtain ⟨W2, hW2⟩ : ∃ W2, W2 = (wr.setCell ⟨w.heap.size, 6 + ky k, none⟩ (.int .u8 1)).drew := ⟨_, rfl⟩
          have hB3 : Blk W2 w.heap.size 262 (GF ns 0 (mk (S_ (k + 1)))) := by
            rw [hW2, n2]
            exact (GF_put (x := ky k) (v := 1) hB2 (fun j _ => by rw [mk_next])).drewN 1
          have hb3 : Below w.heap.size w W2 := by rw [hW2]; exact below_drewN (below_cell hbel2 _ _) 1
          have W2h := Lib.hid hW2; have HB3 := Lib.hid hB3; have Hb3 := Lib.hid hb3
          clear hW2 hB3 hb3 hB2 hbel2 n1 n2 hf
          go_wp2
          go_region
          all_goals
            rw [← W2h.out]
            go_wp2
            go_roundw
            case rel => exact ⟨2, by omega, rfl, HB3.out, Hb3.out⟩
            case measure => simp [intOf]
        · have HB3 := Lib.hid hB2; have Hb3 := Lib.hid hbel2
          clear hB2 hbel2 n1 n2 hf
          go_wp2
          go_roundw
          case rel => exact ⟨k + 1, by omega, by first | rfl | (congr 1; omega), HB3.out, Hb3.out⟩
          case measure => simp [intOf]; omega
    · obtain rfl : k = 3 := by omega
      rw [show ((2 * 3 : Nat) : Int) = 6 from rfl]
      have hB3 : Blk wr w.heap.size 262 (GF ns 0 M0) := hB
      have HB3 := Lib.hid hB3; have Hbel := Lib.hid hbel
      have R3 := Lib.hid (GF_range hB3)
      clear hB hB3 hbel
      go_wp2_with (refine wpList_load_mid rfl 123 (.tmp 39) rfl w.heap.size 6 ?hx (cpy M0) (.array 256 5) ?hc Tryz.underlying123 rfl (info123 _) ?_; (case hx => rfl); (case hc => exact R3.out))
      go_loopw [41] (fun i wr => U3Rel w.heap.size w.heap.size w i wr) (fun i _ => 256 - (intOf i).toNat)
      case atStart => exact ⟨0, by omega, rfl, HB3.out, Hbel.out⟩
      case round =>
        obtain ⟨k, hk, rfl, hB, hbel⟩ := hrel
        by_cases hlt : k < 256
        · have hix := idx123 M0 k hlt
          have q5 : wr.cell? ⟨w.heap.size, 5, none⟩ = some (.int .i64 ((sm M0 k : Nat) : Int)) := hB.c 5 (by omega)
          have f5 := hB.fz 5
          have hm1 := M0_le k
          have hs1 := sm_three k hk
          have ew : IntKind.i64.wrap (((sm M0 k : Nat) : Int) + ((M0 k : Nat) : Int)) = ((sm M0 (k + 1) : Nat) : Int) := by rw [IntKind.wrap_i64]; show _ = ((sm M0 k + M0 k : Nat) : Int); omega
          have ew2 : IntKind.i64.wrap ((M0 k : Nat) : Int) = ((M0 k : Nat) : Int) := by rw [IntKind.wrap_i64]; omega
          have hB2 := GF_size (sz' := ((sm M0 (k + 1) : Nat) : Int)) hB
          have hb2 : Below w.heap.size w (wr.setCell ⟨w.heap.size, 5, none⟩ (.int .i64 ((sm M0 (k + 1) : Nat) : Int))) := below_cell hbel _ _
          have HB2 := Lib.hid hB2; have Hb2 := Lib.hid hb2
          clear hB hbel hB2 hb2
          go_wp2
          go_roundw
          case rel => exact ⟨k + 1, by omega, by go_num, HB2.out, Hb2.out⟩
          case measure => simp [intOf]; omega
        · obtain rfl : k = 256 := by omega
          rw [sm_all] at hB
          rw [show ((256 : Nat) : Int) = 256 from rfl]
          have HB4 := Lib.hid hB; have Hbel4 := Lib.hid hbel
          have R4 := Lib.hid (GF_range hB)
          clear hB hbel
          go_wp2_with (refine wpList_load_mid rfl 123 (.tmp 56) rfl w.heap.size 6 ?hx (cpy M0) (.array 256 5) ?hc Tryz.underlying123 rfl (info123 _) ?_; (case hx => rfl); (case hc => exact R4.out))
          go_loopw [9, 58] (fun x i wr => U4Rel w.heap.size w.heap.size w x i wr) (fun _ i _ => 256 - (intOf i).toNat)
          case atStart => exact ⟨0, by omega, rfl, rfl, HB4.out.congr (fun j _ => rfl), Hbel4.out⟩
          case round =>
            obtain ⟨k, hk, rfl, rfl, hB, hbel⟩ := hrel
            by_cases hlt : k < 256
            · have hix := idx123 M0 k hlt
              have q5 : wr.cell? ⟨w.heap.size, 5, none⟩ = some (.int .i64 3) := hB.c 5 (by omega)
              have qk : wr.cell? ⟨w.heap.size, 6 + k, none⟩ = some (.int .u8 ((plc k k : Nat) : Int)) := by rw [hB.c (6 + k) (by omega), GF_at]
              have fk := hB.fz (6 + k)
              have hm1 := M0_le k
              have hs1 := sm_three k hk
              have i1 : (0 : Int) ≤ (k : Int) := by omega
              have i2 : (k : Int) < 256 := by omega
              by_cases h0 : M0 k = 0
              · have e0 : (((M0 k : Nat) : Int) == 0) = true := by simp [h0]
                obtain ⟨W2, hW2⟩ : ∃ W2, W2 = (wr.setCell ⟨w.heap.size, 6 + k, none⟩ (.int .u8 3)).drew := ⟨_, rfl⟩
                have hB2 : Blk W2 w.heap.size 262 (GF ns 3 (plc (k + 1))) := by
                  rw [hW2]; exact (GF_put (x := k) (v := 3) hB (fun j _ => by rw [plc_next, if_pos h0])).drewN 1
                have hb2 : Below w.heap.size w W2 := by rw [hW2]; exact below_drewN (below_cell hbel _ _) 1
                have hsx : ((sm M0 k : Nat) : Int) = ((sm M0 (k + 1) : Nat) : Int) := by show _ = ((sm M0 k + M0 k : Nat) : Int); omega
                have W2h := Lib.hid hW2; have HB2 := Lib.hid hB2; have Hb2 := Lib.hid hb2; have Hsx := Lib.hid hsx
                clear hB hbel hB2 hb2 hW2 hsx
                rw [h0] at hix
                clear h0 e0
                go_wp2
                go_region
                all_goals
                  rw [← W2h.out]
                  go_wp2
                  go_roundw
                  case rel => exact ⟨k + 1, by omega, by go_num, by rw [Hsx.out], HB2.out, Hb2.out⟩
                  case measure => simp [intOf]; omega
              · have h1 : M0 k = 1 := by omega
                have hB2 : Blk (wr.setCell ⟨w.heap.size, 6 + k, none⟩ (.int .u8 ((sm M0 k : Nat) : Int))) w.heap.size 262 (GF ns 3 (plc (k + 1))) :=
                  GF_put (x := k) (v := sm M0 k) hB (fun j _ => by rw [plc_next, if_neg h0])
                have hb2 : Below w.heap.size w (wr.setCell ⟨w.heap.size, 6 + k, none⟩ (.int .u8 ((sm M0 k : Nat) : Int))) := below_cell hbel _ _
                have hsx : ((sm M0 (k + 1) : Nat) : Int) = ((sm M0 k : Nat) : Int) + 1 := by show ((sm M0 k + M0 k : Nat) : Int) = _; omega
                have ew : IntKind.u8.wrap (((sm M0 k : Nat) : Int) + 1) = ((sm M0 k : Nat) : Int) + 1 := by rw [IntKind.wrap_u8]; omega
                have HB2 := Lib.hid hB2; have Hb2 := Lib.hid hb2; have Hsx := Lib.hid hsx
                clear hB hbel hB2 hb2 hsx
                rw [h1] at hix
                clear h0 h1
                go_wp2
                go_roundw
                case rel => exact ⟨k + 1, by omega, by go_num, by rw [Hsx.out], HB2.out, Hb2.out⟩
                case measure => simp [intOf]; omega
            · obtain rfl : k = 256 := by omega
              rw [show ((256 : Nat) : Int) = 256 from rfl, sm_all, show ((3 : Nat) : Int) = 3 from rfl]
              have hB5 : Blk wr w.heap.size 262 (GF ns 3 mp) := hB.congr (fun j hj => by
                by_cases h6 : j < 6
                · unfold GF
                  rcases (show j = 0 ∨ j = 1 ∨ j = 2 ∨ j = 3 ∨ j = 4 ∨ j = 5 by omega) with rfl | rfl | rfl | rfl | rfl | rfl <;> rfl
                · obtain ⟨q, rfl⟩ : ∃ q, j = 6 + q := ⟨j - 6, by omega⟩
                  rw [GF_at, GF_at, plc_all q (by omega)])
              have q5 : wr.cell? ⟨w.heap.size, 5, none⟩ = some (.int .i64 3) := hB5.c 5 (by omega)
              have nm := nmake wr
              obtain ⟨W5, hW5⟩ : ∃ W5, W5 = wr.alloc (.cells #[np, np, np] 146) := ⟨_, rfl⟩
              rw [← hW5] at nm
              have bb5 : Below wr.heap.size wr W5 := by rw [hW5]; exact (Below.refl _ _).alloc (Nat.le_refl _) _
              have t5 : Blk W5 wr.heap.size 3 (fun _ => np) := by
                rw [hW5]; exact Blk.made _ _ _ _ _ fun j hj => by
                  rcases (show j = 0 ∨ j = 1 ∨ j = 2 by omega) with rfl | rfl | rfl <;> rfl
              have k5 := hB5.below bb5 hB5.lt
              have qt := k5.c 4 (by omega)
              have ft := k5.fz 4
              have hgl := hB5.lt
              have k6 := GF_tab (tb' := sl3 wr.heap.size) k5
              have t6 : Blk (W5.setCell ⟨w.heap.size, 4, none⟩ (sl3 wr.heap.size)) wr.heap.size 3 (fun _ => np) := ((Chg.refl (fun x => x = w.heap.size) W5).set _ 4 _ (.inl rfl)).blk t5 (by omega)
              have bel6 : Below w.heap.size w (W5.setCell ⟨w.heap.size, 4, none⟩ (sl3 wr.heap.size)) := below_cell (hbel.trans (bb5.mono (by omega))) _ _
              obtain ⟨wt, hwt⟩ : ∃ wt, wt = wr.heap.size := ⟨_, rfl⟩
              rw [← hwt] at k6 t6 bel6 nm
              have K6 := Lib.hid (show G0 _ w.heap.size w.heap.size wt from ⟨k6, Nat.le_refl _, by omega, by omega⟩); have T6 := Lib.hid t6; have Bel6 := Lib.hid bel6
              clear hW5 bb5 t5 k5 hgl k6 t6 bel6 hB hB5 hbel hwt
              go_wp2
              go_loopw [12] (fun i wr => U5Rel w.heap.size w.heap.size wt w i wr) (fun i _ => 6 - (intOf i).toNat)
              case atStart => exact ⟨Bel6.out, .inl ⟨rfl, K6.out, T6.out⟩⟩
              case round =>
              clear K6 T6 Bel6 HB3 Hbel R3 HB4 Hbel4 R4 K1 B1 W1 q5 nm qt ft
              obtain ⟨hbel, hrel⟩ := hrel
              rcases hrel with ⟨rfl, hst⟩ | ⟨rfl, hst⟩ | ⟨rfl, hst⟩ | ⟨rfl, hst⟩
              · obtain ⟨h1, h2⟩ := hst
                have c0 := (hbel.cell (p := ⟨b, off, none⟩) Hb.out).trans (Hc.out 0 _ rfl)
                have c1 := (hbel.cell (p := ⟨b, off + 1, none⟩) Hb.out).trans (Hc.out 1 _ rfl)
                have ws1 : IntKind.i64.wrap ((0 : Int) + 1) = 0 + 1 := by decide
                have ws2 : IntKind.i64.wrap (1 : Int) = 1 := by decide
                have ws3 : IntKind.i64.wrap ((6 : Int) - 0) = 6 - 0 := by decide
                have hadd := fun q => add1_c (wr.drewN q) w.heap.size w.heap.size wt ⟨h1.k.drewN q, h1.ge, h1.ge0, h1.ne⟩ (h2.drewN q)
                have Hadd := Lib.hid hadd; have Hbel := Lib.hid hbel
                clear hadd hbel h1 h2
                go_wp2
                go_region_held3 (fun w' => w'.cell? ⟨b, off, none⟩ = some (.string ⟨#[92, 92]⟩) ∧ w'.cell? ⟨b, off + 1, none⟩ = some (.string ⟨#[92]⟩)) (go_keep) (first | (go_at_call 105; refine (Hadd.out 1).mono ?_; rintro e w4 ⟨rfl, hs4, hb4⟩; have hbb : Below w.heap.size w w4 := (below_drewN Hbel.out 1).trans hb4; have e1 : w4.cell? ⟨b, off, none⟩ = some (.string ⟨#[92, 92]⟩) := (hbb.cell (p := ⟨b, off, none⟩) Hb.out).trans (Hc.out 0 _ rfl); have e2 : w4.cell? ⟨b, off + 1, none⟩ = some (.string ⟨#[92]⟩) := (hbb.cell (p := ⟨b, off + 1, none⟩) Hb.out).trans (Hc.out 1 _ rfl)))
                clear e1 e2 hb4
                have HS4 := Lib.hid hs4; have HB4 := Lib.hid hbb
                clear hs4 hbb
                go_wp2
                first | go_roundw | refine ⟨?rel, ?measure⟩
                case rel => exact ⟨HB4.out, .inr (.inl ⟨rfl, HS4.out⟩)⟩
                case measure => simp [intOf]
              · obtain ⟨n1, kb, h1⟩ := hst
                have c2 := (hbel.cell (p := ⟨b, off + 2, none⟩) Hb.out).trans (Hc.out 2 _ rfl)
                have c3 := (hbel.cell (p := ⟨b, off + 3, none⟩) Hb.out).trans (Hc.out 3 _ rfl)
                have ws1 : IntKind.i64.wrap ((2 : Int) + 1) = 2 + 1 := by decide
                have ws2 : IntKind.i64.wrap (3 : Int) = 3 := by decide
                have ws3 : IntKind.i64.wrap ((6 : Int) - 2) = 6 - 2 := by decide
                have hadd := fun q => add2_c (wr.drewN q) w.heap.size w.heap.size wt _ _ (St1.drewN h1 q)
                have Hadd := Lib.hid hadd; have Hbel := Lib.hid hbel
                clear hadd hbel h1 
                go_wp2
                go_region_held3 (fun w' => w'.cell? ⟨b, off + 2, none⟩ = some (.string ⟨#[92, 34]⟩) ∧ w'.cell? ⟨b, off + 3, none⟩ = some (.string ⟨#[34]⟩)) (go_keep) (first | (go_at_call 105; refine (Hadd.out 1).mono ?_; rintro e w4 ⟨rfl, hs4, hb4⟩; have hbb : Below w.heap.size w w4 := (below_drewN Hbel.out 1).trans hb4; have e1 : w4.cell? ⟨b, off + 2, none⟩ = some (.string ⟨#[92, 34]⟩) := (hbb.cell (p := ⟨b, off + 2, none⟩) Hb.out).trans (Hc.out 2 _ rfl); have e2 : w4.cell? ⟨b, off + 3, none⟩ = some (.string ⟨#[34]⟩) := (hbb.cell (p := ⟨b, off + 3, none⟩) Hb.out).trans (Hc.out 3 _ rfl)))
                clear e1 e2 hb4
                have HS4 := Lib.hid hs4; have HB4 := Lib.hid hbb
                clear hs4 hbb
                go_wp2
                first | go_roundw | refine ⟨?rel, ?measure⟩
                case rel => exact ⟨HB4.out, .inr (.inr (.inl ⟨rfl, HS4.out⟩))⟩
                case measure => simp [intOf]
              · obtain ⟨n1, t1, kq, kb, h1⟩ := hst
                have c4 := (hbel.cell (p := ⟨b, off + 4, none⟩) Hb.out).trans (Hc.out 4 _ rfl)
                have c5 := (hbel.cell (p := ⟨b, off + 5, none⟩) Hb.out).trans (Hc.out 5 _ rfl)
                have ws1 : IntKind.i64.wrap ((4 : Int) + 1) = 4 + 1 := by decide
                have ws2 : IntKind.i64.wrap (5 : Int) = 5 := by decide
                have ws3 : IntKind.i64.wrap ((6 : Int) - 4) = 6 - 4 := by decide
                have hadd := fun q => add3_c (wr.drewN q) w.heap.size w.heap.size wt _ _ _ _ (St2.drewN h1 q)
                have Hadd := Lib.hid hadd; have Hbel := Lib.hid hbel
                clear hadd hbel h1 
                go_wp2
                go_region_held3 (fun w' => w'.cell? ⟨b, off + 4, none⟩ = some (.string ⟨#[92, 110]⟩) ∧ w'.cell? ⟨b, off + 5, none⟩ = some (.string ⟨#[10]⟩)) (go_keep) (first | (go_at_call 105; refine (Hadd.out 1).mono ?_; rintro e w4 ⟨rfl, hs4, hb4⟩; have hbb : Below w.heap.size w w4 := (below_drewN Hbel.out 1).trans hb4; have e1 : w4.cell? ⟨b, off + 4, none⟩ = some (.string ⟨#[92, 110]⟩) := (hbb.cell (p := ⟨b, off + 4, none⟩) Hb.out).trans (Hc.out 4 _ rfl); have e2 : w4.cell? ⟨b, off + 5, none⟩ = some (.string ⟨#[10]⟩) := (hbb.cell (p := ⟨b, off + 5, none⟩) Hb.out).trans (Hc.out 5 _ rfl)))
                clear e1 e2 hb4
                have HS4 := Lib.hid hs4; have HB4 := Lib.hid hbb
                clear hs4 hbb
                go_wp2
                first | go_roundw | refine ⟨?rel, ?measure⟩
                case rel => exact ⟨HB4.out, .inr (.inr (.inr ⟨rfl, HS4.out⟩))⟩
                case measure => simp [intOf]
              · obtain ⟨n1, t1, kq, kb, kn, h1⟩ := hst
                have HG := Lib.hid (Gsr.of h1); have Hbel := Lib.hid hbel
                clear h1 hbel
                go_wp2
                go_ret
                exact ⟨w.heap.size, rfl, HG.out, Hbel.out⟩
end Go.Proofs.YtpdapgbamlcjjaaGreatDoor
