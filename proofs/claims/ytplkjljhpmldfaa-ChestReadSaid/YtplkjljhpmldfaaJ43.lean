/-
  Joined: Zf Zh.
-/
import Derived.Test.YtplkjljhpmldfaaJ41
import Derived.Test.YtplkjljhpmldfaaJ38
import Derived.Test.YtplkjljhpmldfaaJ33
/-
  chest.Write: what the call returns and leaves.
-/
namespace Go.Proofs.Ytplkjljhpmldfaa
open Go.RowKit Go.Shelf
attribute [local go_sem] Oper.semAt_some

set_option maxRecDepth 100000 in
set_option maxHeartbeats 4000000 in
/-- Write -/
theorem write_c (A : Option Addr) (n c : Nat) (l : Rcs) (w : World) (hr : RL w w.heap.size A n c l) (hf : Hm.Few l) (hnc : n ≤ c) :
    Calls Try.prog 14 #[.slice A n c] w (RetW w (Hm.wrS l)) := by
  have hl := hr.len
  have hn : n ≤ 40 := by have := hf.2; omega
  obtain ⟨w2, hw2⟩ : ∃ w2, w2 = (((w.alloc (.cells #[.slice none 0 0] 22)).alloc (.cells #[.int .i64 0] 25)).alloc (.cells #[.slice none 0 0] 22)).alloc (.cells #[.slice none 0 0] 56) := ⟨_, rfl⟩
  have z2 : w2.heap.size = w.heap.size + 1 + 1 + 1 + 1 := by rw [hw2]; simp
  have b02 : Below w.heap.size w w2 := by rw [hw2]; exact ((((Below.refl _ _).alloc (Nat.le_refl _) _).alloc (by simp) _).alloc (by simp; omega) _).alloc (by simp; omega) _
  have c1 : Boxed w2 w.heap.size 22 (.slice none 0 0) := by rw [hw2]; exact (((Boxed.new w _ _).alloc _).alloc _).alloc _
  have c2 : Boxed w2 (w.heap.size + 1) 25 (.int .i64 0) := by
    rw [hw2]
    have := ((Boxed.new (w.alloc (.cells #[.slice none 0 0] 22)) 25 (.int .i64 0)).alloc (.cells #[.slice none 0 0] 22)).alloc (.cells #[.slice none 0 0] 56)
    rwa [World.size_alloc] at this
  have c3 : Boxed w2 (w.heap.size + 1 + 1) 22 (.slice none 0 0) := by
    rw [hw2]
    have := (Boxed.new ((w.alloc (.cells #[.slice none 0 0] 22)).alloc (.cells #[.int .i64 0] 25)) 22 (.slice none 0 0)).alloc (.cells #[.slice none 0 0] 56)
    rwa [World.size_alloc, World.size_alloc] at this
  have c4 : Boxed w2 (w.heap.size + 1 + 1 + 1) 56 (.slice none 0 0) := by
    rw [hw2]
    have := Boxed.new (((w.alloc (.cells #[.slice none 0 0] 22)).alloc (.cells #[.int .i64 0] 25)).alloc (.cells #[.slice none 0 0] 22)) 56 (.slice none 0 0)
    rwa [World.size_alloc, World.size_alloc, World.size_alloc] at this
  have Hr := Lib.hid hr; have Hl := Lib.hid hl; have B02 := Lib.hid b02; have C1 := Lib.hid c1; have C2 := Lib.hid c2; have C3 := Lib.hid c3; have C4 := Lib.hid c4; have W2 := Lib.hid hw2; have Hf := Lib.hid hf
  have q2 : w.heap.size + 4 ≤ w2.heap.size := by omega
  clear hr hl b02 hw2 c1 c2 c3 c4 hf z2
  refine (callsIn_wide (n := 9)).1 ?_
  refine callsIn_of_wp_marks Try.func14 rfl trivial ?_ rfl
  simp only [Try.ntmps14, List.size_toArray, List.length_cons, List.length_nil, Nat.reduceAdd, Nat.reduceSub, Array.replicate_succ, Array.replicate_zero, List.push_toArray, List.append_toArray, List.nil_append, List.cons_append]
  gi_wp2
  rw [← W2.out]
  refine ⟨trivial, (callsIn_wide.2 (table_c w2)).mono ?_⟩
  rintro e w4 ⟨rfl, ht4, hb4, hz4⟩
  have HT4 := Lib.hid ht4; have HB4 := Lib.hid hb4
  clear ht4 hb4
  gi_wp2
  obtain ⟨w5, hw5⟩ : ∃ w5, w5 = w4.alloc (.cells #[.slice (some ⟨w2.heap.size, 0, none⟩) 256 256] 57) := ⟨_, rfl⟩
  have ht5 : Boxed w5 w4.heap.size 57 (.slice (some ⟨w2.heap.size, 0, none⟩) 256 256) := by rw [hw5]; exact Boxed.new w4 _ _
  have b45 : Below w4.heap.size w4 w5 := by rw [hw5]; exact (Below.refl _ _).alloc (Nat.le_refl _) _
  have z5 : w5.heap.size = w4.heap.size + 1 := by rw [hw5]; simp
  rw [← hw5]
  clear hw5
  refine ⟨trivial, (callsIn_wide.2 (chunk_c A n c w5)).mono ?_⟩
  rintro e w6 ⟨rfl, hw6⟩
  have z6 : w6.heap.size = w5.heap.size + 2 := by rw [hw6]; simp
  have b56 : Below w5.heap.size w5 w6 := by rw [hw6]; exact ((Below.refl _ _).alloc (Nat.le_refl _) _).alloc (by simp) _
  have hBs : w6.cell? ⟨w5.heap.size, 0, none⟩ = some (.slice A n c) := by
    rw [hw6, World.cell?_alloc_lt _ _ _ (by simp)]; simp
  have hBn : w6.cell? ⟨w5.heap.size + 1, 0, none⟩ = some (.int .i64 4) := by
    rw [hw6]
    have := (Boxed.new (w5.alloc (.cells #[.slice A n c] 28)) 3 (.int .i64 4)).cell
    rwa [World.size_alloc] at this
  clear hw6
  have b46 : Below w4.heap.size w4 w6 := b45.trans (b56.mono (by omega))
  have b26 : Below w2.heap.size w2 w6 := HB4.out.trans (b46.mono (by omega))
  have b06 : Below w.heap.size w w6 := B02.out.trans (b26.mono (by omega))
  have ht6 : Boxed w6 w4.heap.size 57 (.slice (some ⟨w2.heap.size, 0, none⟩) 256 256) := boxed_below ht5 b56 (by omega)
  have hT6 : Rn w6 w4.heap.size (some ⟨w2.heap.size, 0, none⟩) 256 256 Cm.tab := HT4.out.below b46
  have c1 := boxed_below C1.out b26 (by omega)
  have c2 := boxed_below C2.out b26 (by omega)
  have c3 := boxed_below C3.out b26 (by omega)
  have c4 := boxed_below C4.out b26 (by omega)
  have q6 : w5.heap.size + 2 ≤ w6.heap.size := by omega
  have q5 : w4.heap.size + 1 ≤ w5.heap.size := by omega
  have q4 : w2.heap.size + 1 ≤ w4.heap.size := by omega
  clear z6 z5 b56 b45 b26 hz4
  gi_wp2
  refine wpIn_rangeFunc_ownG rfl (by omega) (gf := 45) (lb := #[.pointer (some ⟨w5.heap.size, 0, none⟩), .pointer (some ⟨w5.heap.size + 1, 0, none⟩)]) rfl trivial
    (enters_of Try.func45 (by kernel_rfl) rfl)
    (chunk_stops A n c w.heap.size w2.heap.size w6 (by omega) hnc w5.heap.size (w5.heap.size + 1) ⟨hBs, by omega, by omega⟩ ⟨hBn, by omega, by omega⟩ 7)
    (fun h k => h.trans k) (fun W L o o' h1 h2 _ _ => but_put h1 h2) (Below.refl _ _) (fun _ => rfl)
    (WrI l n w.heap.size w2.heap.size w6.heap.size w6) (WrX l n w.heap.size w2.heap.size w6.heap.size w6) (wrI_own l n _ _ _ w6 (by omega) (by omega)) (wrX_own l n _ _ _ w6 (by omega) (by omega))
    ⟨none, 0, [], none, 0, [], c3, Own.nil _ _ _, rfl, Nat.zero_le _, c4, Oc.nil _ _ _ _, rfl, fun x hx => (by cases hx), .inl rfl, But.refl _, Nat.le_refl _, c1, c2, fun p hp => (by cases hp)⟩
    (fun x => { tmps := #[.slice A n c, undef, .pointer (some ⟨w.heap.size, 0, none⟩), .pointer (some ⟨w.heap.size + 1, 0, none⟩), .pointer (some ⟨w.heap.size + 1 + 1, 0, none⟩), .pointer (some ⟨w.heap.size + 1 + 1 + 1, 0, none⟩), .pointer (some ⟨w4.heap.size, 0, none⟩),
      .slice (cutA A x.1.2 x.1.1) (x.1.2 - x.1.1) (x.1.2 - x.1.1), undef, undef, .slice A n c, .int .i64 (n : Int), .bool (decide ((4000 : Int) < (n : Int))), .slice (some ⟨w2.heap.size, 0, none⟩) 256 256, .slice A n c,
      .func (.func 45) #[] #[.pointer (some ⟨w5.heap.size, 0, none⟩), .pointer (some ⟨w5.heap.size + 1, 0, none⟩)], .slice (cutA A x.1.2 x.1.1) (x.1.2 - x.1.1) (x.1.2 - x.1.1),
      undef, undef, undef, undef, undef, undef, undef, undef, undef, undef, undef, undef, undef, undef, undef, undef, undef, undef, undef, undef, undef, undef, undef, undef, undef], defers := [] }) ?assign ?body ?done ?stop
  case assign =>
    intro L x W K hK
    simp only [encC]
    gi_wp2
    exact hK
  case body =>
    rintro j pre x W ⟨A2, d2, L, Ai, ci, E, hbo, hown, hL, hLl, hbi, hrow, hE, hEb, hap, hbut, hsz, r1, r2, hall⟩ hlen
    have hbel : Below w.heap.size w W := b06.trans (hbut.below (by omega))
    have hchk : RL W W.heap.size (cutA A x.1.2 x.1.1) (x.1.2 - x.1.1) (x.1.2 - x.1.1) (chk l x.1) := ((Hr.out.below hbel).more hbel.size).chunk x.2.1 x.2.2
    have hTW := (hT6.other (hbut.block w2.heap.size (by omega) (by omega))).more (B' := W.heap.size) (by omega)
    have hct := (boxed_but ht6 hbut (by omega) (by omega)).cell
    have hcl := hchk.len
    have hx2 := x.2.2
    have hblk := blockOf_c (some ⟨w2.heap.size, 0, none⟩) 256 (cutA A x.1.2 x.1.1) (x.1.2 - x.1.1) (x.1.2 - x.1.1) (chk l x.1) W hTW hchk (by omega) (chk_enc Hf.out x.1)
    have hel := chk_enc Hf.out x.1
    rcases mayC (chk l x.1) with hmay | hmay
    rotate_left
    · have hb := hblk.mono (R' := fun e w' => Below W.heap.size W w' ∧ e = .returned (.tuple #[.slice none 0 0, .bool false])) fun e w' h => by
        unfold RetBl at h
        rw [if_neg hmay] at h
        exact h
      have Hb := Lib.hid hb; have R1 := Lib.hid r1; have R2 := Lib.hid r2; have Hmay := Lib.hid hmay
      clear hblk hb hown hrow hbo hbi hTW hchk r1 r2 hel hL hE hmay
      gi_wp2_with (refine ⟨trivial, ?_⟩; gi_at_call 28; refine (CallsIn.inRound j (callsIn_wide.2 Hb.out)).mono ?_; rintro e w7 ⟨hb7, rfl⟩; have g1 := boxed_below R1.out hb7 (by omega); have g2 := boxed_below R2.out hb7 (by omega); have g1c := g1.cell; have g1f := g1.frozen; have g2c := g2.cell; have g2f := g2.frozen)
      refine ⟨((keeps_of_below hb7 _).trans ((KeepsOthers.setCell _ _ _).from _)).trans ((KeepsOthers.setCell _ _ _).from _), rfl, ⟨x, by simp, Hmay.out⟩, ?_, by have := hb7.size; simp; omega, (g1.set _).other (by omega) _, (g2.other (by omega) _).set _⟩
      exact hbut.trans ((but_of hb7 hsz).trans ((But.set _ (by omega) _).trans (But.set _ (by omega) _)))
    · obtain ⟨BL, hBL⟩ : ∃ BL, BL = Hm.blkw (chk l x.1) := ⟨_, rfl⟩
      have hb := hblk.mono (R' := fun e w' => Below W.heap.size W w' ∧ ∃ A k, e = .returned (.tuple #[.slice A BL.length k, .bool true]) ∧ Own w' 5 W.heap.size A k BL) fun e w' h => by
        unfold RetBl at h
        rw [if_pos hmay, ← hBL] at h
        exact h
      have hBLl : BL.length ≤ 20000 := by rw [hBL]; exact (Hm.blkw_len (by omega)).2
      obtain ⟨xe, hxe⟩ : ∃ xe : Nat × Nat × Nat, xe = (L.length, BL.length, x.1.2 - x.1.1) := ⟨_, rfl⟩
      obtain ⟨LB, hLB⟩ : ∃ LB, LB = L ++ BL := ⟨_, rfl⟩
      have hLBl : LB.length = L.length + BL.length := by rw [hLB, List.length_append]
      have hLBb : LB.length ≤ 20000 * (pre ++ [x]).length := by rw [hLBl, List.length_append]; simp; omega
      have hvl : evs E ++ [.int .i64 (L.length : Int), .int .i64 (BL.length : Int), .int .i64 ((x.1.2 - x.1.1 : Nat) : Int)] = evs (E ++ [xe]) := by rw [hxe]; exact evs_snoc E (L.length, BL.length, x.1.2 - x.1.1)
      have hE2 : (E ++ [xe]).map e2 = (((pre ++ [x]).map (·.1)).map (chk l)).map Hm.ew := by
        simp only [List.map_append, List.map_cons, List.map_nil]
        rw [hE]
        simp only [List.map_map]
        congr 1
        rw [hxe]
        unfold e2 Hm.ew
        rw [← hBL, hcl]
      have hL2 : LB = Hm.body (((pre ++ [x]).map (·.1)).map (chk l)) := by
        rw [hLB, hL, List.map_append, List.map_append, List.map_cons, List.map_nil, List.map_cons, List.map_nil, Hm.body_snoc, hBL]
      have hEb2 : ∀ y ∈ E ++ [xe], y.2.1 ≤ 20000 ∧ y.2.2 ≤ 5000 := fun y hy => by
        rcases List.mem_append.1 hy with hy | hy
        · exact hEb y hy
        · simp at hy
          subst hy
          rw [hxe]
          exact ⟨hBLl, by dsimp only; omega⟩
      have hall2 : ∀ p ∈ pre ++ [x], ∀ r ∈ chk l p.1, Fm.May r := fun p hp => by
        rcases List.mem_append.1 hp with hp | hp
        · exact hall p hp
        · simp at hp; subst hp; exact hmay
      have hLn : L.length ≤ 20000 * (n + 1) := by omega
      have hap8 := ap_symm hap
      have Hb := Lib.hid hb; have R1 := Lib.hid r1; have R2 := Lib.hid r2; have Hall := Lib.hid hall2; have HEb := Lib.hid hEb2; have HL2 := Lib.hid hL2; have HE2 := Lib.hid hE2; have Hvl := Lib.hid hvl; have HLB := Lib.hid hLB; have HLBl := Lib.hid hLBl; have HLBb := Lib.hid hLBb
      have Hbo := Lib.hid hbo; have Hbi := Lib.hid hbi; have Hown := Lib.hid hown; have Hrow := Lib.hid hrow; have Hap := Lib.hid hap; have Hap8 := Lib.hid hap8
      clear hblk hb hown hrow hbo hbi hTW hchk r1 r2 hel hL hE hmay hall2 hEb2 hL2 hE2 hvl hLB hLBl hLBb hap hap8 hall hEb hBL hLl hcl
      obtain ⟨PL, hPL⟩ : ∃ PL, PL = (pre ++ [x]).length := ⟨_, rfl⟩
      have HPL := Lib.hid hPL
      clear hPL
      gi_wp2_with (first
        | (refine ⟨trivial, ?_⟩; gi_at_call 28; refine (CallsIn.inRound j (callsIn_wide.2 Hb.out)).mono ?_; rintro e w7 ⟨hb7, A6, k6, rfl, ho6⟩; have z7 := hb7.size; have hE7 := boxed_below Hbi.out hb7 (by omega); have hE7c := hE7.cell; have hO7 := boxed_below Hbo.out hb7 (by omega); have hO7c := hO7.cell; have Hrow7 := Lib.hid (Hrow.out.keep hb7); have Hown7 := Lib.hid (Hown.out.keep hb7); have Ho6 := Lib.hid ho6; clear ho6)
        | (gi_at_builtin; refine ety.wpInApp rfl (.tmp 25) (.tmp 33) rfl (n := pre.length) (m := 1) (N := PL) (us := [.int .i64 (L.length : Int), .int .i64 (BL.length : Int), .int .i64 ((x.1.2 - x.1.1 : Nat) : Int)]) (ws := evs (E ++ [xe])) rfl rfl (Hrow7.out.alloc _) (Rc.lit (z := 3) w7 65 #[.int .i64 (L.length : Int), .int .i64 (BL.length : Int), .int .i64 ((x.1.2 - x.1.1 : Nat) : Int)] 1 rfl (by simp [maxLen])) (by intro v hv; simp at hv; rcases hv with rfl | rfl | rfl <;> rfl) (by have := HPL.out; simp at this; omega) Hvl.out (by have := HPL.out; simp at this; omega) (by have := HPL.out; simp at this; omega) (by simp; omega) ?_; intro A8 k8 w8 ho8 hg8; have hg78 := Grows.pre ((Below.refl _ _).alloc (Nat.le_refl _) _) hg8; have z8 := hg78.size; have hE8 : Boxed w8 (w.heap.size + 1 + 1 + 1) 56 (.slice Ai pre.length ci) := (hg78.1.block (w.heap.size + 1 + 1 + 1) (by omega) (fun e => by have := (oc_ob Hrow7.out _ e.symm).1; omega)).trans hE7; have hE8c := hE8.cell; have hE8f := hE8.frozen; have hO8 : Boxed w8 (w.heap.size + 1 + 1) 22 (.slice A2 L.length d2) := (hg78.1.block (w.heap.size + 1 + 1) (by omega) (fun e => by have := (oc_ob Hrow7.out _ e.symm).1; omega)).trans hO7; have hO9 : Boxed (w8.setCell ⟨w.heap.size + 1 + 1 + 1, 0, none⟩ (.slice A8 PL k8)) (w.heap.size + 1 + 1) 22 (.slice A2 L.length d2) := hO8.other (by omega) _; have hO9c := hO9.cell; have hO9f := hO9.frozen; have hown9 : Own (w8.setCell ⟨w.heap.size + 1 + 1 + 1, 0, none⟩ (.slice A8 PL k8)) 5 w6.heap.size A2 d2 L := (own_beside Hown7.out hg78 Hap.out).setLow (by show w.heap.size + 1 + 1 + 1 < _; omega) _; have ho69 : Own (w8.setCell ⟨w.heap.size + 1 + 1 + 1, 0, none⟩ (.slice A8 PL k8)) 5 W.heap.size A6 k6 BL := (own_beside Ho6.out hg78 (ob_apart (b := W.heap.size) (fun g hg => (own_ob Ho6.out g hg).1) (fun g hg => (oc_ob Hrow.out g hg).2))).setLow (by show w.heap.size + 1 + 1 + 1 < _; omega) _; have Hg78 := Lib.hid hg78; have Ho8 := Lib.hid ho8; have Hown9 := Lib.hid hown9; have Ho69 := Lib.hid ho69; clear hg8 hg78 ho8 hown9 ho69 hO7c hE7c)
        | (gi_at_builtin; refine bsl.wpInApp rfl (.tmp 35) (.tmp 36) rfl (n := L.length) (m := BL.length) (N := LB.length) (us := bvs BL) (ws := bvs LB) rfl rfl (Hown9.out : Oc 1 _ 5 w6.heap.size A2 L.length d2 (bvs L)) (Rb.rc Ho69.out.rb) (bvs_one BL) HLBl.out.symm (by rw [← bvs_append, HLB.out]) (by have := HLBl.out; omega) (by have := HLBl.out; omega) (by simp; omega) ?_; intro A10 k10 w10 ho10 hg10; have z10 := hg10.size; rw [World.size_setCell] at z10; have hO10 : Boxed w10 (w.heap.size + 1 + 1) 22 (.slice A2 L.length d2) := (hg10.1.block (w.heap.size + 1 + 1) (by simp; omega) (fun e => by have := (own_ob Hown9.out _ e.symm).1; omega)).trans hO9; have hO10c := hO10.cell; have hO10f := hO10.frozen))
      have hPL := HPL.out
      subst hPL
      have ap8 := ap_grow Hg78.out (fun g hg => (own_ob Hown7.out g hg).2) Hap8.out
      have row9 := oc_low (lo := w.heap.size + 1 + 1 + 1) Ho8.out (by omega) (.slice A8 (pre ++ [x]).length k8)
      have ap11 := ap_grow hg10 (fun g hg => (oc_ob row9 g hg).2) (ap_symm ap8)
      have row11 := oc_low (lo := w.heap.size + 1 + 1) (oc_beside row9 hg10 ap8) (by omega) (.slice A10 LB.length k10)
      have hgo : ∀ {b : Nat} {tt : TypeId} {v : Value}, Boxed W b tt v → b < w.heap.size + 1 + 1 → Boxed (w10.setCell ⟨w.heap.size + 1 + 1, 0, none⟩ (.slice A10 LB.length k10)) b tt v := fun {b} tt v h hb => by
        have g1 := boxed_below h hb7 (by omega)
        have g2 : Boxed w8 b tt v := (Hg78.out.1.block b (by omega) (fun e => by have := (oc_ob Hrow7.out b e.symm).1; omega)).trans g1
        have g3 : Boxed (w8.setCell ⟨w.heap.size + 1 + 1 + 1, 0, none⟩ (.slice A8 (pre ++ [x]).length k8)) b tt v := g2.other (by omega) _
        have g4 : Boxed w10 b tt v := (hg10.1.block b (by simp; omega) (fun e => by have := (own_ob Hown9.out b e.symm).1; omega)).trans g3
        exact g4.other (by omega) _
      have hE9 : Boxed (w8.setCell ⟨w.heap.size + 1 + 1 + 1, 0, none⟩ (.slice A8 (pre ++ [x]).length k8)) (w.heap.size + 1 + 1 + 1) 56 (.slice A8 (pre ++ [x]).length k8) := hE8.set _
      have hE10 : Boxed w10 (w.heap.size + 1 + 1 + 1) 56 (.slice A8 (pre ++ [x]).length k8) := (hg10.1.block (w.heap.size + 1 + 1 + 1) (by simp; omega) (fun e => by have := (own_ob Hown9.out _ e.symm).1; omega)).trans hE9
      have hbt : But w.heap.size w2.heap.size w6.heap.size W (w10.setCell ⟨w.heap.size + 1 + 1, 0, none⟩ (.slice A10 LB.length k10)) :=
        (((but_of hb7 hsz).trans (but_grow Hg78.out (fun g hg => (oc_ob Hrow7.out g hg).1) (Nat.le_refl _) (by omega))).trans (But.set w8 (by omega) _)).trans
          ((but_grow hg10 (fun g hg => (own_ob Hown9.out g hg).1) (Nat.le_refl _) (by simp; omega)).trans (But.set w10 (by omega) _))
      refine ⟨((((keeps_of_below hb7 _).trans (keeps_grow Hg78.out Hrow7.out _)).trans ((KeepsOthers.setCell w8 ⟨w.heap.size + 1 + 1 + 1, 0, none⟩ (.slice A8 (pre ++ [x]).length k8)).from _)).trans (keeps_grow hg10 (Hown9.out : Oc 1 _ 5 w6.heap.size A2 L.length d2 (bvs L)) _)).trans ((KeepsOthers.setCell w10 ⟨w.heap.size + 1 + 1, 0, none⟩ (.slice A10 LB.length k10)).from _), hbt,
        A10, k10, LB, A8, k8, E ++ [xe], hO10.set _, Own.setLow (ho10 : Own w10 5 w6.heap.size A10 k10 LB) (by show w.heap.size + 1 + 1 < _; omega) _, HL2.out, HLBb.out, hE10.other (by omega) _, row11, HE2.out, HEb.out, ap11, hbut.trans hbt, by simp; omega, hgo R1.out (by omega), hgo R2.out (by omega), Hall.out⟩
  case done =>
    rintro D xs W hD hS ⟨A2, d2, L, Ai, ci, E, hbo, hown, hL, hLl, hbi, hrow, hE, hEb, hap, hbut, hsz, r1, r2, hall⟩ hK
    have hmay : ∀ r ∈ l, Fm.May r := may_chk fun p hp => by
      rw [Hl.out, ← hS] at hp
      obtain ⟨q, hq, rfl⟩ := List.mem_map.1 hp
      exact hall q hq
    have hC : (xs.map (·.1)).map (chk l) = Hm.ch l := by
      have h := chk_ch l
      rw [Hl.out] at h
      rw [← h]
      exact congrArg (List.map (chk l)) hS
    have hCl := congrArg List.length hC
    rw [List.length_map, List.length_map] at hCl
    have hc10 := Hm.ch_few Hf.out
    rw [hC] at hL hE
    have hbl := Hm.body_len (Hm.ch l) (fun c hc => Hm.ch_enc Hf.out hc)
    rw [← hL] at hbl
    obtain ⟨N, hN⟩ : ∃ N, N = L ++ Hm.tailw (E.map e2) := ⟨_, rfl⟩
    have hwr : Hm.wrS l = (N, 0) := by
      rw [Hm.wrS_ok hmay, hN, hL, hE]
      rfl
    have hbel : Below w.heap.size w W := b06.trans (hbut.below (by omega))
    have hTW := (hT6.other (hbut.block w2.heap.size (by omega) (by omega))).more (B' := W.heap.size) (by omega)
    have hct := (boxed_but ht6 hbut (by omega) (by omega)).cell
    have hai := addIndex_c A2 d2 w6.heap.size L (some ⟨w2.heap.size, 0, none⟩) 256 Ai xs.length ci E W hown hsz hTW hrow.rc (by omega) hEb (by omega)
    rw [← hN] at hai
    have hbo2 := hbo.cell
    have hbi2 := hbi.cell
    have hDb : W.heap[D]? = some (.deferred (some [])) := hK
    have hDne : some D ≠ ob A2 := fun e => by
      rcases hown.2 with ⟨hv, hn⟩ | ⟨g, cap, cur, hv, hbg, hg2, _⟩
      · injection hv with hv
        subst hv
        cases e
      · injection hv with hv
        subst hv
        cases e
        rw [hg2] at hDb
        injection hDb with hDb
        cases hDb
    have hlo : ∀ b, b < w6.heap.size → some b ≠ ob A2 := fun b hb e => by have := (own_ob hown b e.symm).1; omega
    have Hwr := Lib.hid hwr; have Hai := Lib.hid hai; have R1 := Lib.hid r1; have R2 := Lib.hid r2; have Hbut := Lib.hid hbut; have HDne := Lib.hid hDne; have Hlo := Lib.hid hlo
    clear hwr hai r1 r2 hbut hmay hC hCl hbl hN hTW hown hL hLl hE hEb hap hall hDb hDne hlo
    gi_wp2_with (refine ⟨trivial, ?_⟩; gi_at_call 29; refine (callsIn_wide.2 Hai.out).mono ?_; rintro e w7 ⟨A7, k7, rfl, ho7, hg7⟩; have z7 := hg7.size; have g1 := (hg7.block w.heap.size (by omega) (Hlo.out _ (by omega))).trans R1.out; have g2 := (hg7.block (w.heap.size + 1) (by omega) (Hlo.out _ (by omega))).trans R2.out; have g1' : Boxed w7 w.heap.size 22 (.slice none 0 0) := g1; have g2' : Boxed w7 (w.heap.size + 1) 25 (.int .i64 0) := g2; have g1c := g1'.cell; have g1f := g1'.frozen; have g2c := g2'.cell; have g2f := g2'.frozen)
    have hDl := (Array.getElem?_eq_some_iff.1 hK).1
    have hK7 : w7.heap[D]? = some (.deferred (some [])) := (hg7.block D hDl HDne.out).trans hK
    obtain ⟨W3, hW3⟩ : ∃ W3, W3 = (w7.setCell ⟨w.heap.size, 0, none⟩ (.slice A7 N.length k7)).setCell ⟨w.heap.size + 1, 0, none⟩ (.int .i64 0) := ⟨_, rfl⟩
    have hK3 : W3.heap[D]? = some (.deferred (some [])) := by
      rw [hW3]
      exact ((KeepsOthers.setCell w7 ⟨w.heap.size, 0, none⟩ (.slice A7 N.length k7)).trans (KeepsOthers.setCell _ _ _)).same D _ hK7 rfl
    have k1 : Boxed W3 w.heap.size 22 (.slice A7 N.length k7) := by rw [hW3]; exact (g1'.set _).other (by omega) _
    have k2 : Boxed W3 (w.heap.size + 1) 25 (.int .i64 0) := by rw [hW3]; exact (g2'.other (by omega) _).set _
    have ho3 : Own W3 5 w6.heap.size A7 k7 N := by rw [hW3]; exact (ho7.setLow (by show w.heap.size < w6.heap.size; omega) _).setLow (by show w.heap.size + 1 < w6.heap.size; omega) _
    have hb7 : But w.heap.size w2.heap.size w6.heap.size W w7 := ⟨hg7.os, hg7.tape, hg7.output, hg7.size, fun k hk _ => hg7.block k (by omega) (Hlo.out k hk)⟩
    have hb3 : But w.heap.size w2.heap.size w6.heap.size w6 W3 := by
      rw [hW3]
      exact (Hbut.out.trans hb7).trans ((But.set w7 (by omega) _).trans (But.set _ (by omega) _))
    rw [← hW3]
    have hg := grownBy_putObj' W3 D (.deferred none)
    have hnc : ∀ r, some D = some r → ∃ o : Obj, W3.heap[r]? = some o ∧ o.isCells = false := fun r e => by cases e; exact ⟨_, hK3, rfl⟩
    have hne : ∀ b, b < w6.heap.size → some b ≠ some D := fun b hb e => by cases e; omega
    refine ⟨by simp, .inl ⟨_, _, rfl, run_takeDeferred hK3, ?_⟩⟩
    refine ⟨_, results_cells2 rfl rfl rfl (k1.kept hg (hne _ (by omega))).cell (k2.kept hg (hne _ (by omega))).cell Try.isAgg22 Try.isAgg25, A7, k7, ?_, ?_, ?_⟩
    · rw [Hwr.out]; rfl
    · rw [Hwr.out]
      exact (oc_turn' ho3 hg hnc).mono (by omega)
    · exact (b06.trans (hb3.below (by omega))).trans ((but_put (lo := w.heap.size) (hi := w2.heap.size) (o' := .deferred none) hD hK3).below (by omega))
  case stop =>
    rintro D j pre W hD hpre ⟨rfl, ⟨p, hp, hpn⟩, hbut, hsz, r1, r2⟩ hK
    have hwr : Hm.wrS l = ([], 10) := Hm.wrS_err (chk_bad hpn)
    have Hwr := Lib.hid hwr; clear hwr
    gi_wp2
    have hg := grownBy_putObj' W D (.deferred none)
    have hne : ∀ b, b < w6.heap.size → some b ≠ some D := fun b hb e => by cases e; omega
    refine ⟨by simp, .inl ⟨_, _, rfl, run_takeDeferred hK, ?_⟩⟩
    refine ⟨_, results_cells2 rfl rfl rfl (r1.kept hg (hne _ (by omega))).cell (r2.kept hg (hne _ (by omega))).cell Try.isAgg22 Try.isAgg25, none, 0, ?_, ?_, ?_⟩
    · rw [Hwr.out]; rfl
    · rw [Hwr.out]; exact Own.nil _ _ _
    · exact (b06.trans (hbut.below (by omega))).trans ((but_put (lo := w.heap.size) (hi := w2.heap.size) (o' := .deferred none) hD hK).below (by omega))
end Go.Proofs.Ytplkjljhpmldfaa

/-
  The live question of chest's statements.
-/
namespace Go.Proofs.Ytplkjljhpmldfaa
open Go.RowKit

def R0 : Rcs := [[[97]], []]
theorem few_nil : Hm.Few [] := ⟨by decide, by decide⟩
theorem few_R0 : Hm.Few R0 := ⟨by decide, by decide⟩
theorem may_R0 : ∀ r ∈ R0, Fm.May r := by decide
theorem wr_nil_len : (Hm.wr []).length = 13 := by
  have h : Hm.wr [] = Hm.sealed (Hm.ixc []) ++ (Cm.four (Hm.sealed (Hm.ixc [])).length ++ Hm.tl) := rfl
  rw [h, List.length_append, List.length_append, Hm.sealed_len, Cm.four_len]
  decide +kernel
theorem wrS_nil : Hm.wrS [] = (Hm.wr [], 0) := Hm.wrS_ok (fun r hr => by cases hr)
theorem ch_R0 : Hm.ch R0 = [R0] := rfl

set_option maxRecDepth 100000 in
set_option maxHeartbeats 4000000 in
/-- alive -/
theorem alive_c (w : World) : Calls Try.prog 8 #[] w fun e w' => e = .returned (.bool true) ∧ Below w.heap.size w w' := by
  have h0 := write_c none 0 0 [] w (RL.nil _ _) few_nil (Nat.le_refl _)
  rw [wrS_nil] at h0
  unfold RetW at h0
  dsimp only at h0
  rw [wr_nil_len] at h0
  have H0 := Lib.hid h0; clear h0
  go_enter Try.func8, Try.ntmps8
  go_wp2_with fail
  refine H0.out.mono ?_
  rintro e w1 ⟨A1, c1, rfl, -, hb1⟩
  have z1 := hb1.size
  obtain ⟨w2, hw2⟩ : ∃ w2, w2 = w1.alloc (.cells #[.string ⟨#[97]⟩] 9) := ⟨_, rfl⟩
  obtain ⟨w3, hw3⟩ : ∃ w3, w3 = w2.alloc (.cells #[] 9) := ⟨_, rfl⟩
  obtain ⟨w4, hw4⟩ : ∃ w4, w4 = w3.alloc (.cells #[.slice (some ⟨w1.heap.size, 0, none⟩) 1 1, .slice (some ⟨w1.heap.size + 1, 0, none⟩) 0 0] 48) := ⟨_, rfl⟩
  have z2 : w2.heap.size = w1.heap.size + 1 := by rw [hw2]; simp
  have z3 : w3.heap.size = w1.heap.size + 2 := by rw [hw3]; simp [z2]
  have z4 : w4.heap.size = w1.heap.size + 3 := by rw [hw4]; simp [z3]
  have b12 : Below w1.heap.size w1 w2 := by rw [hw2]; exact (Below.refl _ _).alloc (Nat.le_refl _) _
  have b23 : Below w2.heap.size w2 w3 := by rw [hw3]; exact (Below.refl _ _).alloc (Nat.le_refl _) _
  have b34 : Below w3.heap.size w3 w4 := by rw [hw4]; exact (Below.refl _ _).alloc (Nat.le_refl _) _
  have b24 : Below w2.heap.size w2 w4 := b23.trans (b34.mono (by omega))
  have b14 : Below w1.heap.size w1 w4 := b12.trans (b24.mono (by omega))
  have hrec : Rc 1 w2 (w1.heap.size + 1) (some ⟨w1.heap.size, 0, none⟩) 1 1 (lvs [[97]]) := by
    rw [hw2]; exact Rc.lit (z := 1) w1 9 #[.string ⟨#[97]⟩] 1 rfl (by simp [maxLen])
  have hrl : RL w4 w4.heap.size (some ⟨w1.heap.size + 2, 0, none⟩) 2 2 R0 := by
    refine ⟨[.slice (some ⟨w1.heap.size, 0, none⟩) 1 1, .slice (some ⟨w1.heap.size + 1, 0, none⟩) 0 0], ?_, rfl, fun j v r g1 g2 => ?_⟩
    · have := Rc.lit (z := 1) w3 48 #[.slice (some ⟨w1.heap.size, 0, none⟩) 1 1, .slice (some ⟨w1.heap.size + 1, 0, none⟩) 0 0] 2 rfl (by simp [maxLen])
      rw [← hw4, z3] at this
      exact this.more (by omega)
    · match j, g1, g2 with
      | 0, g1, g2 =>
        simp [R0] at g1 g2
        subst g1 g2
        exact ⟨_, _, _, rfl, (hrec.below (b24.mono (by omega))).more (by omega)⟩
      | 1, g1, g2 =>
        simp [R0] at g1 g2
        subst g1 g2
        exact ⟨_, _, _, rfl, rfl, Nat.le_refl _, by simp [maxLen], fun h => absurd h (by omega)⟩
      | j + 2, g1, g2 => simp at g1
  have b04 : Below w.heap.size w w4 := hb1.trans (b14.mono z1)
  have h2 := write_c (some ⟨w1.heap.size + 2, 0, none⟩) 2 2 R0 w4 hrl few_R0 (Nat.le_refl _)
  rw [Hm.wrS_ok may_R0] at h2
  have hps := Hm.scS_wr few_R0 may_R0
  have hXl := Hm.wr_len few_R0 may_R0
  rw [ch_R0] at hps
  obtain ⟨X, hX⟩ : ∃ X, X = Hm.wr R0 := ⟨_, rfl⟩
  rw [← hX] at h2 hps hXl
  rw [hw4, hw3, hw2] at h2
  have H2 := Lib.hid h2; have HPS := Lib.hid hps; have B04 := Lib.hid b04
  clear h2 hps hrl hrec hX b12 b23 z2 z3 z4 b34 b24 b14 b04
  go_wp2_with fail
  refine H2.out.mono ?_
  rw [← hw2, ← hw3, ← hw4]
  clear hw2 hw3 hw4
  rintro e w5 ⟨A5, c5, rfl, ho5, hb5⟩
  have b05 : Below w.heap.size w w5 := B04.out.trans (hb5.mono B04.out.size)
  have hsc := scan_c A5 X.length c5 X w5 ho5.rb (by omega)
  rw [HPS.out] at hsc
  have Hsc := Lib.hid hsc
  clear hsc ho5
  go_wp2_with fail
  refine Hsc.out.mono ?_
  rintro e w6 ⟨A6, c6, rfl, hpl, hb6⟩
  dsimp only at hpl ⊢
  have e1 : (Hm.pcs 0 [R0]).length = 1 := rfl
  rw [e1] at hpl ⊢
  obtain ⟨b, off, p, D, m, d, rfl, hbS, hca, hcb, hp0, hrl⟩ := hpl.at_ (k := 0) (by omega)
  have e2 : p = (0, R0) := by
    have : (Hm.pcs 0 [R0])[0]? = some (0, R0) := rfl
    rw [this] at hp0
    injection hp0 with hp0
    exact hp0.symm
  subst e2
  have hm : m = 2 := hrl.len.symm
  subst hm
  have hca' : w6.cell? ⟨b, off, none⟩ = some (.int .i64 0) := by simpa using hca
  have hcb' : w6.cell? ⟨b, off + 1, none⟩ = some (.slice D 2 d) := by simpa using hcb
  have bz := b05.trans (hb6.mono b05.size)
  clear hpl hca hcb hp0 hrl e1
  go_wp2
  go_ret
  exact ⟨rfl, bz⟩
end Go.Proofs.Ytplkjljhpmldfaa
