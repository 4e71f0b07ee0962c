/-
  seq's Scan: what the call returns and leaves.
-/
import Derived.Test.YtddnlimkaagpdaaDoorUd
import Derived.Test.YtddnlimkaagpdaaDoorUc
namespace Go.Proofs.YtddnlimkaagpdaaDoor
open Go.RowKit Go.Shelf
attribute [local go_sem] Oper.semAt_some

theorem sg_lt {b : List UInt8} {t : Nat} : ∀ (k f : Nat) (p : Nat × Nat), p ∈ Sm.segs b t k f → p.1 < t
  | 0, f, p, h => by simp [Sm.segs] at h
  | k + 1, f, p, h => by
    rw [Sm.segs] at h
    split at h
    · rcases List.mem_cons.1 h with rfl | h
      · assumption
      · exact sg_lt k _ p h
    · cases h
/-- What the loop of Scan carries. -/
def ScI (l : List UInt8) (n s bl n₀ : Nat) (wL : World) (pre : List (Bk n)) (W : World) : Prop :=
  ∃ A k c vs, Boxed W bl 24 (.slice A k c) ∧ Oc 2 W 47 n₀ A k c vs ∧ PsS W (Sc n₀ W A) vs (Sm.pcs l (pre.map (·.1))) ∧ But s (bl + 1) n₀ wL W ∧ n₀ ≤ W.heap.size ∧
    Boxed W s 24 (.slice none 0 0) ∧ Boxed W (s + 1) 3 (.int .i64 0) ∧ Boxed W (s + 1 + 1) 25 (.int .i64 0) ∧ ∀ p ∈ pre, (Sm.val l p.1).isSome = true
/-- It left by an invalid block. -/
def ScX (l : List UInt8) (n s bl n₀ : Nat) (wL : World) (j : Code) (pre : List (Bk n)) (W : World) : Prop :=
  j = .ret ∧ ∃ A k c vs q, ∃ x : Bk n, pre = q ++ [x] ∧ Sm.val l x.1 = none ∧ (∀ p ∈ q, (Sm.val l p.1).isSome = true) ∧ Oc 2 W 47 n₀ A k c vs ∧ PsS W (Sc n₀ W A) vs (Sm.pcs l (q.map (·.1))) ∧ But s (bl + 1) n₀ wL W ∧ n₀ ≤ W.heap.size ∧
    Boxed W s 24 (.slice A k c) ∧ Boxed W (s + 1) 3 (.int .i64 (x.1.1 : Int)) ∧ Boxed W (s + 1 + 1) 25 (.int .i64 3)
theorem scI_own (l : List UInt8) (n s bl n₀ : Nat) (wL : World) (hlo : bl + 1 ≤ n₀) (hsb : s + 3 ≤ bl) : OwnFrom n₀ (ScI l n s bl n₀ wL) := by
  rintro pre W W' row ⟨A, k, c, vs, h1, h2, h3, h4, h5, h6, h7, h8, h9⟩ hg hr
  have hk : ∀ {b : Nat} {t : TypeId} {v : Value}, Boxed W b t v → b < n₀ → Boxed W' b t v := fun {b} _ _ h hb => h.kept hg (fun e => by have := (hr b e.symm).1; omega)
  exact ⟨A, k, c, vs, hk h1 (by omega), oc_turn h2 hg (fun r e => (hr r e).2), h3.keep (sc_turn hg fun r e => (hr r e).2), but_turn h4 hg (fun r e => (hr r e).1) h5, Nat.le_trans h5 hg.size, hk h6 (by omega), hk h7 (by omega), hk h8 (by omega), h9⟩
theorem scX_own (l : List UInt8) (n s bl n₀ : Nat) (wL : World) (hlo : bl + 1 ≤ n₀) (hsb : s + 3 ≤ bl) (j : Code) : OwnFrom n₀ (ScX l n s bl n₀ wL j) := by
  rintro pre W W' row ⟨hj, A, k, c, vs, q, x, g1, g2, g3, h2, h3, h4, h5, h6, h7, h8⟩ hg hr
  have hk : ∀ {b : Nat} {t : TypeId} {v : Value}, Boxed W b t v → b < n₀ → Boxed W' b t v := fun {b} _ _ h hb => h.kept hg (fun e => by have := (hr b e.symm).1; omega)
  exact ⟨hj, A, k, c, vs, q, x, g1, g2, g3, oc_turn h2 hg (fun r e => (hr r e).2), h3.keep (sc_turn hg fun r e => (hr r e).2), but_turn h4 hg (fun r e => (hr r e).1) h5, Nat.le_trans h5 hg.size, hk h6 (by omega), hk h7 (by omega), hk h8 (by omega)⟩

def RetSc (w : World) (l : List UInt8) (e : Ending) (w' : World) : Prop :=
  ∃ A c, e = .returned (.tuple #[.slice A (Sm.ps l).1.length c, .int .i64 ((Sm.ps l).2 : Int), .int .i64 (Sm.er l : Int)]) ∧ PLS w' (Fr w.heap.size w') A (Sm.ps l).1.length c (Sm.ps l).1 ∧ Below w.heap.size w w'

set_option maxRecDepth 100000 in
set_option maxHeartbeats 4000000 in
/-- Scan -/
theorem scan_c (A : Option Addr) (n c : Nat) (l : List UInt8) (w : World) (hr : Rb w w.heap.size A n c l) (hn : n ≤ 900000) (hx : Mx w) :
    Calls Tryd.prog 21 #[.slice A n c] w (RetSc w l) := by
  have hl := hr.len
  have hw0 := hx.2
  obtain ⟨w1, hw1⟩ : ∃ w1, w1 = ((w.alloc (.cells #[.slice none 0 0] 24)).alloc (.cells #[.int .i64 0] 3)).alloc (.cells #[.int .i64 0] 25) := ⟨_, rfl⟩
  have z1 : w1.heap.size = w.heap.size + 1 + 1 + 1 := by rw [hw1]; simp
  have b1 : Below w.heap.size w w1 := by rw [hw1]; exact (((Below.refl _ _).alloc (Nat.le_refl _) _).alloc (by simp) _).alloc (by simp; omega) _
  have c1 : Boxed w1 w.heap.size 24 (.slice none 0 0) := by rw [hw1]; exact ((Boxed.new w _ _).alloc _).alloc _
  have c2 : Boxed w1 (w.heap.size + 1) 3 (.int .i64 0) := by
    rw [hw1]
    have := (Boxed.new (w.alloc (.cells #[.slice none 0 0] 24)) 3 (.int .i64 0)).alloc (.cells #[.int .i64 0] 25)
    rwa [World.size_alloc] at this
  have c3 : Boxed w1 (w.heap.size + 1 + 1) 25 (.int .i64 0) := by
    rw [hw1]
    have := Boxed.new ((w.alloc (.cells #[.slice none 0 0] 24)).alloc (.cells #[.int .i64 0] 3)) 25 (.int .i64 0)
    rwa [World.size_alloc, World.size_alloc] at this
  obtain ⟨w2, hw2⟩ : ∃ w2, w2 = w1.alloc (.cells #[.int .u8 84, .int .u8 83, .int .u8 81, .int .u8 49] 5 (4, 5)) := ⟨_, rfl⟩
  have z2 : w2.heap.size = w1.heap.size + 1 := by rw [hw2]; simp
  have b2 : Below w1.heap.size w1 w2 := by rw [hw2]; exact (Below.refl _ _).alloc (Nat.le_refl _) _
  have hlit : Rb w2 (w1.heap.size + 1) (some ⟨w1.heap.size, 0, none⟩) 4 4 Sm.hd := by rw [hw2]; exact Rb.lit w1 _ _ _ _ 4 rfl rfl (by omega)
  have hcv : (convert 22 22 (.slice (some ⟨w1.heap.size, 0, none⟩) 4 4)).run Tryd.prog (w1.alloc (.cells #[.int .u8 84, .int .u8 83, .int .u8 81, .int .u8 49] 5)) = .ok (.slice (some ⟨w1.heap.size, 0, none⟩) 4 4) w2 := by
    rw [hw2]; exact Lib.run_convert_bytes_const (P := Tryd.prog) w1 22 5 #[.int .u8 84, .int .u8 83, .int .u8 81, .int .u8 49] 4 4 Tryd.underlying22 Tryd.underlying5
  rw [z1] at hlit hcv
  rw [hw1] at hcv
  have q2 : w.heap.size + 4 ≤ w2.heap.size := by omega
  have b02 : Below w.heap.size w w2 := b1.trans (b2.mono (by omega))
  have hpre := hasp_c A (some ⟨w.heap.size + 1 + 1 + 1, 0, none⟩) n c 4 4 _ _ l Sm.hd w2 (hr.below b02) hlit (decide (l.take 4 = Sm.hd)) rfl
  have Hr := Lib.hid hr; have Hx := Lib.hid hx; have Hl := Lib.hid hl; have B02 := Lib.hid b02; have C1 := Lib.hid (boxed_below c1 b2 (by omega)); have C2 := Lib.hid (boxed_below c2 b2 (by omega)); have C3 := Lib.hid (boxed_below c3 b2 (by omega))
  clear hr hx hl b1 b2 b02 hlit hw1 hw2 c1 c2 c3 z1 z2
  by_cases hhd : l.take 4 = Sm.hd
  · rw [decide_eq_true hhd] at hpre
    have Hpre := Lib.hid hpre; clear hpre
    refine (callsIn_wide (n := 9)).1 ?_
    refine callsIn_of_wp_marks Tryd.func21 rfl trivial ?_ rfl
    simp only [Tryd.ntmps21, List.size_toArray, List.length_cons, List.length_nil, Nat.reduceAdd, Nat.reduceSub, Array.replicate_succ, Array.replicate_zero, List.push_toArray, List.append_toArray, List.nil_append, List.cons_append]
    gi_wp2_with (refine ⟨trivial, ?_⟩; gi_at_call 38; refine (callsIn_wide.2 Hpre.out).mono ?_; rintro e w3 ⟨rfl, rfl⟩)
    obtain ⟨w3, hw3⟩ : ∃ w3, w3 = w2.alloc (.cells #[.slice none 0 0] 24) := ⟨_, rfl⟩
    have b23 : Below w2.heap.size w2 w3 := by rw [hw3]; exact (Below.refl _ _).alloc (Nat.le_refl _) _
    have z3 : w3.heap.size = w2.heap.size + 1 := by rw [hw3]; simp
    have hl3 : Boxed w3 w2.heap.size 24 (.slice none 0 0) := by rw [hw3]; exact Boxed.new w2 _ _
    rw [← hw3]
    clear hw3 hcv
    refine ⟨trivial, (callsIn_wide.2 (table_c w3)).mono ?_⟩
    rintro e w4 ⟨rfl, ht4, hb4, hz4⟩
    have HL3 := Lib.hid (boxed_below hl3 hb4 (by omega))
    rw [z3] at ht4 hb4
    rw [z3]
    have HT4 := Lib.hid ht4; have HB4 := Lib.hid hb4
    clear hl3 ht4
    have q4 : w2.heap.size + 1 < w4.heap.size := by omega
    clear hz4 z3 hb4
    gi_wp2
    obtain ⟨w5, hw5⟩ : ∃ w5, w5 = w4.alloc (.cells #[.slice (some ⟨w2.heap.size + 1, 0, none⟩) 256 256] 56) := ⟨_, rfl⟩
    have ht5 : Boxed w5 w4.heap.size 56 (.slice (some ⟨w2.heap.size + 1, 0, none⟩) 256 256) := by rw [hw5]; exact Boxed.new w4 _ _
    have b45 : Below w4.heap.size w4 w5 := by rw [hw5]; exact (Below.refl _ _).alloc (Nat.le_refl _) _
    have z5 : w5.heap.size = w4.heap.size + 1 := by rw [hw5]; simp
    rw [← hw5]
    clear hw5
    refine ⟨trivial, (callsIn_wide.2 (blocks_c A n c 4 (n : Int) w5)).mono ?_⟩
    rintro e w6 ⟨rfl, hw6⟩
    have z6 : w6.heap.size = w5.heap.size + 3 := by rw [hw6]; simp
    have b56 : Below w5.heap.size w5 w6 := by rw [hw6]; exact (((Below.refl _ _).alloc (Nat.le_refl _) _).alloc (by simp) _).alloc (by simp; omega) _
    have hBb : w6.cell? ⟨w5.heap.size, 0, none⟩ = some (.slice A n c) := by
      rw [hw6, World.cell?_alloc_lt _ _ _ (by simp; omega), World.cell?_alloc_lt _ _ _ (by simp)]; simp
    have hBf : w6.cell? ⟨w5.heap.size + 1, 0, none⟩ = some (.int .i64 ((4 : Nat) : Int)) := by
      rw [hw6, World.cell?_alloc_lt _ _ _ (by simp)]
      have := (Boxed.new (w5.alloc (.cells #[.slice A n c] 22)) 3 (.int .i64 4)).cell
      rwa [World.size_alloc] at this
    have hBt : w6.cell? ⟨w5.heap.size + 2, 0, none⟩ = some (.int .i64 (n : Int)) := by
      rw [hw6]
      have := (Boxed.new ((w5.alloc (.cells #[.slice A n c] 22)).alloc (.cells #[.int .i64 4] 3)) 3 (.int .i64 (n : Int))).cell
      rwa [World.size_alloc, World.size_alloc] at this
    clear hw6
    have b26 : Below (w2.heap.size + 1) w4 w6 := (b45.trans (b56.mono (by omega))).mono (by omega)
    have b46 : Below w4.heap.size w4 w6 := b45.trans (b56.mono (by omega))
    have b36 : Below (w2.heap.size + 1) w3 w6 := HB4.out.trans b26
    have b06 : Below w.heap.size w w6 := (B02.out.trans (b23.mono (by omega))).trans (b36.mono (by omega))
    have hl6 : Boxed w6 w2.heap.size 24 (.slice none 0 0) := boxed_below HL3.out b46 (by omega)
    have ht6 : Boxed w6 w4.heap.size 56 (.slice (some ⟨w2.heap.size + 1, 0, none⟩) 256 256) := boxed_below ht5 b56 (by omega)
    have hT6 : Rn w6 w4.heap.size (some ⟨w2.heap.size + 1, 0, none⟩) 256 256 Cm.tab := HT4.out.below b46
    have b2to6 : Below w2.heap.size w2 w6 := b23.trans (b36.mono (by omega))
    have c1 := boxed_below C1.out b2to6 (by omega)
    have c2 := boxed_below C2.out b2to6 (by omega)
    have c3 := boxed_below C3.out b2to6 (by omega)
    have hr6 := Hr.out.below b06
    have hx6 := Hx.out.below' b06
    have q6 : w5.heap.size + 3 ≤ w6.heap.size := by omega
    have q5 : w4.heap.size + 1 ≤ w5.heap.size := by omega
    clear z6 z5 b56 b45 b23 b2to6
    gi_wp2
    refine wpIn_rangeFunc_ownG rfl (by omega) (gf := 57) (lb := #[.pointer (some ⟨w5.heap.size + 1, 0, none⟩), .pointer (some ⟨w5.heap.size + 2, 0, none⟩), .pointer (some ⟨w5.heap.size, 0, none⟩)]) rfl trivial
      (enters_of Tryd.func57 (by kernel_rfl) rfl)
      (blocks_stops A n c l 4 n w.heap.size (w2.heap.size + 1) w6 hr6 (by omega) hx6 hw0 (w5.heap.size + 1) (w5.heap.size + 2) w5.heap.size ⟨hBf, by omega, by omega⟩ ⟨hBt, by omega, by omega⟩ ⟨hBb, by omega, by omega⟩ (by omega) (Nat.le_refl _) 7)
      (fun h k => h.trans k) (fun W L o o' h1 h2 _ _ => but_put h1 h2) (Below.refl _ _) (fun _ => rfl)
      (ScI l n w.heap.size w2.heap.size w6.heap.size w6) (ScX l n w.heap.size w2.heap.size w6.heap.size w6) (scI_own l n _ _ _ w6 (by omega) (by omega)) (scX_own l n _ _ _ w6 (by omega) (by omega))
      ⟨none, 0, 0, [], hl6, Oc.nil _ _ _ _, PsS.nil, But.refl _, Nat.le_refl _, c1, c2, c3, fun p hp => by cases hp⟩
      (fun x => { tmps := #[.slice A n c, undef, .pointer (some ⟨w.heap.size, 0, none⟩), .pointer (some ⟨w.heap.size + 1, 0, none⟩), .pointer (some ⟨w.heap.size + 1 + 1, 0, none⟩), .pointer (some ⟨w2.heap.size, 0, none⟩), .pointer (some ⟨w4.heap.size, 0, none⟩),
        .int .i64 (x.1.1 : Int), .slice (cutA A c x.1.1) (x.1.2 - x.1.1) (c - x.1.1), undef, undef, .slice A n c, .slice (some ⟨w.heap.size + 1 + 1 + 1, 0, none⟩) 4 4, .slice (some ⟨w.heap.size + 1 + 1 + 1, 0, none⟩) 4 4, .bool true, .bool false,
        .slice (some ⟨w2.heap.size + 1, 0, none⟩) 256 256, .slice A n c, .slice A n c, .int .i64 (n : Int),
        .func (.func 57) #[] #[.pointer (some ⟨w5.heap.size + 1, 0, none⟩), .pointer (some ⟨w5.heap.size + 2, 0, none⟩), .pointer (some ⟨w5.heap.size, 0, none⟩)], .int .i64 (x.1.1 : Int), .slice (cutA A c x.1.1) (x.1.2 - x.1.1) (c - x.1.1),
        undef, undef, undef, undef, undef, undef, undef, undef, undef, undef, undef, undef, undef, undef, undef, undef, undef, undef, undef], defers := [] }) ?assign ?body ?done ?stop
    case assign =>
      intro L x W K hK
      simp only [encB]
      gi_wp2
      exact hK
    case body =>
      rintro L pre x W ⟨A2, k2, c2, vs, hbx, hoc, hps, hbut, hsz, r1, r2, r3, hall⟩ hlen
      have hbel : Below w.heap.size w W := b06.trans (hbut.below (by omega))
      have hrW := ((Hr.out.below hbel).midE x.2.1 x.2.2).more (B' := W.heap.size) hbel.size
      have hTW := (hT6.other (hbut.block (w2.heap.size + 1) (by omega) (by omega))).more (B' := W.heap.size) (by omega)
      have hrc := records_c (some ⟨w2.heap.size + 1, 0, none⟩) 256 (cutA A c x.1.1) (x.1.2 - x.1.1) (c - x.1.1) ((l.take x.1.2).drop x.1.1) W hTW hrW (by have := x.2.2; omega)
      have hct := (boxed_but ht6 hbut (by omega) (by omega)).cell
      have hkb : k2 ≤ n + 1 := by
        have h1 := hps.1
        have h2 := hoc.1
        have h3 : (Sm.pcs l (pre.map (·.1))).length = pre.length := by simp [Sm.pcs]
        omega
      have e : Sm.blk ((l.take x.1.2).drop x.1.1) = Sm.val l x.1 := rfl
      rw [e] at hrc
      rcases hval : Sm.val l x.1 with _ | rs
      · rw [hval] at hrc
        have Hrc := Lib.hid hrc; have Hval := Lib.hid hval; have Hbx := Lib.hid hbx; have Hoc := Lib.hid hoc; have Hps := Lib.hid hps; have R1 := Lib.hid r1; have R2 := Lib.hid r2; have R3 := Lib.hid r3; clear hrc hval hrW hTW hbx hoc hps r1 r2 r3
        gi_wp2_with (refine ⟨trivial, ?_⟩; gi_at_call 40; refine (CallsIn.inRound L (callsIn_wide.2 Hrc.out)).mono ?_; rintro e w7 ⟨hb7, A6, k6, c6, o6, rfl, rfl⟩; have hl7 := (boxed_below Hbx.out hb7 (by omega)).cell; have g1 := boxed_below R1.out hb7 (by omega); have g2 := boxed_below R2.out hb7 (by omega); have g3 := boxed_below R3.out hb7 (by omega); have g1c := g1.cell; have g1f := g1.frozen; have g2c := g2.cell; have g2f := g2.frozen; have g3c := g3.cell; have g3f := g3.frozen)
        have s1 : ∀ v, Stays w7 (w7.setCell ⟨w.heap.size, 0, none⟩ v) (Sf w6.heap.size w7 A2) (Sf w6.heap.size (w7.setCell ⟨w.heap.size, 0, none⟩ v) A2) := fun v => sf_low (by omega) v
        have hps7 := (Hps.out.keep (stays_weak sc_sf)).keep (sf_below hb7)
        have ho7 := Hoc.out.keep hb7
        refine ⟨(((keeps_of_below hb7 _).trans ((KeepsOthers.setCell _ _ _).from _)).trans ((KeepsOthers.setCell _ _ _).from _)).trans ((KeepsOthers.setCell _ _ _).from _), rfl, A2, k2, c2, vs, pre, x, rfl, Hval.out, hall,
          oc_low (oc_low (oc_low ho7 (by omega) _) (by omega) _) (by omega) _, (((hps7.keep (sf_low (by omega) _)).keep (sf_low (by omega) _)).keep (sf_low (by omega) _)).cells, ?_, by have := hb7.size; simp; omega,
          ((g1.set _).other (by omega) _).other (by omega) _, ((g2.other (by omega) _).set _).other (by omega) _, ((g3.other (by omega) _).other (by omega) _).set _⟩
        exact hbut.trans ((((but_of hb7 hsz).trans (But.set w7 (by omega) _)).trans (But.set _ (by omega) _)).trans (But.set _ (by omega) _))
      · rw [hval] at hrc
        have Hrc := Lib.hid hrc; have Hval := Lib.hid hval; have Hbx := Lib.hid hbx; have Hoc := Lib.hid hoc; have Hps := Lib.hid hps; have R1 := Lib.hid r1; have R2 := Lib.hid r2; have R3 := Lib.hid r3; clear hrc hval hrW hTW hbx hoc hps r1 r2 r3 e
        gi_wp2_with (first
          | (refine ⟨trivial, ?_⟩; gi_at_call 40; refine (CallsIn.inRound L (callsIn_wide.2 Hrc.out)).mono ?_; rintro e w7 ⟨hb7, A6, k6, c6, o6, rfl, rfl, rfl, hrl7⟩; have hl7 := (boxed_below Hbx.out hb7 (by omega)).cell; have Hrl7 := Lib.hid hrl7; have Hoc7 := Lib.hid (Hoc.out.keep hb7); have z7 := hb7.size; clear hrl7)
          | (gi_at_builtin; refine pty.wpInApp rfl (.tmp 33) (.tmp 37) rfl (n := k2) (m := 1) (N := k2 + 1) (us := [.int .i64 (x.1.1 : Int), .slice A6 rs.length c6]) (ws := vs ++ [.int .i64 (x.1.1 : Int), .slice A6 rs.length c6]) rfl rfl (Hoc7.out.alloc _) (Rc.lit (z := 2) w7 47 #[.int .i64 (x.1.1 : Int), .slice A6 rs.length c6] 1 rfl (by simp [maxLen])) (by intro v hv; simp at hv; rcases hv with rfl | rfl <;> rfl) rfl rfl (by omega) (by omega) (by simp; omega) ?_; intro A8 c8 w8 ho8 hg8; have hB8 : Boxed w8 w2.heap.size 24 (.slice A2 k2 c2) := (hg8.1.block w2.heap.size (by simp; omega) (fun e => by have := (oc_ob Hoc7.out w2.heap.size e.symm).1; omega)).trans ((boxed_below Hbx.out hb7 (by omega)).alloc _); have hl8 := hB8.cell; have hf8 := hB8.frozen))
        obtain ⟨w7a, hw7a⟩ : ∃ w7a, w7a = w7.alloc (.cells #[.int .i64 (x.1.1 : Int), .slice A6 rs.length c6] 47) := ⟨_, rfl⟩
        rw [← hw7a] at hg8
        have b7a : Below w7.heap.size w7 w7a := by rw [hw7a]; exact (Below.refl _ _).alloc (Nat.le_refl _) _
        have z7a : w7.heap.size ≤ w7a.heap.size := b7a.size
        have ho7a : Oc 2 w7a 47 w6.heap.size A2 k2 c2 vs := by rw [hw7a]; exact Hoc7.out.alloc _
        have hbW : Below W.heap.size W w7a := hb7.trans (b7a.mono z7)
        have hsf : PsS w8 (Sf w6.heap.size w8 A8) (vs ++ [.int .i64 (x.1.1 : Int), .slice A6 rs.length c6]) (Sm.pcs l (pre.map (·.1)) ++ [(x.1.1, rs)]) := by
          have h1 := (Hps.out.keep (stays_weak sc_sf)).keep (sf_below hbW)
          have h2 := (Hrl7.out.keep (S' := Sf w6.heap.size w7 A2) (stays_weak fun b hb => ⟨by have := hb.1; omega, hb.2, fun e => by have := (oc_ob Hoc.out b e.symm).2; have := hb.1; omega⟩)).keep (sf_below b7a)
          have h3 : PrS w7a (Sf w6.heap.size w7a A2) (.int .i64 (x.1.1 : Int)) (.slice A6 rs.length c6) (x.1.1, rs) := ⟨rfl, A6, rs.length, c6, rfl, h2⟩
          exact (h1.snoc h3).keep (sf_grow hg8)
        have hk8 : KeepsFrom w6.heap.size W w8 := (keeps_of_below hbW _).trans (keeps_grow hg8 ho7a _)
        have hb8 : But w.heap.size (w2.heap.size + 1) w6.heap.size W w8 := (but_of hbW hsz).trans (but_grow hg8 (fun g hg => (oc_ob ho7a g hg).1) (Nat.le_refl _) (by omega))
        have hsv : But w.heap.size (w2.heap.size + 1) w6.heap.size W (w8.setCell ⟨w2.heap.size, 0, none⟩ (.slice A8 (k2 + 1) c8)) := hb8.trans (But.set w8 (by omega) _)
        have hgo : ∀ {b : Nat} {tt : TypeId} {v : Value}, Boxed W b tt v → b < w2.heap.size → Boxed w8 b tt v := fun {b} _ _ h hb => (hg8.1.block b (by omega) (fun e => by have := (oc_ob ho7a b e.symm).1; omega)).trans (boxed_below h hbW (by omega))
        refine ⟨hk8.trans ((KeepsOthers.setCell w8 ⟨w2.heap.size, 0, none⟩ (.slice A8 (k2 + 1) c8)).from _), hsv, A8, k2 + 1, c8, _, hB8.set _, oc_low ho8 (by omega) _, ?_, hbut.trans hsv, by have := hg8.size; simp; omega,
          (hgo R1.out (by omega)).other (by omega) _, (hgo R2.out (by omega)).other (by omega) _, (hgo R3.out (by omega)).other (by omega) _, fun p hp => ?_⟩
        · have h3 := (hsf.keep (sf_low (lo := w2.heap.size) (by omega) (.slice A8 (k2 + 1) c8))).cells
          have e1 : Sm.pcs l ((pre ++ [x]).map (·.1)) = Sm.pcs l (pre.map (·.1)) ++ [(x.1.1, rs)] := by simp [Sm.pcs, Hval.out]
          rw [e1]
          exact h3
        · rcases List.mem_append.1 hp with hp | hp
          · exact hall p hp
          · simp at hp; subst hp; rw [Hval.out]; rfl
    case done =>
      rintro D xs W hD hS ⟨A2, k2, c2, vs, hbx, hoc, hps, hbut, hsz, r1, r2, r3, hall⟩ hK
      have hl2 := hbx.cell
      have g1c := r1.cell
      have g1f := r1.frozen
      have g2c := r2.cell
      have g2f := r2.frozen
      have g3c := r3.cell
      have g3f := r3.frozen
      rw [hS] at hps
      have hrun : Sm.ps l = (Sm.pcs l (Sm.sg l 4 n), n) := by
        rw [Sm.ps_head hhd, Hl.out, Sm.run_all l _ (fun p hp => by
          rw [← hS] at hp
          obtain ⟨q, hq, rfl⟩ := List.mem_map.1 hp
          exact hall q hq), Hl.out]
      have her : Sm.er l = 0 := by unfold Sm.er; rw [if_pos ⟨hhd, by rw [hrun, Hl.out]⟩]
      have hk2 : k2 = (Sm.pcs l (Sm.sg l 4 n)).length := by have h1 := hps.1; have h2 := hoc.1; omega
      have Hk2 := Lib.hid hk2; have Hrun := Lib.hid hrun; have Her := Lib.hid her; clear hk2 hrun her
      gi_wp2
      obtain ⟨W3, hW3⟩ : ∃ W3, W3 = ((W.setCell ⟨w.heap.size, 0, none⟩ (.slice A2 k2 c2)).setCell ⟨w.heap.size + 1, 0, none⟩ (.int .i64 (n : Int))).setCell ⟨w.heap.size + 1 + 1, 0, none⟩ (.int .i64 0) := ⟨_, rfl⟩
      have hK3 : W3.heap[D]? = some (.deferred (some [])) := by
        rw [hW3]
        exact (((KeepsOthers.setCell W ⟨w.heap.size, 0, none⟩ (.slice A2 k2 c2)).trans (KeepsOthers.setCell _ _ _)).trans (KeepsOthers.setCell _ _ _)).same D _ hK rfl
      have g1 : Boxed W3 w.heap.size 24 (.slice A2 k2 c2) := by rw [hW3]; exact ((r1.set _).other (by omega) _).other (by omega) _
      have g2 : Boxed W3 (w.heap.size + 1) 3 (.int .i64 (n : Int)) := by rw [hW3]; exact ((r2.other (by omega) _).set _).other (by omega) _
      have g3 : Boxed W3 (w.heap.size + 1 + 1) 25 (.int .i64 0) := by rw [hW3]; exact ((r3.other (by omega) _).other (by omega) _).set _
      have ho3 : Oc 2 W3 47 w6.heap.size A2 k2 c2 vs := by rw [hW3]; exact oc_low (oc_low (oc_low hoc (by omega) _) (by omega) _) (by omega) _
      have hp3 : PsS W3 (Sc w6.heap.size W3 A2) vs (Sm.pcs l (Sm.sg l 4 n)) := by
        rw [hW3]
        exact ((((hps.keep (stays_weak sc_sf)).keep (sf_low (by omega) _)).keep (sf_low (by omega) _)).keep (sf_low (by omega) _)).cells
      have hb3 : But w.heap.size (w2.heap.size + 1) w6.heap.size w6 W3 := by
        rw [hW3]
        exact hbut.trans (((But.set W (by omega) _).trans (But.set _ (by omega) _)).trans (But.set _ (by omega) _))
      rw [← hW3]
      have hg := grownBy_putObj' W3 D (.deferred none)
      have hnc : ∀ r, some D = some r → ∃ o : Obj, W3.heap[r]? = some o ∧ o.isCells = false := fun r e => by cases e; exact ⟨_, hK3, rfl⟩
      have hne : ∀ b, b < w6.heap.size → some b ≠ some D := fun b hb e => by cases e; omega
      refine ⟨by simp, .inl ⟨_, _, rfl, run_takeDeferred hK3, ?_⟩⟩
      refine ⟨_, results_cells3 rfl rfl rfl rfl (g1.kept hg (hne _ (by omega))).cell (g2.kept hg (hne _ (by omega))).cell (g3.kept hg (hne _ (by omega))).cell Tryd.isAgg24 Tryd.isAgg3 Tryd.isAgg25, A2, c2, ?_, ?_, ?_⟩
      · rw [Hrun.out, Her.out, Hk2.out]; rfl
      · rw [Hrun.out]
        dsimp only
        rw [← Hk2.out]
        exact ⟨vs, (oc_turn ho3 hg hnc).rcS.keep (stays_weak fun b hb => ⟨by have := hb.1; omega, hb.2⟩), (hp3.keep (sc_turn hg hnc)).keep (stays_weak fun b hb => ⟨by have := hb.1.1; omega, hb.1.2.1⟩)⟩
      · exact (b06.trans (hb3.below (by omega))).trans ((but_put (lo := w.heap.size) (hi := w2.heap.size + 1) (o' := .deferred none) hD hK3).below (by omega))
    case stop =>
      rintro D j pre W hD hpre ⟨rfl, A2, k2, c2, vs, q, x, rfl, hx, hall, hoc, hps, hbut, hsz, r1, r2, r3⟩ hK
      obtain ⟨rest, hrest⟩ := hpre
      rw [List.map_append, List.map_cons, List.map_nil, List.append_assoc] at hrest
      have hall2 : ∀ p ∈ q.map (·.1), (Sm.val l p).isSome = true := fun p hp => by
        obtain ⟨y, hy, rfl⟩ := List.mem_map.1 hp
        exact hall y hy
      have hrun : Sm.ps l = (Sm.pcs l (q.map (·.1)), x.1.1) := by
        rw [Sm.ps_head hhd, Hl.out, ← hrest]
        exact Sm.run_stop l _ _ _ hall2 hx
      have hxn : x.1.1 < n := sg_lt (b := l) (t := n) _ _ x.1 (show x.1 ∈ Sm.sg l 4 n by rw [← hrest]; simp)
      have her : Sm.er l = 3 := by unfold Sm.er; rw [if_neg (fun e => by have := e.2; rw [hrun, Hl.out] at this; dsimp only at this; omega)]
      have hk2 : k2 = (Sm.pcs l (q.map (·.1))).length := by have h1 := hps.1; have h2 := hoc.1; omega
      have Hk2 := Lib.hid hk2; have Hrun := Lib.hid hrun; have Her := Lib.hid her; clear hk2 hrun her hrest
      gi_wp2
      have hg := grownBy_putObj' W D (.deferred none)
      have hnc : ∀ r, some D = some r → ∃ o : Obj, W.heap[r]? = some o ∧ o.isCells = false := fun r e => by cases e; exact ⟨_, hK, rfl⟩
      have hne : ∀ b, b < w6.heap.size → some b ≠ some D := fun b hb e => by cases e; omega
      refine ⟨by simp, .inl ⟨_, _, rfl, run_takeDeferred hK, ?_⟩⟩
      refine ⟨_, results_cells3 rfl rfl rfl rfl (r1.kept hg (hne _ (by omega))).cell (r2.kept hg (hne _ (by omega))).cell (r3.kept hg (hne _ (by omega))).cell Tryd.isAgg24 Tryd.isAgg3 Tryd.isAgg25, A2, c2, ?_, ?_, ?_⟩
      · rw [Hrun.out, Her.out, Hk2.out]; rfl
      · rw [Hrun.out]
        dsimp only
        rw [← Hk2.out]
        exact ⟨vs, (oc_turn hoc hg hnc).rcS.keep (stays_weak fun b hb => ⟨by have := hb.1; omega, hb.2⟩), (hps.keep (sc_turn hg hnc)).keep (stays_weak fun b hb => ⟨by have := hb.1.1; omega, hb.1.2.1⟩)⟩
      · exact (b06.trans (hbut.below (by omega))).trans ((but_put (lo := w.heap.size) (hi := w2.heap.size + 1) (o' := .deferred none) hD hK).below (by omega))
  · rw [decide_eq_false hhd] at hpre
    have Hpre := Lib.hid hpre; clear hpre
    have e1 : Sm.ps l = ([], 0) := Sm.ps_not hhd
    have e2 : Sm.er l = 3 := Sm.er_not hhd
    have g1c := C1.out.cell
    have g1f := C1.out.frozen
    have g2c := C2.out.cell
    have g2f := C2.out.frozen
    have g3c := C3.out.cell
    have g3f := C3.out.frozen
    refine (callsIn_wide (n := 9)).1 ?_
    refine callsIn_of_wp_marks Tryd.func21 rfl trivial ?_ rfl
    simp only [Tryd.ntmps21, List.size_toArray, List.length_cons, List.length_nil, Nat.reduceAdd, Nat.reduceSub, Array.replicate_succ, Array.replicate_zero, List.push_toArray, List.append_toArray, List.nil_append, List.cons_append]
    gi_wp2_with (refine ⟨trivial, ?_⟩; gi_at_call 38; refine (callsIn_wide.2 Hpre.out).mono ?_; rintro e w3 ⟨rfl, rfl⟩)
    have k1 : Boxed (((w2.setCell ⟨w.heap.size, 0, none⟩ (.slice none 0 0)).setCell ⟨w.heap.size + 1, 0, none⟩ (.int .i64 0)).setCell ⟨w.heap.size + 1 + 1, 0, none⟩ (.int .i64 3)) w.heap.size 24 (.slice none 0 0) := ((C1.out.set _).other (by omega) _).other (by omega) _
    have k2 : Boxed (((w2.setCell ⟨w.heap.size, 0, none⟩ (.slice none 0 0)).setCell ⟨w.heap.size + 1, 0, none⟩ (.int .i64 0)).setCell ⟨w.heap.size + 1 + 1, 0, none⟩ (.int .i64 3)) (w.heap.size + 1) 3 (.int .i64 0) := ((C2.out.other (by omega) _).set _).other (by omega) _
    have k3 : Boxed (((w2.setCell ⟨w.heap.size, 0, none⟩ (.slice none 0 0)).setCell ⟨w.heap.size + 1, 0, none⟩ (.int .i64 0)).setCell ⟨w.heap.size + 1 + 1, 0, none⟩ (.int .i64 3)) (w.heap.size + 1 + 1) 25 (.int .i64 3) := ((C3.out.other (by omega) _).other (by omega) _).set _
    refine ⟨_, results_cells3 rfl rfl rfl rfl k1.cell k2.cell k3.cell Tryd.isAgg24 Tryd.isAgg3 Tryd.isAgg25, none, 0, ?_, ?_, ?_⟩
    · rw [e1, e2]; rfl
    · rw [e1]; exact PLS.nil
    · exact ((B02.out.setCell (p := ⟨w.heap.size, 0, none⟩) (Nat.le_refl _) _).setCell (p := ⟨w.heap.size + 1, 0, none⟩) (by show w.heap.size ≤ w.heap.size + 1; omega) _).setCell (p := ⟨w.heap.size + 1 + 1, 0, none⟩) (by show w.heap.size ≤ w.heap.size + 1 + 1; omega) _
end Go.Proofs.YtddnlimkaagpdaaDoor
