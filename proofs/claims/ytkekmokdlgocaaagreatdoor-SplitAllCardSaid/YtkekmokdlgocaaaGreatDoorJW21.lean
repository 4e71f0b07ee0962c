import Derived.Test.YtkekmokdlgocaaaGreatDoorJW20
import Derived.Shelf.Abstract
set_option maxRecDepth 100000
set_option maxHeartbeats 4000000
namespace Go.Proofs.YtkekmokdlgocaaaGreatDoor.Csv
open Go.RowKit
theorem call_fnN (s : Cv.St) (args : Array Value) (w : World) : Sem.run Tryz.prog (callFunc (fnN s) args) w = .ok (.enter (fnN s) args) w := by
 cases s with
 | bg => exact enters_of Tryz.func137 (by kernel_rfl) rfl args w
 | un => exact enters_of Tryz.func175 (by kernel_rfl) rfl args w
 | qu => exact enters_of Tryz.func174 (by kernel_rfl) rfl args w
 | aq => exact enters_of Tryz.func207 (by kernel_rfl) rfl args w
 | ar => exact enters_of Tryz.func237 (by kernel_rfl) rfl args w
theorem wrap_u8 (x : UInt8) : wrap64 (x.toNat : Int) = (x.toNat : Int) := by
 have := x.toNat_lt
 simp only [wrap64]; omega
def RetP (w : World) (len : Nat) : Cv.Res → Ending → World → Prop
 | .ok r rest, e, w' => ∃ A c, e = .returned (.tuple #[.slice A r.length c, .int .i64 ((len - rest.length : Nat) : Int), .int .i64 0]) ∧ Oc 1 w' 9 w.heap.size A r.length c (lvs r) ∧ Below w.heap.size w w'
 | .err k, e, w' => ∃ n : Nat, e = .returned (.tuple #[.slice none 0 0, .int .i64 (n : Int), .int .i64 (k : Int)]) ∧ Below w.heap.size w w'
def PaRel (w : World) (l : List UInt8) (n : Nat) (R : Cv.Res) (t : Value) (wr : World) : Prop :=
 ∃ i : Nat, ∃ s r f, t = .int .i64 (i : Int) ∧ i ≤ n ∧ Pz wr w.heap.size (fnV s w.heap.size) r f ∧ Cv.run s r f (l.drop i) = R ∧ r.length < 50 ∧ (∀ x ∈ r, x.length ≤ 1000) ∧ f.length ≤ 1000 ∧ Below w.heap.size w wr
theorem parse_c (A : Option Addr) (n c : Nat) (l : List UInt8) (w : World) (h : Rb w w.heap.size A n c l) (hn : n ≤ 1000000) :
  Calls Tryz.prog 100 #[.slice A n c] w (RetP w n (Cv.run .bg [] [] l)) := by
 have hl := h.len
 obtain ⟨R, hR⟩ : ∃ R, R = Cv.run .bg [] [] l := ⟨_, rfl⟩
 rw [← hR]
 have hb0 := Box5.made w 179 (fnV .bg w.heap.size) (.slice none 0 0) (.slice none 0 0) (.bool false) (.int .i64 0)
 have hp0 : Pz (w.alloc (.cells #[fnV .bg w.heap.size, .slice none 0 0, .slice none 0 0, .bool false, .int .i64 0] 179)) w.heap.size (fnV .bg w.heap.size) [] [] :=
  ⟨none, 0, none, 0, hb0, Oc.nil 1 _ _ _, Own.nil _ _ _, .inl rfl⟩
 have hbel0 : Below w.heap.size w (w.alloc (.cells #[fnV .bg w.heap.size, .slice none 0 0, .slice none 0 0, .bool false, .int .i64 0] 179)) := ej _ _
 have H := ek h; have Hl := ek hl; have HR := ek hR; have Hp0 := ek hp0; have Hbel0 := ek hbel0; clear h hl hR hp0 hbel0 hb0
 have hlt : w.heap.size < w.heap.size + 1 := by omega
 go_enter Tryz.func100, Tryz.ntmps100
 go_wp2
 go_loopw [17] (fun t wr => PaRel w l n R t wr) (fun t _ => n - (intOf t).toNat)
 case atStart => exact ⟨0, .bg, [], [], rfl, Nat.zero_le _, Hp0.out, by rw [HR.out]; rfl, by simp, by simp, by simp, Hbel0.out⟩
 case round =>
  obtain ⟨i, s, r, f, rfl, hi, hp, hrun, q1, q2, q3, hbel⟩ := hrel
  rename World => wr
  have hz := hbel.size
  by_cases hin : i < n
  ·obtain ⟨b, off, x, rfl, hb, hcx, hgx, hdx⟩ := (H.out.below hbel).at_ hin
   rw [hdx] at hrun
   have hst := step_c w.heap.size s r f (some x) _ hp (by omega) (by omega)
   obtain ⟨A1, a1, D1, d1, ⟨c0, c1, c2, c3, c4, f0, f1, f2, f3, f4, hlt⟩, _, _, _⟩ := hp
   have Hrun := ek hrun; have Hbel := ek hbel; have Hst := ek hst; clear hrun hbel hst
   simp only [fnV] at c0
   rcases e : Cv.stp s r f (some x) with ⟨s', r', f'⟩ | r' | k
   ·rw [e] at Hst
    obtain ⟨g1, g2, g3⟩ := Cv.stp_small e q1 q2 q3
    have hrun' := Cv.run_go (l := l.drop (i + 1)) e
    rw [Hrun.out] at hrun'
    have Hrun' := ek hrun'; clear hrun'
    clear e
    go_wp2_with fail
    rw [call_fnN, Oper.upon_enter, wrap_u8]
    refine Hst.out.mono ?_
    rintro e w' ⟨rfl, h2, h3⟩
    have Hp := ek h2
    obtain ⟨A2, a2, D2, d2, ⟨c0, c1, c2, c3, c4, f0, f1, f2, f3, f4, hlt⟩, _, _, _⟩ := h2
    go_wp2
    go_roundw
    case rel => exact ⟨i + 1, s', r', f', by go_num, hin, Hp.out, Hrun'.out.symm, g1, g2, g3, Hbel.out.trans h3⟩
    case measure => simp [intOf]; omega
   ·rw [e] at Hst
    have hrun' := Cv.run_fin (l := l.drop (i + 1)) e
    rw [Hrun.out] at hrun'
    have Hrun' := ek hrun'; clear hrun'
    clear e
    have q5 : IntKind.i64.wrap ((i : Int) + 1) = (i : Int) + 1 := IntWalk.i64_in _ (by omega)
    go_wp2_with fail
    rw [call_fnN, Oper.upon_enter, wrap_u8]
    refine Hst.out.mono ?_
    rintro e w' ⟨rfl, h2, h3⟩
    obtain ⟨nx, A2, a2, D2, ⟨c0, c1, c2, c3, c4, f0, f1, f2, f3, f4, hlt⟩, ho⟩ := h2
    have Ho := ek ho; clear ho
    go_wp2_with fail
    go_quiet (fail)
    go_wp2
    go_ret3
    rw [Hrun'.out]
    have hd : n - (l.drop (i + 1)).length = i + 1 := by rw [List.length_drop, Hl.out]; omega
    refine ⟨A2, a2, by rw [hd]; go_num, (Ho.out.mono (by omega)).drewN _, below_drewN (Hbel.out.trans h3) _⟩
   ·rw [e] at Hst
    have hrun' := Cv.run_bad (l := l.drop (i + 1)) e
    rw [Hrun.out] at hrun'
    have Hrun' := ek hrun'; clear hrun'
    clear e
    have q5 : IntKind.i64.wrap ((i : Int) + 1) = (i : Int) + 1 := IntWalk.i64_in _ (by omega)
    go_wp2_with fail
    rw [call_fnN, Oper.upon_enter, wrap_u8]
    refine Hst.out.mono ?_
    rintro e w' ⟨rfl, h2, h3⟩
    obtain ⟨nx, D2, ⟨c0, c1, c2, c3, c4, f0, f1, f2, f3, f4, hlt⟩⟩ := h2
    go_wp2_with fail
    go_quiet (fail)
    go_wp2
    go_ret3
    rw [Hrun'.out]
    exact ⟨i + 1, by go_num, below_drewN (Hbel.out.trans h3) _⟩
  ·have hin' : i = n := by omega
   rw [hin', ← Hl.out, List.drop_length] at hrun
   have hst := step_c w.heap.size s r f none _ hp (by omega) (by omega)
   obtain ⟨A1, a1, D1, d1, ⟨c0, c1, c2, c3, c4, f0, f1, f2, f3, f4, hlt⟩, _, _, _⟩ := hp
   have Hrun := ek hrun; have Hbel := ek hbel; have Hst := ek hst; clear hrun hbel hst
   simp only [fnV] at c0
   have hrn := Cv.run_none s r f
   rcases Cv.stp_none s r f with ⟨k, e, rfl⟩ | e
   ·rw [e] at Hst hrn
    rw [Hrun.out] at hrn
    have Hrn := ek hrn; clear hrn e
    go_wp2_with fail
    rw [call_fnN, Oper.upon_enter]
    refine Hst.out.mono ?_
    rintro e w' ⟨rfl, h2, h3⟩
    obtain ⟨nx, D2, ⟨c0, c1, c2, c3, c4, f0, f1, f2, f3, f4, hlt⟩⟩ := h2
    go_wp2_with fail
    go_quiet (fail)
    go_wp2
    go_ret3
    rw [Hrn.out]
    exact ⟨n, rfl, below_drewN (Hbel.out.trans h3) _⟩
   ·rw [e] at Hst hrn
    rw [Hrun.out] at hrn
    have Hrn := ek hrn; clear hrn e
    go_wp2_with fail
    rw [call_fnN, Oper.upon_enter]
    refine Hst.out.mono ?_
    rintro e w' ⟨rfl, h2, h3⟩
    obtain ⟨nx, A2, a2, D2, ⟨c0, c1, c2, c3, c4, f0, f1, f2, f3, f4, hlt⟩, ho⟩ := h2
    have Ho := ek ho; clear ho
    go_wp2_with fail
    go_quiet (fail)
    go_wp2
    go_ret3
    rw [Hrn.out]
    exact ⟨A2, a2, by rw [List.length_append]; rfl, (Ho.out.mono (by omega)).drewN _, below_drewN (Hbel.out.trans h3) _⟩
theorem oc_lt {z : Nat} {w : World} {e : TypeId} {base n c : Nat} {A : Option Addr} {vs : List Value} (h : Oc z w e base A n c vs) : ∀ g, ob A = some g → g < w.heap.size := fun g hg => (oc_ob h g hg).2
theorem piece_lit2 (w : World) (v : Value) (r : List (List UInt8)) (a : Nat) (A : Option Addr) (base : Nat) (te tp : TypeId) (hb : base ≤ w.heap.size) (hA : ∀ g, ob A = some g → g < w.heap.size) (hv : RrS w (Sf base w A) v r) (w5 w6 : World)
  (h5 : w5 = w.alloc (.cells #[v] te)) (h6 : w6 = w5.alloc (.cells #[.int .i64 (a : Int), .slice (some ⟨w.heap.size, 0,none⟩) 1 1] tp)) :
  w6.heap.size = w.heap.size + 2 ∧ Below w.heap.size w w6 ∧ Rc 2 w6 w6.heap.size (some ⟨w.heap.size + 1, 0,none⟩) 1 1 [.int .i64 (a : Int), .slice (some ⟨w.heap.size, 0,none⟩) 1 1] ∧
  PrS w6 (Sf base w6 A) (.int .i64 (a : Int)) (.slice (some ⟨w.heap.size, 0,none⟩) 1 1) (a, [r]) := by
 have z5 : w5.heap.size = w.heap.size + 1 := by rw [h5]; simp
 have z6 : w6.heap.size = w.heap.size + 2 := by rw [h6]; simp [z5]
 have b6 : Below w.heap.size w w6 := by
  rw [h6, h5]
  exact (ej _ _).alloc (by simp) _
 have g5 : w5.cell? ⟨w.heap.size, 0,none⟩ = some v := by rw [h5]; simp
 have g56 : w6.cell? ⟨w.heap.size, 0,none⟩ = some v := by rw [h6, World.cell?_alloc_lt _ _ _ (by simp [z5])]; exact g5
 have hne : some w.heap.size ≠ ob A := fun e => by have := hA _ e.symm; omega
 refine ⟨z6, b6, ?_, rfl, _, _, _, rfl, [v], ⟨rfl, Nat.le_refl _, by simp [maxLen], fun _ => ⟨_, _, rfl, ⟨hb, by omega, hne⟩, fun j x hj => ?_⟩⟩, rfl, fun j x s hj hs => ?_⟩
 ·have h := Rc.lit (z := 2) w5 tp #[.int .i64 (a : Int), .slice (some ⟨w.heap.size, 0,none⟩) 1 1] 1 rfl (by simp [maxLen])
  rw [← h6, z5] at h
  exact h.more (by omega)
 ·cases j with
  | zero => simp at hj; subst hj; exact g56
  | succ j => simp at hj
 ·cases j with
  | zero =>
   simp at hj hs
   subst hj hs
   exact hv.keep (sf_below b6)
  | succ j => simp at hj
theorem rec_sf {w' : World} {base g : Nat} {e : TypeId} {A D : Option Addr} {n c : Nat} {r : List (List UInt8)} (hD : Oc 1 w' e g D n c (lvs r)) (hg : base ≤ g) (hA : ∀ k, ob A = some k → k < g) : RrS w' (Sf base w' A) (.slice D n c) r :=
 ⟨D, n, c, rfl, hD.rcS.keep (stays_weak fun b hb => ⟨Nat.le_trans hg hb.1, hb.2, fun e => by have := hA b e.symm; have := hb.1; omega⟩)⟩
def RetSc (w : World) (l : List UInt8) (e : Ending) (w' : World) : Prop :=
 ∃ A c, e = .returned (.tuple #[.slice A (Cv.ls l).length c, .int .i64 (Cv.good l : Int), .int .i64 (Cv.er l : Int)]) ∧ PLS w' (Fr w.heap.size w') A (Cv.ls l).length c ((Cv.ls l).map Cv.pc) ∧ Below w.heap.size w w'
def ScanRel (base n : Nat) (w : World) (l : List UInt8) (o t : Value) (wr : World) : Prop :=
 ∃ A c vs done, ∃ a : Nat, o = .slice A done.length c ∧ t = .int .i64 (a : Int) ∧ a ≤ n ∧ Oc 2 wr 81 base A done.length c vs ∧ PsS wr (Sf base wr A) vs (done.map Cv.pc) ∧ done ++ (Cv.rs a (l.drop a)).1 = Cv.ls l ∧ (Cv.rs a (l.drop a)).2 = (Cv.good l, Cv.er l) ∧ Below base w wr
theorem scan_c (A : Option Addr) (n c : Nat) (l : List UInt8) (w : World) (hr : Rb w w.heap.size A n c l) (hn : n ≤ 1000000) :
  Calls Tryz.prog 129 #[.slice A n c] w (RetSc w l) := by
 have hl := hr.len
 have Hr := ek hr; have Hl := ek hl; clear hr hl
 go_enter Tryz.func129, Tryz.ntmps129
 go_wp2
 go_loopw [5, 6] (fun o t wr => ScanRel w.heap.size n w l o t wr) (fun _ t _ => n - (intOf t).toNat)
 case atStart => exact ⟨none, 0, [], [], 0, rfl, rfl, Nat.zero_le _, Oc.nil _ _ _ _, PsS.nil, rfl, rfl, Below.refl _ _⟩
 case round =>
  obtain ⟨A3, c3, vs, done, a, rfl, rfl, ha, hown, hps, hst, hge, hbel⟩ := hrel
  have z3 := hbel.size
  have hlen : done.length ≤ n := by
   have h1 := Cv.ls_len l
   have h2 := congrArg List.length hst
   rw [List.length_append] at h2
   have := Hl.out
   omega
  rename World => wr
  by_cases hlt : a < n
  ·have hr3 := (Hr.out.below hbel).more z3
   obtain ⟨D, hD, hrD⟩ := bty.from_ hr3 (k := a) (by omega) (a : Int) rfl
   have hlen2 : (l.drop a).length = n - a := by rw [List.length_drop, Hl.out]
   have hpc := parse_c D (n - a) (c - a) (l.drop a) wr hrD (by omega)
   have Hst := ek hst; have Hown := ek hown; have Hps := ek hps; have Hge := ek hge; clear hst hown hps hr3 hge
   rcases Cv.rs_step l a (by have := Hl.out; omega) with ⟨r, m, hrun, hm1, hm2, hrs, hm3, hfew⟩ | ⟨k, hrun, hrs, hk⟩
   ·rw [hrun] at hpc
    have hst2 : (done ++ [(a, r)]) ++ (Cv.rs m (l.drop m)).1 = Cv.ls l := by
     rw [← Hst.out, hrs]; simp [Cv.cons3]
    have hge2 : (Cv.rs m (l.drop m)).2 = (Cv.good l, Cv.er l) := by rw [← Hge.out, hrs]; rfl
    have hmn : m ≤ n := by rw [Hl.out] at hm2; exact hm2
    have hd : n - a - (l.drop m).length = m - a := by rw [← hlen2]; exact hm3
    have Hpc := ek hpc; have Hst2 := ek hst2; have Hge2 := ek hge2; have Hd := ek hd; clear hpc hst2 hge2 hrun hrs hm2 hm3 hfew hrD hlen2 hd
    go_wp2_with fail
    refine Hpc.out.mono ?_
    rintro e w4 ⟨D4, d4, rfl, ho4, hb4⟩
    rw [Hd.out]
    have z4 := hb4.size
    have hA := oc_lt Hown.out
    have hown4 := Hown.out.keep hb4
    have hv4 := rec_sf (base := w.heap.size) (A := A3) ho4 z3 hA
    obtain ⟨w5, h5⟩ : ∃ w5, w5 = w4.alloc (.cells #[.slice D4 r.length d4] 77) := ⟨_, rfl⟩
    obtain ⟨w6, h6⟩ : ∃ w6, w6 = w5.alloc (.cells #[.int .i64 (a : Int), .slice (some ⟨w4.heap.size, 0,none⟩) 1 1] 81) := ⟨_, rfl⟩
    obtain ⟨z6, b6, hlit, hpr⟩ := piece_lit2 w4 _ r a A3 w.heap.size _ _ (by omega) (oc_lt hown4) hv4 w5 w6 h5 h6
    have hown6 := hown4.keep b6
    have hps6 := ((Hps.out.keep (sf_below hb4)).keep (sf_below b6)).snoc hpr
    have bw6 := (hbel.trans (hb4.mono z3)).trans (b6.mono (by omega))
    have H5 := ek h5; have H6 := ek h6; have Hlit := ek hlit; have Hown6 := ek hown6; have Hps6 := ek hps6; have Z6 := ek z6; clear h5 h6 hlit hpr hown6 hps6 z6 b6 hv4 hown4 hA ho4
    have q0 : (a : Int) + ((m - a : Nat) : Int) = (m : Int) := by omega
    go_wp2_with (at_builtin; rw [← H5.out, ← H6.out]; go_must (refine Sl.wpAppAt pty rfl (.tmp 27) (.tmp 32) rfl (n := done.length) (m := 1) (N := done.length + 1) (ws := vs ++ [.int .i64 (a : Int), .slice (some ⟨w4.heap.size, 0,none⟩) 1 1]) rfl rfl Hown6.out Hlit.out ?hs1 rfl rfl ?hs4 ?hs5 ?hs6 ?_))
    case hs1 => simp [Value.oneCell']
    case hs4 => omega
    case hs5 => omega
    case hs6 => have := Z6.out; omega
    intro A8 c8 w8 hown8 hg8
    have bw8 := bw6.trans (hg8.belowC Hown6.out (by have := Z6.out; omega))
    have hps8 := Hps6.out.keep (sf_grow hg8)
    have Hown8 := ek hown8; have Hps8 := ek hps8; clear hown8 hps8 hg8
    go_wp2
    go_roundw
    case rel => exact ⟨A8, c8, vs ++ [.int .i64 (a : Int), .slice (some ⟨w4.heap.size, 0,none⟩) 1 1], done ++ [(a, r)], m, by simp, by first | rfl | (rw [q0]; go_num) | go_num, hmn, by rw [List.length_append]; exact Hown8.out, by rw [List.map_append]; exact Hps8.out, Hst2.out, Hge2.out, bw8⟩
    case measure => simp [intOf]; omega
   ·rw [hrun] at hpc
    have hdl : done = Cv.ls l := by rw [← Hst.out, hrs]; simp
    have hg : Cv.good l = a := by have h := Hge.out; rw [hrs] at h; injection h with h1 h2; exact h1.symm
    have he : Cv.er l = k := by have h := Hge.out; rw [hrs] at h; injection h with h1 h2; exact h2.symm
    have dk : ((k : Int) == 0) = false := by rw [beq_eq_false_iff_ne]; omega
    have dk2 : ((k : Int) != 0) = true := by simp [bne, dk]
    have Hpc := ek hpc; have Hdl := ek hdl; have Hg := ek hg; have He := ek he; clear hpc hdl hg he hrun hrs hrD hlen2 hk
    go_wp2_with fail
    refine Hpc.out.mono ?_
    rintro e w4 ⟨m, rfl, hb4⟩
    have hown4 := Hown.out.keep hb4
    have hps4 := Hps.out.keep (sf_below hb4)
    have hfin : PLS w4 (Fr w.heap.size w4) A3 done.length c3 (done.map Cv.pc) := ⟨vs, hown4.rcS, hps4.keep (stays_weak sf_fr)⟩
    have Hfin := ek hfin; have Hbel := ek (hbel.trans (hb4.mono z3)); clear hown4 hps4 hfin
    go_wp2
    go_ret3
    refine ⟨A3, c3, ?_, ?_, Hbel.out⟩
    ·rw [← Hdl.out, Hg.out, He.out]; rfl
    ·rw [← Hdl.out]; exact Hfin.out
  ·have e : a = n := by omega
   subst e
   rw [← Hl.out, List.drop_length, Cv.rs_nil] at hst hge
   have hd : done = Cv.ls l := by rw [← hst]; simp
   have hfin : PLS wr (Fr w.heap.size wr) A3 done.length c3 (done.map Cv.pc) := ⟨vs, hown.rcS, hps.keep (stays_weak sf_fr)⟩
   injection hge with hg1 hg2
   have Hd := ek hd; have Hfin := ek hfin; have Hg1 := ek hg1; have Hg2 := ek hg2; clear hst hown hps hd hfin hg1 hg2
   go_wp2
   go_ret3
   refine ⟨A3, c3, ?_, ?_, hbel⟩
   ·rw [← Hd.out, ← Hg1.out, ← Hg2.out, Hl.out]; rfl
   ·rw [← Hd.out]; exact Hfin.out
def RdRel (base t : Nat) (w : World) (v : List UInt8) (L : List (Nat × List (List UInt8))) (o i : Value) (wr : World) : Prop :=
 ∃ A c vs done, ∃ a : Nat, o = .slice A done.length c ∧ i = .int .i64 (a : Int) ∧ a ≤ v.length ∧ Oc 1 wr 77 base A done.length c vs ∧ RrsS wr (Sf base wr A) vs (done.map (·.2)) ∧ done ++ Cv.rl v a t = L ∧ (t ≤ a ∨ Cv.V v a) ∧ Below base w wr
def RetR (w : World) (l : List (List (List UInt8))) (e : Ending) (w' : World) : Prop :=
 ∃ A c, e = .returned (.slice A l.length c) ∧ RLS w' (Fr w.heap.size w') A l.length c l ∧ Below w.heap.size w w'
theorem _root_.Go.Proofs.YtkekmokdlgocaaaGreatDoor.Rb.atL {w : World} {B n c b o k : Nat} {l : List UInt8} (h : Rb w B (some ⟨b, o,none⟩) n c l) (hk : k < n) : ∃ x, b < B ∧ w.cell? ⟨b, o + k,none⟩ = some (.int .u8 (x.toNat : Int)) ∧ l[k]? = some x ∧ l.drop k = x :: l.drop (k + 1) := by
 obtain ⟨b', o', x, e, h1, h2, h3⟩ := h.at_ hk
 injection e with e
 injection e with e1 e2 _
 subst e1 e2
 exact ⟨x, h1, h2, h3⟩
def FsRel (v : List UInt8) (f t : Nat) (q : Bool) (o i : Value) : Prop := ∃ p q', o = .bool q' ∧ i = .int .i64 ((p : Nat) : Int) ∧ p ≤ t ∧ Cv.fsl q' p t (v.drop p) = Cv.fsl q f t (v.drop f)
theorem first_c (A : Option Addr) (n c B : Nat) (v : List UInt8) (f t : Nat) (q : Bool) (w : World) (hr : Rb w B A n c v) (ht : t ≤ n) (hn : n ≤ 1000000) (hf : f ≤ 1000000) :
  Calls Tryz.prog 99 #[.slice A n c, .int .i64 (f : Int), .int .i64 (t : Int), .bool q] w fun e w' => e = .returned (.int .i64 ((Cv.fs v f t q : Nat) : Int)) ∧ w = w' := by
 have hl := hr.len
 by_cases h1 : t ≤ f
 ·have hd : decide ((f : Int) ≥ (t : Int)) = true := by simp; omega
  have hd2 : decide ((t : Int) ≤ (f : Int)) = true := by simp; omega
  have he : Cv.fs v f t q = t := if_pos h1
  rw [he]
  clear hr hl he
  go_enter Tryz.func99, Tryz.ntmps99
  go_wp2
  go_ret
  exact ⟨rfl,rfl⟩
 ·have hnt : ¬ (t ≤ f) := h1
  have hd : decide ((f : Int) ≥ (t : Int)) = false := by simp; omega
  have hd2 : decide ((t : Int) ≤ (f : Int)) = false := by simp; omega
  obtain ⟨b1, o1, _, rfl, _⟩ := hr.at_ (k := 0) (by omega)
  cases q with
  | true =>
   have he : Cv.fs v f t true = Cv.fsl true f t (v.drop f) := by unfold Cv.fs; rw [if_neg h1, if_neg (by simp)]
   have Hr := ek hr; have Hl := ek hl; have He := ek he; clear hr hl he
   go_enter Tryz.func99, Tryz.ntmps99
   go_wp2
   go_loop [3, 9] (fun o i => FsRel v f t true o i) (fun _ i => t - (intOf i).toNat)
   case atStart => exact ⟨f, true, rfl, rfl, by omega, rfl⟩
   case round =>
    obtain ⟨p, q', rfl, rfl, hp, hfs⟩ := hrel
    have Hfs := ek hfs; clear hfs
    by_cases hpt : p < t
    ·obtain ⟨x, hb, hcx, hgx, hdx⟩ := Hr.out.atL (k := p) (by omega)
     have hfs := Hfs.out
     rw [hdx] at hfs
     by_cases h34 : x = 34
     ·subst h34
      rw [Cv.fsl_quote q' p t _ hpt] at hfs
      have Hfs2 := ek hfs; clear hfs hgx hdx
      go_wp2
      go_round
      case rel => exact ⟨p + 1, !q', rfl, by go_num, by omega, Hfs2.out⟩
      case measure => simp [intOf]; omega
     ·have d34 : ((x.toNat : Int) == 34) = false := nb (y := 34) h34
      by_cases h10 : x = 10
      ·subst h10
       cases q' with
       | false =>
        rw [Cv.fsl_line p t _ hpt] at hfs
        have Hfs2 := ek hfs; clear hfs hgx hdx
        go_wp2
        go_ret
        exact ⟨by rw [He.out, ← Hfs2.out]; go_num, rfl⟩
       | true =>
        rw [Cv.fsl_other true p t 10 _ hpt (by decide) (fun _ => rfl)] at hfs
        have Hfs2 := ek hfs; clear hfs hgx hdx
        go_wp2
        go_round
        case rel => exact ⟨p + 1, true, rfl, by go_num, by omega, Hfs2.out⟩
        case measure => simp [intOf]; omega
      ·have d10 : ((x.toNat : Int) == 10) = false := nb (y := 10) h10
       rw [Cv.fsl_other q' p t x _ hpt h34 (fun h => absurd h h10)] at hfs
       have Hfs2 := ek hfs; clear hfs hgx hdx
       go_wp2
       go_round
       case rel => exact ⟨p + 1, q', rfl, by go_num, by omega, Hfs2.out⟩
       case measure => simp [intOf]; omega
    ·have hfs := Hfs.out
     rw [Cv.fsl_end q' p t _ (by omega)] at hfs
     have Hfs2 := ek hfs; clear hfs
     go_wp2
     go_ret
     exact ⟨by rw [He.out, ← Hfs2.out]; rfl, rfl⟩
  | false =>
   by_cases h0 : f = 0
   ·subst h0
    have he : Cv.fs v 0 t false = 0 := by unfold Cv.fs; rw [if_neg h1, if_pos ⟨rfl, .inl rfl⟩]
    rw [he]
    clear hr hl he
    show Calls Tryz.prog _ #[_, .int .i64 0, .int .i64 (t : Int), .bool false] w _
    go_enter Tryz.func99, Tryz.ntmps99
    go_wp2
    go_ret
    exact ⟨rfl,rfl⟩
   ·have hf0 : ((f : Int) == 0) = false := by simp; omega
    have hw : IntKind.i64.wrap ((f : Int) - 1) = (f : Int) - 1 := IntWalk.i64_in _ (by omega)
    have hf1 : (1 : Int) ≤ (f : Int) := by omega
    have hfn : (f : Int) - 1 < (n : Int) := by omega
    have hft : ((f : Int) - 1).toNat = f - 1 := by omega
    obtain ⟨x, hb, hcx, hgx, _⟩ := hr.atL (k := f - 1) (by omega)
    by_cases h10 : x = 10
    ·subst h10
     have he : Cv.fs v f t false = f := by unfold Cv.fs; rw [if_neg h1, if_pos ⟨rfl, .inr hgx⟩]
     rw [he]
     clear hr hl he hgx
     go_enter Tryz.func99, Tryz.ntmps99
     go_wp2
     go_ret
     exact ⟨rfl,rfl⟩
    ·have d10 : ((x.toNat : Int) == 10) = false := nb (y := 10) h10
     have he : Cv.fs v f t false = Cv.fsl false f t (v.drop f) := by
      unfold Cv.fs
      rw [if_neg h1, if_neg]
      rintro ⟨_, h | h⟩
      ·exact h0 h
      ·rw [hgx] at h; injection h with h; exact h10 h
     have Hr := ek hr; have Hl := ek hl; have He := ek he; clear hr hl he hgx
     go_enter Tryz.func99, Tryz.ntmps99
     go_wp2
     clear hcx d10 h10
     go_loop [3, 9] (fun o i => FsRel v f t false o i) (fun _ i => t - (intOf i).toNat)
     case atStart => exact ⟨f, false, rfl, rfl, by omega, rfl⟩
     case round =>
      obtain ⟨p, q', rfl, rfl, hp, hfs⟩ := hrel
      have Hfs := ek hfs; clear hfs
      by_cases hpt : p < t
      ·obtain ⟨x, hb, hcx, hgx, hdx⟩ := Hr.out.atL (k := p) (by omega)
       have hfs := Hfs.out
       rw [hdx] at hfs
       by_cases h34 : x = 34
       ·subst h34
        rw [Cv.fsl_quote q' p t _ hpt] at hfs
        have Hfs2 := ek hfs; clear hfs hgx hdx
        go_wp2
        go_round
        case rel => exact ⟨p + 1, !q', rfl, by go_num, by omega, Hfs2.out⟩
        case measure => simp [intOf]; omega
       ·have d34 : ((x.toNat : Int) == 34) = false := nb (y := 34) h34
        by_cases h10 : x = 10
        ·subst h10
         cases q' with
         | false =>
          rw [Cv.fsl_line p t _ hpt] at hfs
          have Hfs2 := ek hfs; clear hfs hgx hdx
          go_wp2
          go_ret
          exact ⟨by rw [He.out, ← Hfs2.out]; go_num, rfl⟩
         | true =>
          rw [Cv.fsl_other true p t 10 _ hpt (by decide) (fun _ => rfl)] at hfs
          have Hfs2 := ek hfs; clear hfs hgx hdx
          go_wp2
          go_round
          case rel => exact ⟨p + 1, true, rfl, by go_num, by omega, Hfs2.out⟩
          case measure => simp [intOf]; omega
        ·have d10 : ((x.toNat : Int) == 10) = false := nb (y := 10) h10
         rw [Cv.fsl_other q' p t x _ hpt h34 (fun h => absurd h h10)] at hfs
         have Hfs2 := ek hfs; clear hfs hgx hdx
         go_wp2
         go_round
         case rel => exact ⟨p + 1, q', rfl, by go_num, by omega, Hfs2.out⟩
         case measure => simp [intOf]; omega
      ·have hfs := Hfs.out
       rw [Cv.fsl_end q' p t _ (by omega)] at hfs
       have Hfs2 := ek hfs; clear hfs
       go_wp2
       go_ret
       exact ⟨by rw [He.out, ← Hfs2.out]; rfl, rfl⟩
theorem ends_c (A : Option Addr) (n c B : Nat) (l : List UInt8) (a : Nat) (w : World) (hr : Rb w B A n c l) (hn : n ≤ 1000000) (ha : a ≤ n) :
  Calls Tryz.prog 112 #[.slice A n c, .int .i64 (a : Int)] w fun e w' => e = .returned (.int .i64 ((Cv.En (l.drop a) : Nat) : Int)) ∧ w = w' := by
 have hl := hr.len
 by_cases h1 : a < n
 ·obtain ⟨b, off, x, rfl, hb, hcx, hgx, hdx⟩ := hr.at_ h1
  by_cases h10 : x = 10
  ·subst h10
   have he : Cv.En (l.drop a) = 1 := by rw [hdx]; rfl
   rw [he]
   clear hr hgx hdx he hl
   go_enter Tryz.func112, Tryz.ntmps112
   go_wp2
   go_ret
   exact ⟨rfl,rfl⟩
  ·have d10 : ((x.toNat : Int) == 10) = false := nb (y := 10) h10
   by_cases h2 : a + 1 < n
   ·obtain ⟨y, _, hcy, hgy, hdy⟩ := hr.atL h2
    have h2' : (a : Int) + 1 < (n : Int) := by omega
    by_cases h13 : x = 13
    ·subst h13
     by_cases hy : y = 10
     ·subst hy
      have he : Cv.En (l.drop a) = 2 := by rw [hdx, hdy]; rfl
      rw [he]
      clear hr hgx hdx he hl hgy hdy
      go_enter Tryz.func112, Tryz.ntmps112
      go_wp2
      go_ret
      exact ⟨rfl,rfl⟩
     ·have dy : ((y.toNat : Int) == 10) = false := nb (y := 10) hy
      have he : Cv.En (l.drop a) = 0 := by rw [hdx, hdy]; exact Cv.En_lone (by simpa using hy)
      rw [he]
      clear hr hgx hdx he hl hgy hdy
      go_enter Tryz.func112, Tryz.ntmps112
      go_wp2
      go_ret
      exact ⟨rfl,rfl⟩
    ·have d13 : ((x.toNat : Int) == 13) = false := nb (y := 13) h13
     have he : Cv.En (l.drop a) = 0 := by rw [hdx]; exact Cv.En_other h10 h13
     rw [he]
     clear hr hgx hdx he hl hgy hdy
     go_enter Tryz.func112, Tryz.ntmps112
     go_wp2
     go_ret
     exact ⟨rfl,rfl⟩
   ·have he : Cv.En (l.drop a) = 0 := by
     rw [hdx, List.drop_eq_nil_of_le (by omega)]
     by_cases h13 : x = 13
     ·subst h13; rfl
     ·exact Cv.En_other h10 h13
    have d2 : decide ((a : Int) + 1 < (n : Int)) = false := by simp; omega
    have h2' : ¬ ((a : Int) + 1 < (n : Int)) := by omega
    rw [he]
    clear hr hgx hdx he hl
    go_enter Tryz.func112, Tryz.ntmps112
    go_wp2
    go_ret
    exact ⟨rfl,rfl⟩
 ·have he : Cv.En (l.drop a) = 0 := by rw [List.drop_eq_nil_of_le (by omega)]; rfl
  have h2' : ¬ ((a : Int) + 1 < (n : Int)) := by omega
  rw [he]
  clear hr he hl
  go_enter Tryz.func112, Tryz.ntmps112
  go_wp2
  go_ret
  exact ⟨rfl,rfl⟩
def RetFld (w : World) (l : List UInt8) (st st' : Cv.St) (a : Nat) (e : Ending) (w' : World) : Prop :=
 (∃ k : Nat, e = .returned (.tuple #[.string ⟨#[]⟩, .int .i64 0, .int .i64 (k : Int)]) ∧ Cv.FErr l st a k ∧ Below w.heap.size w w') ∨
 ∃ s, ∃ m : Nat, e = .returned (.tuple #[.string ⟨List.toArray s⟩, .int .i64 (m : Int), .int .i64 0]) ∧ Cv.FOk l st st' a s m ∧ Below w.heap.size w w'
def PlRel (l : List UInt8) (a n : Nat) (t : Value) : Prop := ∃ p : Nat, t = .int .i64 (p : Int) ∧ a ≤ p ∧ p ≤ n ∧ p - a ≤ 1000 ∧ ∀ r, Cv.run .un r [] (l.drop a) = Cv.run .un r ((l.take p).drop a) (l.drop p)
theorem plain_c (A : Option Addr) (n c B : Nat) (l : List UInt8) (a : Nat) (w : World) (hr : Rb w B A n c l) (hn : n ≤ 1000000) (ha : a ≤ n) :
  Calls Tryz.prog 111 #[.slice A n c, .int .i64 (a : Int)] w (RetFld w l .un .un a) := by
 have hl := hr.len
 have hfin : ∀ p, a ≤ p → p ≤ n → p - a ≤ 1000 → (∀ r, Cv.run .un r [] (l.drop a) = Cv.run .un r ((l.take p).drop a) (l.drop p)) → Cv.Stop (l.drop p) →
   ∃ D, (∀ W, (Instr.slice 22 (.slice A n c) (some (.int .i64 (a : Int))) (some (.int .i64 (p : Int))) none).run Tryz.prog W = .ok (.slice D (p - a) (c - a)) W) ∧ (convert 22 9 (.slice D (p - a) (c - a))).run Tryz.prog w = .ok (.string ⟨((l.take p).drop a).toArray⟩) w ∧
    RetFld w l .un .un a (.returned (.tuple #[.string ⟨((l.take p).drop a).toArray⟩, .int .i64 (p : Int), .int .i64 0])) w := fun p h1 h2 h3 h4 h5 => by
  obtain ⟨D, hD, hrD⟩ := bty.mid_ hr (i := a) (k := p) h1 h2 (a : Int) (p : Int) rfl rfl (p - a) rfl
  exact ⟨D, hD, bty.conv hrD, .inr ⟨_, p, rfl, ⟨by rw [List.length_drop, List.length_take]; omega, h1, by omega, h5, h4⟩, Below.refl _ _⟩⟩
 have Hr := ek hr; have Hl := ek hl; have Hfin := ek hfin; clear hr hl hfin
 go_enter Tryz.func111, Tryz.ntmps111
 go_wp2
 go_loop [1] (fun t => PlRel l a n t) (fun t => n - (intOf t).toNat)
 case atStart => exact ⟨a, rfl, Nat.le_refl _, ha, by omega, fun r => by
  have e : (l.take a).drop a = [] := List.drop_eq_nil_of_le (by rw [List.length_take]; omega)
  rw [e]⟩
 case round =>
  obtain ⟨p, rfl, hap, hpn, hpl, hrun⟩ := hrel
  by_cases h1 : p < n
  ·obtain ⟨b, off, x, rfl, hb, hcx, hgx, hdx⟩ := Hr.out.at_ h1
   have hends := ends_c (some ⟨b, off,none⟩) n c B l p w Hr.out hn hpn
   by_cases h44 : x = 44
   ·subst h44
    obtain ⟨D, hD, hcv, hret⟩ := Hfin.out p hap hpn hpl hrun (.inr (.inl ⟨_, hdx⟩))
    have Hret := ek hret; clear hret hrun hgx hdx hends
    go_wp2
    go_ret3
    exact Hret.out
   ·have d44 : ((x.toNat : Int) == 44) = false := nb (y := 44) h44
    have d44' : ((x.toNat : Int) != 44) = true := by simp [bne, d44]
    by_cases hE : Cv.En (l.drop p) = 0
    ·rw [hE] at hends
     rw [hdx] at hE
     have hstep := fun r => hrun r
     rw [hdx] at hstep
     by_cases h34 : x = 34 ∨ x = 13
     ·have hret : RetFld w l .un .un a (.returned (.tuple #[.string ⟨#[]⟩, .int .i64 0, .int .i64 3])) w := .inl ⟨3, rfl, ⟨.inl rfl, fun r => by rw [hstep r]; exact Cv.un_bad h44 hE h34⟩, Below.refl _ _⟩
      have Hret := ek hret; have Hends := ek hends; clear hret hrun hgx hdx hends hstep hE
      by_cases h3 : x = 34
      ·subst h3
       go_wp2_with fail
       refine Hends.out.mono ?_
       rintro e w' ⟨rfl,rfl⟩
       go_wp2
       go_ret3
       exact Hret.out
      ·obtain rfl : x = 13 := h34.resolve_left h3
       go_wp2_with fail
       refine Hends.out.mono ?_
       rintro e w' ⟨rfl,rfl⟩
       go_wp2
       go_ret3
       exact Hret.out
     ·have h3 : x ≠ 34 := fun h => h34 (.inl h)
      have h13 : x ≠ 13 := fun h => h34 (.inr h)
      have d34 : ((x.toNat : Int) == 34) = false := nb (y := 34) h3
      have d13 : ((x.toNat : Int) == 13) = false := nb (y := 13) h13
      have hfl : ((l.take p).drop a).length = p - a := by rw [List.length_drop, List.length_take, Hl.out]; omega
      by_cases hbig : p - a = 1000
      ·have hret : RetFld w l .un .un a (.returned (.tuple #[.string ⟨#[]⟩, .int .i64 0, .int .i64 5])) w := .inl ⟨5, rfl, ⟨.inr rfl, fun r => by rw [hstep r]; exact Cv.un_large h44 hE h3 h13 (by omega)⟩, Below.refl _ _⟩
       have Hret := ek hret; have Hends := ek hends; clear hret hrun hgx hdx hends hstep hE h34
       have hb2 : (1000 : Int) < (p : Int) + 1 - (a : Int) := by omega
       go_wp2_with fail
       refine Hends.out.mono ?_
       rintro e w' ⟨rfl,rfl⟩
       go_wp2
       go_ret3
       exact Hret.out
      ·have hnext : ∀ r, Cv.run .un r [] (l.drop a) = Cv.run .un r ((l.take (p + 1)).drop a) (l.drop (p + 1)) := fun r => by
        rw [hstep r, Cv.un_go h44 hE h3 h13 (by omega), List.take_add_one, hgx, List.drop_append_of_le_length (by rw [List.length_take, Hl.out]; omega)]; rfl
       have Hnext := ek hnext; have Hends := ek hends; clear hnext hrun hgx hdx hends hstep hE h34 hfl
       have hb2 : ¬ (1000 : Int) < (p : Int) + 1 - (a : Int) := by omega
       go_wp2_with fail
       refine Hends.out.mono ?_
       rintro e w' ⟨rfl,rfl⟩
       go_wp2
       go_round
       case rel => exact ⟨p + 1, by go_num, by omega, by omega, by omega, Hnext.out⟩
       case measure => simp [intOf]; omega
    ·obtain ⟨D, hD, hcv, hret⟩ := Hfin.out p hap hpn hpl hrun (.inr (.inr hE))
     obtain ⟨k, hk⟩ : ∃ k, k = Cv.En (l.drop p) := ⟨_, rfl⟩
     rw [← hk] at hends hE
     have dk : ((k : Int) == 0) = false := by rw [beq_eq_false_iff_ne]; omega
     have Hret := ek hret; have Hends := ek hends; clear hret hrun hgx hdx hends hk
     go_wp2_with fail
     refine Hends.out.mono ?_
     rintro e w' ⟨rfl,rfl⟩
     go_wp2
     go_ret3
     exact Hret.out
  ·obtain rfl : p = n := by omega
   obtain ⟨D, hD, hcv, hret⟩ := Hfin.out p hap hpn hpl hrun (.inl (by rw [← Hl.out, List.drop_length]))
   have Hret := ek hret; clear hret hrun
   go_wp2
   go_ret3
   exact Hret.out
def QuRel (base : Nat) (w : World) (l : List UInt8) (a n : Nat) (t o : Value) (wr : World) : Prop :=
 ∃ A c out, ∃ p : Nat, t = .int .i64 (p : Int) ∧ o = .slice A out.length c ∧ a ≤ p ∧ p ≤ n ∧ out.length ≤ 1000 ∧ Own wr 5 base A c out ∧ (∀ r, Cv.run .qu r [] (l.drop a) = Cv.run .qu r out (l.drop p)) ∧ Below base w wr
theorem quotedD_c (A : Option Addr) (n c : Nat) (l : List UInt8) (a : Nat) (w : World) (hr : Rb w w.heap.size A n c l) (hn : n ≤ 1000000) (ha : a ≤ n) :
  Calls Tryz.prog 110 #[.slice A n c, .int .i64 (a : Int)] w (RetFld w l .qu .aq a) := by
 have hl := hr.len
 have hbad : ∀ k : Nat, (k = 3 ∨ k = 5) → ∀ W, Below w.heap.size w W → (∀ r, Cv.run .qu r [] (l.drop a) = .err k) → RetFld w l .qu .aq a (.returned (.tuple #[.string ⟨#[]⟩, .int .i64 0, .int .i64 (k : Int)])) W := fun k hk W hb h => .inl ⟨k, rfl, ⟨hk, h⟩, hb⟩
 have hgood : ∀ s p W, a ≤ p → p ≤ n → s.length ≤ 1000 → Below w.heap.size w W → Cv.Stop (l.drop p) → (∀ r, Cv.run .qu r [] (l.drop a) = Cv.run .aq r s (l.drop p)) → RetFld w l .qu .aq a (.returned (.tuple #[.string ⟨List.toArray s⟩, .int .i64 ((p : Nat) : Int), .int .i64 0])) W := fun s p W h1 h2 h3 hb h4 h5 => .inr ⟨s, p, rfl, ⟨h3, h1, by omega, h4, h5⟩, hb⟩
 have Hr := ek hr; have Hl := ek hl; have Hbad := ek hbad; have Hgood := ek hgood; clear hr hl hbad hgood
 go_enter Tryz.func110, Tryz.ntmps110
 go_wp2
 go_loopw [1, 7] (fun t o wr => QuRel w.heap.size w l a n t o wr) (fun t _ _ => n - (intOf t).toNat)
 case atStart => exact ⟨some ⟨w.heap.size, 0,none⟩, 0, [], a, rfl, rfl, Nat.le_refl _, ha, by simp, Own.made0 _ _, fun r => rfl, ej _ _⟩
 case round =>
  obtain ⟨A3, c3, out, p, rfl, rfl, hap, hpn, hol, hown, hrun, hbel⟩ := hrel
  have z3 := hbel.size
  rename World => wr
  have hr3 := Hr.out.below hbel
  have Hown := ek hown; clear hown
  by_cases h1 : p < n
  ·obtain ⟨b, off, x, rfl, hb, hcx, hgx, hdx⟩ := hr3.at_ h1
   have hstep := fun r => hrun r
   rw [hdx] at hstep
   by_cases h34 : x = 34
   ·subst h34
    by_cases h2 : p + 1 < n ∧ l[p + 1]? = some 34
    ·obtain ⟨y, _, hcy, hgy, hdy⟩ := hr3.atL h2.1
     obtain rfl : y = 34 := by rw [h2.2] at hgy; injection hgy with h; exact h.symm
     have h21 := h2.1
     have hp1 : (p : Int) + 1 < (n : Int) := by omega
     by_cases hbig : out.length = 1000
     ·have hret : ∀ W, Below w.heap.size w W → RetFld w l .qu .aq a (.returned (.tuple #[.string ⟨#[]⟩, .int .i64 0, .int .i64 5])) W := fun W hW => Hbad.out 5 (.inr rfl) W hW fun r => by rw [hstep r, Cv.qu_aq, hdy]; exact Cv.aq_large hbig
      have Hret := ek hret; clear hret hrun hgx hdx hstep hgy hdy h2 hr3
      have hb2 : (1000 : Int) < ((out ++ [(34 : UInt8)]).length : Int) := by simp; omega
      go_wp2_with (at_builtin; go_must (refine bty.wpApp rfl (.tmp 40) (.tmp 41) rfl (l := out) (r := [34]) rfl rfl (Hown.out.alloc _) (Rb.oneI _ _ _ 34 rfl) ?hs1 ?hs2 ?_))
      case hs1 => first | omega | (simp; omega)
      case hs2 => first | omega | (simp; omega)
      intro A6 c6 w6 hown6 hb6
      have hbel6 := (hbel.trans ((Below.refl w.heap.size wr).alloc z3 (.cells #[.int .u8 34] 5))).trans hb6
      clear hown6 hcx hcy
      go_wp2
      go_ret3
      exact Hret.out _ hbel6
     ·have hnext : ∀ r, Cv.run .qu r [] (l.drop a) = Cv.run .qu r (out ++ [34]) (l.drop (p + 2)) := fun r => by rw [hstep r, Cv.qu_aq, hdy]; exact Cv.aq_go hbig
      have Hnext := ek hnext; clear hnext hrun hgx hdx hstep hgy hdy h2 hr3
      have hb2 : ¬ (1000 : Int) < ((out ++ [(34 : UInt8)]).length : Int) := by simp; omega
      go_wp2_with (at_builtin; go_must (refine bty.wpApp rfl (.tmp 40) (.tmp 41) rfl (l := out) (r := [34]) rfl rfl (Hown.out.alloc _) (Rb.oneI _ _ _ 34 rfl) ?hs1 ?hs2 ?_))
      case hs1 => first | omega | (simp; omega)
      case hs2 => first | omega | (simp; omega)
      intro A6 c6 w6 hown6 hb6
      have hbel6 := (hbel.trans ((Below.refl w.heap.size wr).alloc z3 (.cells #[.int .u8 34] 5))).trans hb6
      have Hown6 := ek hown6; clear hown6 hcx hcy
      go_wp2
      go_roundw
      case rel => exact ⟨A6, c6, out ++ [34], p + 2, by go_num, by simp, by omega, by omega, by simp; omega, Hown6.out, Hnext.out, hbel6⟩
      case measure => simp [intOf]; omega
    ·have hends := fun W (h : Rb W w.heap.size (some ⟨b, off,none⟩) n c l) => ends_c (some ⟨b, off,none⟩) n c w.heap.size l (p + 1) W h hn (by omega)
     have hcv := bty.conv Hown.out.rb
     have haq : ∀ r, Cv.run .qu r [] (l.drop a) = Cv.run .aq r out (l.drop (p + 1)) := fun r => by rw [hstep r, Cv.qu_aq]
     by_cases h3 : p + 1 < n
     ·obtain ⟨y, _, hcy, hgy, hdy⟩ := hr3.atL h3
      have hy34 : y ≠ 34 := fun e => h2 ⟨h3, by rw [hgy, e]⟩
      have e34 : ((y.toNat : Int) == 34) = false := nb (y := 34) hy34
      have hp1 : (p : Int) + 1 < (n : Int) := by omega
      by_cases h44 : y = 44
      ·subst h44
       have hret := Hgood.out out (p + 1) wr (by omega) (by omega) hol hbel (.inr (.inl ⟨_, hdy⟩)) haq
       have Hret := ek hret; clear hret hrun hgx hdx hstep hgy hdy h2 hr3 haq hends
       go_wp2
       go_ret3
       simpa using Hret.out
      ·have d44 : ((y.toNat : Int) == 44) = false := nb (y := 44) h44
       have d44' : ((y.toNat : Int) != 44) = true := by simp [bne, d44]
       by_cases hE : Cv.En (l.drop (p + 1)) = 0
       ·have hret := Hbad.out 3 (.inl rfl) wr hbel fun r => by rw [haq r, hdy]; exact Cv.aq_bad hy34 h44 (by rw [← hdy]; exact hE)
        have hends' := hends wr hr3
        rw [hE] at hends'
        have Hret := ek hret; have Hends := ek hends'; clear hret hrun hgx hdx hstep hgy hdy h2 hr3 haq hends hends' hE
        go_wp2_with fail
        refine Hends.out.mono ?_
        rintro e w' ⟨rfl,rfl⟩
        go_wp2
        go_ret3
        exact Hret.out
       ·have hret := Hgood.out out (p + 1) wr (by omega) (by omega) hol hbel (.inr (.inr hE)) haq
        have hends' := hends wr hr3
        obtain ⟨k, hk⟩ : ∃ k, k = Cv.En (l.drop (p + 1)) := ⟨_, rfl⟩
        rw [← hk] at hends' hE
        have dk : ((k : Int) == 0) = false := by rw [beq_eq_false_iff_ne]; omega
        have Hret := ek hret; have Hends := ek hends'; clear hret hrun hgx hdx hstep hgy hdy h2 hr3 haq hends hends' hk
        go_wp2_with fail
        refine Hends.out.mono ?_
        rintro e w' ⟨rfl,rfl⟩
        go_wp2
        go_ret3
        simpa using Hret.out
     ·have hret := Hgood.out out (p + 1) wr (by omega) (by omega) hol hbel (.inl (List.drop_eq_nil_of_le (by have := Hl.out; omega))) haq
      have hp1 : ¬ (p : Int) + 1 < (n : Int) := by omega
      have Hret := ek hret; clear hret hrun hgx hdx hstep h2 hr3 haq hends
      go_wp2
      go_ret3
      simpa using Hret.out
   ·have d34 : ((x.toNat : Int) == 34) = false := nb (y := 34) h34
    have d34' : ((x.toNat : Int) != 34) = true := by simp [bne, d34]
    by_cases hbig : out.length = 1000
    ·have hret : ∀ W, Below w.heap.size w W → RetFld w l .qu .aq a (.returned (.tuple #[.string ⟨#[]⟩, .int .i64 0, .int .i64 5])) W := fun W hW => Hbad.out 5 (.inr rfl) W hW fun r => by rw [hstep r]; exact Cv.qu_large h34 hbig
     have Hret := ek hret; clear hret hrun hgx hdx hstep hr3
     have hb2 : (1000 : Int) < ((out ++ [x]).length : Int) := by simp; omega
     go_wp2_with (at_builtin; go_must (refine bty.wpApp rfl (.tmp 18) (.tmp 23) rfl (l := out) (r := [x]) rfl rfl (Hown.out.alloc _) (Rb.oneI _ _ _ x rfl) ?hs1 ?hs2 ?_))
     case hs1 => first | omega | (simp; omega)
     case hs2 => first | omega | (simp; omega)
     intro A6 c6 w6 hown6 hb6
     have hbel6 := (hbel.trans ((Below.refl w.heap.size wr).alloc z3 (.cells #[.int .u8 (x.toNat : Int)] 5))).trans hb6
     clear hown6 hcx
     go_wp2
     go_ret3
     exact Hret.out _ hbel6
    ·have hnext : ∀ r, Cv.run .qu r [] (l.drop a) = Cv.run .qu r (out ++ [x]) (l.drop (p + 1)) := fun r => by rw [hstep r]; exact Cv.qu_go h34 hbig
     have Hnext := ek hnext; clear hnext hrun hgx hdx hstep hr3
     have hb2 : ¬ (1000 : Int) < ((out ++ [x]).length : Int) := by simp; omega
     go_wp2_with (at_builtin; go_must (refine bty.wpApp rfl (.tmp 18) (.tmp 23) rfl (l := out) (r := [x]) rfl rfl (Hown.out.alloc _) (Rb.oneI _ _ _ x rfl) ?hs1 ?hs2 ?_))
     case hs1 => first | omega | (simp; omega)
     case hs2 => first | omega | (simp; omega)
     intro A6 c6 w6 hown6 hb6
     have hbel6 := (hbel.trans ((Below.refl w.heap.size wr).alloc z3 (.cells #[.int .u8 (x.toNat : Int)] 5))).trans hb6
     have Hown6 := ek hown6; clear hown6 hcx
     go_wp2
     go_roundw
     case rel => exact ⟨A6, c6, out ++ [x], p + 1, by go_num, by simp, by omega, by omega, by simp; omega, Hown6.out, Hnext.out, hbel6⟩
     case measure => simp [intOf]; omega
  ·have hret := Hbad.out 3 (.inl rfl) wr hbel fun r => by rw [hrun r, List.drop_eq_nil_of_le (by have := Hl.out; omega)]; exact Cv.qu_end
   have Hret := ek hret; clear hret hrun
   go_wp2
   go_ret3
   exact Hret.out
def RetRec (w : World) (n : Nat) : Cv.Res → Ending → World → Prop
 | .ok r rest, e, w' => ∃ A c, e = .returned (.tuple #[.slice A r.length c, .int .i64 ((n - rest.length : Nat) : Int), .int .i64 0]) ∧ Oc 1 w' 9 w.heap.size A r.length c (lvs r) ∧ Below w.heap.size w w'
 | .err k, e, w' => e = .returned (.tuple #[.slice none 0 0, .int .i64 0, .int .i64 (k : Int)]) ∧ Below w.heap.size w w'
def RecdRel (w : World) (l : List UInt8) (n : Nat) (T : Cv.Res) (t o : Value) (wr : World) : Prop :=
 ∃ A c out, ∃ p : Nat, t = .int .i64 (p : Int) ∧ o = .slice A out.length c ∧ p ≤ n ∧ out.length ≤ 50 ∧ Oc 1 wr 9 w.heap.size A out.length c (lvs out) ∧ ((out.length < 50 ∧ Cv.run .bg out [] (l.drop p) = T) ∨ (out.length = 50 ∧ T = .err 5)) ∧ Below w.heap.size w wr
theorem record_c (A : Option Addr) (n c : Nat) (l : List UInt8) (a : Nat) (w : World) (hr : Rb w w.heap.size A n c l) (hn : n ≤ 1000000) (ha : a ≤ n) (T : Cv.Res) (hT0 : Cv.run .bg [] [] (l.drop a) = T) :
  Calls Tryz.prog 88 #[.slice A n c, .int .i64 (a : Int)] w (RetRec w n T) := by
 have hl := hr.len
 have hend : ∀ (st : Cv.St) (out : List (List UInt8)) (s : List UInt8) (m : Nat), m ≤ n → (st = .un ∨ st = .aq) → (l.drop m = [] ∨ Cv.En (l.drop m) ≠ 0) → T = Cv.run st out s (l.drop m) → ∀ A8 c8 w8, Oc 1 w8 9 w.heap.size A8 (out.length + 1) c8 (lvs (out ++ [s])) → Below w.heap.size w w8 →
   RetRec w n T (.returned (.tuple #[.slice A8 (out ++ [s]).length c8, .int .i64 ((m : Int) + (Cv.En (l.drop m) : Int)), .int .i64 0])) w8 := fun st out s m hm hst hstop hT A8 c8 w8 ho hb => by
  rw [hT, Cv.run_end hst hstop]
  have h1 := Cv.En_le (l.drop m)
  have h2 : (l.drop m).length = n - m := by rw [List.length_drop, hl]
  have h3 : ((l.drop m).drop (Cv.En (l.drop m))).length = n - m - Cv.En (l.drop m) := by rw [List.length_drop, h2]
  refine ⟨A8, c8, ?_, by simpa using ho, hb⟩
  rw [h3, show n - (n - m - Cv.En (l.drop m)) = m + Cv.En (l.drop m) by omega]
  simp
 have Hr := ek hr; have Hl := ek hl; have Hend := ek hend; have HT0 := ek hT0; clear hr hl hend hT0
 go_enter Tryz.func88, Tryz.ntmps88
 go_wp2
 go_loopw [1, 7] (fun t o wr => RecdRel w l n T t o wr) (fun t _ _ => n - (intOf t).toNat)
 case atStart => exact ⟨some ⟨w.heap.size, 0,none⟩, 0, [], a, rfl, rfl, ha, by simp, Oc.made0 1 _ _, .inl ⟨by simp, HT0.out⟩, ej _ _⟩
 case round =>
  obtain ⟨A3, c3, out, p, rfl, rfl, hpn, hol, hown, hcase, hbel⟩ := hrel
  have z3 := hbel.size
  rename World => wr
  have hr3 := Hr.out.below hbel
  have Hown := ek hown; clear hown
  rcases hcase with ⟨h50, hT⟩ | ⟨h50, hT⟩
  ·have d50 : ((out.length : Int) == 50) = false := by simp; omega
   by_cases hq : ∃ tl, l.drop p = 34 :: tl
   ·obtain ⟨tl, htl⟩ := hq
    have hpn' : p < n := by
     have := congrArg List.length htl
     rw [List.length_drop, Hl.out] at this
     simp at this; omega
    have hdp : l.drop (p + 1) = tl := by rw [← List.drop_drop, htl]; rfl
    have hcp : l[p]? = some 34 := (Cv.drop_head htl).1
    rw [htl, Cv.run_bg_qu, ← hdp] at hT
    obtain ⟨b3, o3, x, eA, hb3, hcx, hgx, _⟩ := hr3.at_ hpn'
    obtain rfl : x = 34 := by rw [hcp] at hgx; injection hgx with h; exact h.symm
    have hfld := quotedD_c A n c l (p + 1) wr (hr3.more z3) hn (by omega)
    rw [eA] at hfld
    subst eA
    have Hfld := ek hfld; clear hfld hgx hdp hcp htl hr3
    go_wp2_with fail
    refine Hfld.out.mono ?_
    rintro e w4 (⟨k, rfl, ⟨hk, hF⟩, hb4⟩ | ⟨s, m, rfl, ⟨hs, hm1, hm2', hst, hrunF⟩, hb4⟩)
    ·have hTk : T = .err k := hT.symm.trans (hF out)
     have dk : ((k : Int) == 0) = false := by rw [beq_eq_false_iff_ne]; omega
     have dk2 : ((k : Int) != 0) = true := by simp [bne, dk]
     have HTk := ek hTk; clear hTk hF hT
     go_wp2
     go_ret3
     rw [HTk.out]
     exact ⟨rfl, hbel.trans (hb4.mono z3)⟩
    have hm2 : m ≤ n := by rw [Hl.out] at hm2'; exact hm2'
    have z4 := hb4.size
    have Hown4 := ek (Hown.out.keep hb4)
    have Hbel4 := ek (hbel.trans (hb4.mono z3))
    clear hm2' hs
    rcases hst with hst | ⟨tl, hst⟩ | hst
    ·have hmn : ¬ m < n := fun h => by
      have := congrArg List.length hst
      rw [List.length_drop, Hl.out] at this
      simp at this; omega
     have hfin := Hend.out .aq out s m hm2 (.inr rfl) (.inl hst) (hT.symm.trans (hrunF out))
     have Hfin := ek hfin; clear hfin hrunF hT hst
     go_wp2_with (at_builtin; go_must (refine Sl.wpAppAt sty rfl (.tmp 44) (.tmp 46) rfl (n := out.length) (m := 1) (N := out.length + 1) (ws := lvs (out ++ [s])) rfl rfl (Hown4.out.alloc _) (Rc.lit (z := 1) w4 _ #[.string ⟨s.toArray⟩] 1 rfl (by simp [maxLen])) ?hs1 rfl ?hs3 ?hs4 ?hs5 ?hs6 ?_))
     case hs1 => simp [Value.oneCell']
     case hs3 => simp [lvs]
     case hs4 => omega
     case hs5 => omega
     case hs6 => simp; omega
     intro A8 c8 w8 hown8 hg8
     have hbel8 := Hbel4.out.trans (((Below.refl w.heap.size w4).alloc (by omega) (.cells #[.string ⟨s.toArray⟩] 9)).trans (hg8.belowC (Hown4.out.alloc _) (by simp; omega)))
     clear hg8
     have hE2 := Cv.En_two_le (l.drop m)
     have hends := ends_c (some ⟨b3, o3,none⟩) n c w.heap.size l m w8 (Hr.out.below hbel8) hn hm2
     have Hends := ek hends; have Hown8 := ek hown8; clear hends hown8
     go_wp2_with fail
     refine Hends.out.mono ?_
     rintro e w' ⟨rfl,rfl⟩
     go_wp2
     go_ret3
     have q := Hfin.out A8 c8 w8 Hown8.out hbel8
     simp only [List.length_append, List.length_cons, List.length_nil, Nat.zero_add] at q
     exact q
    ·have hmn : m < n := by
      have := congrArg List.length hst
      rw [List.length_drop, Hl.out] at this
      simp at this; omega
     have hdm : l.drop (m + 1) = tl := by rw [← List.drop_drop, hst]; rfl
     have hcm : l[m]? = some 44 := (Cv.drop_head hst).1
     have hnext : (out.length + 1 < 50 ∧ Cv.run .bg (out ++ [s]) [] (l.drop (m + 1)) = T) ∨ (out.length + 1 = 50 ∧ T = .err 5) := by
      have h2 := hT.symm.trans (hrunF out)
      rw [hst, Cv.run_comma (.inr rfl)] at h2
      by_cases h50 : out.length + 1 = 50
      ·rw [if_pos h50] at h2; exact .inr ⟨h50, h2⟩
      ·rw [if_neg h50] at h2; exact .inl ⟨by omega, by rw [hdm]; exact h2.symm⟩
     have Hnext := ek hnext; have Hcm := ek hcm; clear hnext hrunF hT hst hdm hcm
     go_wp2_with (at_builtin; go_must (refine Sl.wpAppAt sty rfl (.tmp 44) (.tmp 46) rfl (n := out.length) (m := 1) (N := out.length + 1) (ws := lvs (out ++ [s])) rfl rfl (Hown4.out.alloc _) (Rc.lit (z := 1) w4 _ #[.string ⟨s.toArray⟩] 1 rfl (by simp [maxLen])) ?hs1 rfl ?hs3 ?hs4 ?hs5 ?hs6 ?_))
     case hs1 => simp [Value.oneCell']
     case hs3 => simp [lvs]
     case hs4 => omega
     case hs5 => omega
     case hs6 => simp; omega
     intro A8 c8 w8 hown8 hg8
     have hbel8 := Hbel4.out.trans (((Below.refl w.heap.size w4).alloc (by omega) (.cells #[.string ⟨s.toArray⟩] 9)).trans (hg8.belowC (Hown4.out.alloc _) (by simp; omega)))
     clear hg8
     obtain ⟨y, hb8, hcy, hgy, hdy⟩ := (Hr.out.below hbel8).atL hmn
     clear hdy
     obtain rfl : y = 44 := by rw [Hcm.out] at hgy; injection hgy with h; exact h.symm
     have Hown8 := ek hown8; clear hown8 hgy
     go_wp2
     go_roundw
     case rel => exact ⟨A8, c8, out ++ [s], m + 1, by go_num, by simp, by omega, by simp; omega, by simpa using Hown8.out, by simpa using Hnext.out, hbel8⟩
     case measure => simp [intOf]; omega
    ·have hmn : m < n := by
      rcases Nat.lt_or_ge m n with h | h
      ·exact h
      ·rw [List.drop_eq_nil_of_le (by have := Hl.out; omega)] at hst; exact absurd rfl hst
     have hcm : l[m]? ≠ some 44 := fun h => by
      have : l.drop m = 44 :: l.drop (m + 1) := by
       have hml : m < l.length := by have := Hl.out; omega
       rw [List.getElem?_eq_getElem hml] at h
       injection h with h
       rw [List.drop_eq_getElem_cons hml, h]
      rw [this] at hst
      exact hst (Cv.En_other (by decide) (by decide))
     have hfin := Hend.out .aq out s m hm2 (.inr rfl) (.inr hst) (hT.symm.trans (hrunF out))
     have Hfin := ek hfin; have Hcm := ek hcm; clear hfin hrunF hT hst hcm
     go_wp2_with (at_builtin; go_must (refine Sl.wpAppAt sty rfl (.tmp 44) (.tmp 46) rfl (n := out.length) (m := 1) (N := out.length + 1) (ws := lvs (out ++ [s])) rfl rfl (Hown4.out.alloc _) (Rc.lit (z := 1) w4 _ #[.string ⟨s.toArray⟩] 1 rfl (by simp [maxLen])) ?hs1 rfl ?hs3 ?hs4 ?hs5 ?hs6 ?_))
     case hs1 => simp [Value.oneCell']
     case hs3 => simp [lvs]
     case hs4 => omega
     case hs5 => omega
     case hs6 => simp; omega
     intro A8 c8 w8 hown8 hg8
     have hbel8 := Hbel4.out.trans (((Below.refl w.heap.size w4).alloc (by omega) (.cells #[.string ⟨s.toArray⟩] 9)).trans (hg8.belowC (Hown4.out.alloc _) (by simp; omega)))
     clear hg8
     have hE2 := Cv.En_two_le (l.drop m)
     have hends := ends_c (some ⟨b3, o3,none⟩) n c w.heap.size l m w8 (Hr.out.below hbel8) hn hm2
     obtain ⟨y, hb8, hcy, hgy, hdy⟩ := (Hr.out.below hbel8).atL hmn
     clear hdy
     have hy : y ≠ 44 := fun h => Hcm.out (by rw [hgy, h])
     have dy : ((y.toNat : Int) == 44) = false := nb (y := 44) hy
     have Hends := ek hends; have Hown8 := ek hown8; clear hends hown8 hgy
     go_wp2_with fail
     refine Hends.out.mono ?_
     rintro e w' ⟨rfl,rfl⟩
     go_wp2
     go_ret3
     have q := Hfin.out A8 c8 w8 Hown8.out hbel8
     simp only [List.length_append, List.length_cons, List.length_nil, Nat.zero_add] at q
     exact q
   ·have hnq : ∀ tl, l.drop p ≠ 34 :: tl := fun tl h => hq ⟨tl, h⟩
    rw [Cv.run_bg_un hnq] at hT
    have hfld := plain_c A n c wr.heap.size l p wr (hr3.more z3) hn hpn
    have Hfld := ek hfld; clear hfld hq
    by_cases hpn' : p < n
    ·obtain ⟨b3, o3, x, eA, hb3, hcx, hgx, hdx⟩ := hr3.at_ hpn'
     have hx : x ≠ 34 := fun h => hnq (l.drop (p + 1)) (by rw [hdx, h])
     have dx : ((x.toNat : Int) == 34) = false := nb (y := 34) hx
     subst eA
     clear hgx hdx hnq hr3
     go_wp2_with fail
     refine Hfld.out.mono ?_
     rintro e w4 (⟨k, rfl, ⟨hk, hF⟩, hb4⟩ | ⟨s, m, rfl, ⟨hs, hm1, hm2', hst, hrunF⟩, hb4⟩)
     ·have hTk : T = .err k := hT.symm.trans (hF out)
      have dk : ((k : Int) == 0) = false := by rw [beq_eq_false_iff_ne]; omega
      have dk2 : ((k : Int) != 0) = true := by simp [bne, dk]
      have HTk := ek hTk; clear hTk hF hT
      go_wp2
      go_ret3
      rw [HTk.out]
      exact ⟨rfl, hbel.trans (hb4.mono z3)⟩
     have hm2 : m ≤ n := by rw [Hl.out] at hm2'; exact hm2'
     have z4 := hb4.size
     have Hown4 := ek (Hown.out.keep hb4)
     have Hbel4 := ek (hbel.trans (hb4.mono z3))
     clear hm2' hs
     rcases hst with hst | ⟨tl, hst⟩ | hst
     ·have hmn : ¬ m < n := fun h => by
       have := congrArg List.length hst
       rw [List.length_drop, Hl.out] at this
       simp at this; omega
      have hfin := Hend.out .un out s m hm2 (.inl rfl) (.inl hst) (hT.symm.trans (hrunF out))
      have Hfin := ek hfin; clear hfin hrunF hT hst
      go_wp2_with (at_builtin; go_must (refine Sl.wpAppAt sty rfl (.tmp 44) (.tmp 46) rfl (n := out.length) (m := 1) (N := out.length + 1) (ws := lvs (out ++ [s])) rfl rfl (Hown4.out.alloc _) (Rc.lit (z := 1) w4 _ #[.string ⟨s.toArray⟩] 1 rfl (by simp [maxLen])) ?hs1 rfl ?hs3 ?hs4 ?hs5 ?hs6 ?_))
      case hs1 => simp [Value.oneCell']
      case hs3 => simp [lvs]
      case hs4 => omega
      case hs5 => omega
      case hs6 => simp; omega
      intro A8 c8 w8 hown8 hg8
      have hbel8 := Hbel4.out.trans (((Below.refl w.heap.size w4).alloc (by omega) (.cells #[.string ⟨s.toArray⟩] 9)).trans (hg8.belowC (Hown4.out.alloc _) (by simp; omega)))
      clear hg8
      have hE2 := Cv.En_two_le (l.drop m)
      have hends := ends_c (some ⟨b3, o3,none⟩) n c w.heap.size l m w8 (Hr.out.below hbel8) hn hm2
      have Hends := ek hends; have Hown8 := ek hown8; clear hends hown8
      go_wp2_with fail
      refine Hends.out.mono ?_
      rintro e w' ⟨rfl,rfl⟩
      go_wp2
      go_ret3
      have q := Hfin.out A8 c8 w8 Hown8.out hbel8
      simp only [List.length_append, List.length_cons, List.length_nil, Nat.zero_add] at q
      exact q
     ·have hmn : m < n := by
       have := congrArg List.length hst
       rw [List.length_drop, Hl.out] at this
       simp at this; omega
      have hdm : l.drop (m + 1) = tl := by rw [← List.drop_drop, hst]; rfl
      have hcm : l[m]? = some 44 := (Cv.drop_head hst).1
      have hnext : (out.length + 1 < 50 ∧ Cv.run .bg (out ++ [s]) [] (l.drop (m + 1)) = T) ∨ (out.length + 1 = 50 ∧ T = .err 5) := by
       have h2 := hT.symm.trans (hrunF out)
       rw [hst, Cv.run_comma (.inl rfl)] at h2
       by_cases h50 : out.length + 1 = 50
       ·rw [if_pos h50] at h2; exact .inr ⟨h50, h2⟩
       ·rw [if_neg h50] at h2; exact .inl ⟨by omega, by rw [hdm]; exact h2.symm⟩
      have Hnext := ek hnext; have Hcm := ek hcm; clear hnext hrunF hT hst hdm hcm
      go_wp2_with (at_builtin; go_must (refine Sl.wpAppAt sty rfl (.tmp 44) (.tmp 46) rfl (n := out.length) (m := 1) (N := out.length + 1) (ws := lvs (out ++ [s])) rfl rfl (Hown4.out.alloc _) (Rc.lit (z := 1) w4 _ #[.string ⟨s.toArray⟩] 1 rfl (by simp [maxLen])) ?hs1 rfl ?hs3 ?hs4 ?hs5 ?hs6 ?_))
      case hs1 => simp [Value.oneCell']
      case hs3 => simp [lvs]
      case hs4 => omega
      case hs5 => omega
      case hs6 => simp; omega
      intro A8 c8 w8 hown8 hg8
      have hbel8 := Hbel4.out.trans (((Below.refl w.heap.size w4).alloc (by omega) (.cells #[.string ⟨s.toArray⟩] 9)).trans (hg8.belowC (Hown4.out.alloc _) (by simp; omega)))
      clear hg8
      obtain ⟨y, hb8, hcy, hgy, hdy⟩ := (Hr.out.below hbel8).atL hmn
      clear hdy
      obtain rfl : y = 44 := by rw [Hcm.out] at hgy; injection hgy with h; exact h.symm
      have Hown8 := ek hown8; clear hown8 hgy
      go_wp2
      go_roundw
      case rel => exact ⟨A8, c8, out ++ [s], m + 1, by go_num, by simp, by omega, by simp; omega, by simpa using Hown8.out, by simpa using Hnext.out, hbel8⟩
      case measure => simp [intOf]; omega
     ·have hmn : m < n := by
       rcases Nat.lt_or_ge m n with h | h
       ·exact h
       ·rw [List.drop_eq_nil_of_le (by have := Hl.out; omega)] at hst; exact absurd rfl hst
      have hcm : l[m]? ≠ some 44 := fun h => by
       have : l.drop m = 44 :: l.drop (m + 1) := by
        have hml : m < l.length := by have := Hl.out; omega
        rw [List.getElem?_eq_getElem hml] at h
        injection h with h
        rw [List.drop_eq_getElem_cons hml, h]
       rw [this] at hst
       exact hst (Cv.En_other (by decide) (by decide))
      have hfin := Hend.out .un out s m hm2 (.inl rfl) (.inr hst) (hT.symm.trans (hrunF out))
      have Hfin := ek hfin; have Hcm := ek hcm; clear hfin hrunF hT hst hcm
      go_wp2_with (at_builtin; go_must (refine Sl.wpAppAt sty rfl (.tmp 44) (.tmp 46) rfl (n := out.length) (m := 1) (N := out.length + 1) (ws := lvs (out ++ [s])) rfl rfl (Hown4.out.alloc _) (Rc.lit (z := 1) w4 _ #[.string ⟨s.toArray⟩] 1 rfl (by simp [maxLen])) ?hs1 rfl ?hs3 ?hs4 ?hs5 ?hs6 ?_))
      case hs1 => simp [Value.oneCell']
      case hs3 => simp [lvs]
      case hs4 => omega
      case hs5 => omega
      case hs6 => simp; omega
      intro A8 c8 w8 hown8 hg8
      have hbel8 := Hbel4.out.trans (((Below.refl w.heap.size w4).alloc (by omega) (.cells #[.string ⟨s.toArray⟩] 9)).trans (hg8.belowC (Hown4.out.alloc _) (by simp; omega)))
      clear hg8
      have hE2 := Cv.En_two_le (l.drop m)
      have hends := ends_c (some ⟨b3, o3,none⟩) n c w.heap.size l m w8 (Hr.out.below hbel8) hn hm2
      obtain ⟨y, hb8, hcy, hgy, hdy⟩ := (Hr.out.below hbel8).atL hmn
      clear hdy
      have hy : y ≠ 44 := fun h => Hcm.out (by rw [hgy, h])
      have dy : ((y.toNat : Int) == 44) = false := nb (y := 44) hy
      have Hends := ek hends; have Hown8 := ek hown8; clear hends hown8 hgy
      go_wp2_with fail
      refine Hends.out.mono ?_
      rintro e w' ⟨rfl,rfl⟩
      go_wp2
      go_ret3
      have q := Hfin.out A8 c8 w8 Hown8.out hbel8
      simp only [List.length_append, List.length_cons, List.length_nil, Nat.zero_add] at q
      exact q
    ·clear hnq hr3
     go_wp2_with fail
     refine Hfld.out.mono ?_
     rintro e w4 (⟨k, rfl, ⟨hk, hF⟩, hb4⟩ | ⟨s, m, rfl, ⟨hs, hm1, hm2', hst, hrunF⟩, hb4⟩)
     ·have hTk : T = .err k := hT.symm.trans (hF out)
      have dk : ((k : Int) == 0) = false := by rw [beq_eq_false_iff_ne]; omega
      have dk2 : ((k : Int) != 0) = true := by simp [bne, dk]
      have HTk := ek hTk; clear hTk hF hT
      go_wp2
      go_ret3
      rw [HTk.out]
      exact ⟨rfl, hbel.trans (hb4.mono z3)⟩
     have hm2 : m ≤ n := by rw [Hl.out] at hm2'; exact hm2'
     have z4 := hb4.size
     have Hown4 := ek (Hown.out.keep hb4)
     have Hbel4 := ek (hbel.trans (hb4.mono z3))
     clear hm2' hs
     rcases hst with hst | ⟨tl, hst⟩ | hst
     ·have hmn : ¬ m < n := fun h => by
       have := congrArg List.length hst
       rw [List.length_drop, Hl.out] at this
       simp at this; omega
      have hfin := Hend.out .un out s m hm2 (.inl rfl) (.inl hst) (hT.symm.trans (hrunF out))
      have Hfin := ek hfin; clear hfin hrunF hT hst
      go_wp2_with (at_builtin; go_must (refine Sl.wpAppAt sty rfl (.tmp 44) (.tmp 46) rfl (n := out.length) (m := 1) (N := out.length + 1) (ws := lvs (out ++ [s])) rfl rfl (Hown4.out.alloc _) (Rc.lit (z := 1) w4 _ #[.string ⟨s.toArray⟩] 1 rfl (by simp [maxLen])) ?hs1 rfl ?hs3 ?hs4 ?hs5 ?hs6 ?_))
      case hs1 => simp [Value.oneCell']
      case hs3 => simp [lvs]
      case hs4 => omega
      case hs5 => omega
      case hs6 => simp; omega
      intro A8 c8 w8 hown8 hg8
      have hbel8 := Hbel4.out.trans (((Below.refl w.heap.size w4).alloc (by omega) (.cells #[.string ⟨s.toArray⟩] 9)).trans (hg8.belowC (Hown4.out.alloc _) (by simp; omega)))
      clear hg8
      have hE2 := Cv.En_two_le (l.drop m)
      have hends := ends_c A n c w.heap.size l m w8 (Hr.out.below hbel8) hn hm2
      have Hends := ek hends; have Hown8 := ek hown8; clear hends hown8
      go_wp2_with fail
      refine Hends.out.mono ?_
      rintro e w' ⟨rfl,rfl⟩
      go_wp2
      go_ret3
      have q := Hfin.out A8 c8 w8 Hown8.out hbel8
      simp only [List.length_append, List.length_cons, List.length_nil, Nat.zero_add] at q
      exact q
     ·exfalso
      have := (Cv.drop_head hst).2.2
      have := Hl.out; omega
     ·exfalso
      rw [List.drop_eq_nil_of_le (by have := Hl.out; omega)] at hst
      exact hst rfl
  ·have d50 : ((out.length : Int) == 50) = true := by simp; omega
   have HT := ek hT; clear hT hr3
   go_wp2
   go_ret3
   rw [HT.out]
   exact ⟨rfl, hbel⟩
end Go.Proofs.YtkekmokdlgocaaaGreatDoor.Csv
