/-
  csv's Scan: what each call returns and leaves.
-/
import Derived.Test.YtpjnkbfjnonkhaaDoorK3
import Derived.Test.YtpjnkbfjnonkhaaDoorPw
namespace Go.Proofs.YtpjnkbfjnonkhaaDoor
open Go.RowKit

theorem oc_lt {z : Nat} {w : World} {e : TypeId} {base n c : Nat} {A : Option Addr} {vs : List Value} (h : Oc z w e base A n c vs) : ∀ g, ob A = some g → g < w.heap.size := fun g hg => (oc_ob h g hg).2
/-- A literal of one piece of one record that is there: two new blocks. -/
theorem piece_lit2 (w : World) (v : Value) (r : List (List UInt8)) (a : Nat) (A : Option Addr) (base : Nat) (te tp : TypeId) (hb : base ≤ w.heap.size) (hA : ∀ g, ob A = some g → g < w.heap.size) (hv : RrS w (Sf base w A) v r) (w5 w6 : World)
    (h5 : w5 = w.alloc (.cells #[v] te)) (h6 : w6 = w5.alloc (.cells #[.int .i64 (a : Int), .slice (some ⟨w.heap.size, 0, none⟩) 1 1] tp)) :
    w6.heap.size = w.heap.size + 2 ∧ Below w.heap.size w w6 ∧ Rc 2 w6 w6.heap.size (some ⟨w.heap.size + 1, 0, none⟩) 1 1 [.int .i64 (a : Int), .slice (some ⟨w.heap.size, 0, none⟩) 1 1] ∧
    PrS w6 (Sf base w6 A) (.int .i64 (a : Int)) (.slice (some ⟨w.heap.size, 0, none⟩) 1 1) (a, [r]) := by
  have z5 : w5.heap.size = w.heap.size + 1 := by rw [h5]; simp
  have z6 : w6.heap.size = w.heap.size + 2 := by rw [h6]; simp [z5]
  have b6 : Below w.heap.size w w6 := by
    rw [h6, h5]
    exact ((Below.refl _ _).alloc (Nat.le_refl _) _).alloc (by simp) _
  have g5 : w5.cell? ⟨w.heap.size, 0, none⟩ = some v := by rw [h5]; simp
  have g56 : w6.cell? ⟨w.heap.size, 0, none⟩ = some v := by rw [h6, World.cell?_alloc_lt _ _ _ (by simp [z5])]; exact g5
  have hne : some w.heap.size ≠ ob A := fun e => by have := hA _ e.symm; omega
  refine ⟨z6, b6, ?_, rfl, _, _, _, rfl, [v], ⟨rfl, Nat.le_refl _, by simp [maxLen], fun _ => ⟨_, _, rfl, ⟨hb, by omega, hne⟩, fun j x hj => ?_⟩⟩, rfl, fun j x s hj hs => ?_⟩
  · have h := Rc.lit (z := 2) w5 tp #[.int .i64 (a : Int), .slice (some ⟨w.heap.size, 0, none⟩) 1 1] 1 rfl (by simp [maxLen])
    rw [← h6, z5] at h
    exact h.more (by omega)
  · cases j with
    | zero => simp at hj; subst hj; exact g56
    | succ j => simp at hj
  · cases j with
    | zero =>
      simp at hj hs
      subst hj hs
      exact hv.keep (sf_below b6)
    | succ j => simp at hj
/-- A record made behind a row's world is in the row's blocks, but for its own. -/
theorem rec_sf {w' : World} {base g : Nat} {e : TypeId} {A D : Option Addr} {n c : Nat} {r : List (List UInt8)} (hD : Oc 1 w' e g D n c (lvs r)) (hg : base ≤ g) (hA : ∀ k, ob A = some k → k < g) : RrS w' (Sf base w' A) (.slice D n c) r :=
  ⟨D, n, c, rfl, hD.rcS.keep (stays_weak fun b hb => ⟨Nat.le_trans hg hb.1, hb.2, fun e => by have := hA b e.symm; have := hb.1; omega⟩)⟩

def RetSc (w : World) (l : List UInt8) (e : Ending) (w' : World) : Prop :=
  ∃ A c, e = .returned (.tuple #[.slice A (Cv.ls l).length c, .int .i64 (Cv.good l : Int), .int .i64 (Cv.er l : Int)]) ∧ PLS w' (Fr w.heap.size w') A (Cv.ls l).length c ((Cv.ls l).map Cv.pc) ∧ Below w.heap.size w w'
def ScanRel (base n : Nat) (w : World) (l : List UInt8) (o t : Value) (wr : World) : Prop :=
  ∃ A c vs done, ∃ a : Nat, o = .slice A done.length c ∧ t = .int .i64 (a : Int) ∧ a ≤ n ∧ Oc 2 wr 43 base A done.length c vs ∧ PsS wr (Sf base wr A) vs (done.map Cv.pc) ∧ done ++ (Cv.rs a (l.drop a)).1 = Cv.ls l ∧ (Cv.rs a (l.drop a)).2 = (Cv.good l, Cv.er l) ∧ Below base w wr

set_option maxHeartbeats 2000000 in
set_option maxRecDepth 100000 in
/-- Scan -/
theorem scan_c (A : Option Addr) (n c : Nat) (l : List UInt8) (w : World) (hr : Rb w w.heap.size A n c l) (hn : n ≤ 1000000) :
    Calls Tryd.prog 8 #[.slice A n c] w (RetSc w l) := by
  have hl := hr.len
  have Hr := Lib.hid hr; have Hl := Lib.hid hl; clear hr hl
  go_enter Tryd.func8, Tryd.ntmps8
  go_wp2
  go_loopw [5, 6] (fun o t wr => ScanRel w.heap.size n w l o t wr) (fun _ t _ => n - (intOf t).toNat)
  case atStart => exact ⟨none, 0, [], [], 0, rfl, rfl, Nat.zero_le _, Oc.nil _ _ _ _, PsS.nil, rfl, rfl, Below.refl _ _⟩
  case round =>
    obtain ⟨A3, c3, vs, done, a, rfl, rfl, ha, hown, hps, hst, hge, hbel⟩ := hrel
    have z3 := hbel.size
    have hlen : done.length ≤ n := by
      have h1 := Cv.ls_len l
      have h2 := congrArg List.length hst
      rw [List.length_append] at h2
      have := Hl.out
      omega
    rename World => wr
    by_cases hlt : a < n
    · have hr3 := (Hr.out.below hbel).more z3
      obtain ⟨D, hD, hrD⟩ := bty.from_ hr3 (k := a) (by omega) (a : Int) rfl
      have hlen2 : (l.drop a).length = n - a := by rw [List.length_drop, Hl.out]
      have hpc := parse_c D (n - a) (c - a) (l.drop a) wr hrD (by omega)
      have Hst := Lib.hid hst; have Hown := Lib.hid hown; have Hps := Lib.hid hps; have Hge := Lib.hid hge; clear hst hown hps hr3 hge
      rcases Cv.rs_step l a (by have := Hl.out; omega) with ⟨r, m, hrun, hm1, hm2, hrs, hm3, hfew⟩ | ⟨k, hrun, hrs, hk⟩
      · rw [hrun] at hpc
        have hst2 : (done ++ [(a, r)]) ++ (Cv.rs m (l.drop m)).1 = Cv.ls l := by
          rw [← Hst.out, hrs]; simp [Cv.cons3]
        have hge2 : (Cv.rs m (l.drop m)).2 = (Cv.good l, Cv.er l) := by rw [← Hge.out, hrs]; rfl
        have hmn : m ≤ n := by rw [Hl.out] at hm2; exact hm2
        have hd : n - a - (l.drop m).length = m - a := by rw [← hlen2]; exact hm3
        have Hpc := Lib.hid hpc; have Hst2 := Lib.hid hst2; have Hge2 := Lib.hid hge2; have Hd := Lib.hid hd; clear hpc hst2 hge2 hrun hrs hm2 hm3 hfew hrD hlen2 hd
        go_wp2_with fail
        refine Hpc.out.mono ?_
        rintro e w4 ⟨D4, d4, rfl, ho4, hb4⟩
        rw [Hd.out]
        have z4 := hb4.size
        have hA := oc_lt Hown.out
        have hown4 := Hown.out.keep hb4
        have hv4 := rec_sf (base := w.heap.size) (A := A3) ho4 z3 hA
        obtain ⟨w5, h5⟩ : ∃ w5, w5 = w4.alloc (.cells #[.slice D4 r.length d4] 34) := ⟨_, rfl⟩
        obtain ⟨w6, h6⟩ : ∃ w6, w6 = w5.alloc (.cells #[.int .i64 (a : Int), .slice (some ⟨w4.heap.size, 0, none⟩) 1 1] 43) := ⟨_, rfl⟩
        obtain ⟨z6, b6, hlit, hpr⟩ := piece_lit2 w4 _ r a A3 w.heap.size _ _ (by omega) (oc_lt hown4) hv4 w5 w6 h5 h6
        have hown6 := hown4.keep b6
        have hps6 := ((Hps.out.keep (sf_below hb4)).keep (sf_below b6)).snoc hpr
        have bw6 := (hbel.trans (hb4.mono z3)).trans (b6.mono (by omega))
        have H5 := Lib.hid h5; have H6 := Lib.hid h6; have Hlit := Lib.hid hlit; have Hown6 := Lib.hid hown6; have Hps6 := Lib.hid hps6; have Z6 := Lib.hid z6; clear h5 h6 hlit hpr hown6 hps6 z6 b6 hv4 hown4 hA ho4
        have q0 : (a : Int) + ((m - a : Nat) : Int) = (m : Int) := by omega
        go_wp2_with (at_builtin; rw [← H5.out, ← H6.out]; go_must (refine Sl.wpAppAt pty rfl (.tmp 27) (.tmp 32) rfl (n := done.length) (m := 1) (N := done.length + 1) (ws := vs ++ [.int .i64 (a : Int), .slice (some ⟨w4.heap.size, 0, none⟩) 1 1]) rfl rfl Hown6.out Hlit.out ?hs1 rfl rfl ?hs4 ?hs5 ?hs6 ?_))
        case hs1 => simp [Value.oneCell']
        case hs4 => omega
        case hs5 => omega
        case hs6 => have := Z6.out; omega
        intro A8 c8 w8 hown8 hg8
        have bw8 := bw6.trans (hg8.belowC Hown6.out (by have := Z6.out; omega))
        have hps8 := Hps6.out.keep (sf_grow hg8)
        have Hown8 := Lib.hid hown8; have Hps8 := Lib.hid hps8; clear hown8 hps8 hg8
        go_wp2
        go_roundw
        case rel => exact ⟨A8, c8, vs ++ [.int .i64 (a : Int), .slice (some ⟨w4.heap.size, 0, none⟩) 1 1], done ++ [(a, r)], m, by simp, by first | rfl | (rw [q0]; go_num) | go_num, hmn, by rw [List.length_append]; exact Hown8.out, by rw [List.map_append]; exact Hps8.out, Hst2.out, Hge2.out, bw8⟩
        case measure => simp [intOf]; omega
      · rw [hrun] at hpc
        have hdl : done = Cv.ls l := by rw [← Hst.out, hrs]; simp
        have hg : Cv.good l = a := by have h := Hge.out; rw [hrs] at h; injection h with h1 h2; exact h1.symm
        have he : Cv.er l = k := by have h := Hge.out; rw [hrs] at h; injection h with h1 h2; exact h2.symm
        have dk : ((k : Int) == 0) = false := by rw [beq_eq_false_iff_ne]; omega
        have dk2 : ((k : Int) != 0) = true := by simp [bne, dk]
        have Hpc := Lib.hid hpc; have Hdl := Lib.hid hdl; have Hg := Lib.hid hg; have He := Lib.hid he; clear hpc hdl hg he hrun hrs hrD hlen2 hk
        go_wp2_with fail
        refine Hpc.out.mono ?_
        rintro e w4 ⟨m, rfl, hb4⟩
        have hown4 := Hown.out.keep hb4
        have hps4 := Hps.out.keep (sf_below hb4)
        have hfin : PLS w4 (Fr w.heap.size w4) A3 done.length c3 (done.map Cv.pc) := ⟨vs, hown4.rcS, hps4.keep (stays_weak sf_fr)⟩
        have Hfin := Lib.hid hfin; have Hbel := Lib.hid (hbel.trans (hb4.mono z3)); clear hown4 hps4 hfin
        go_wp2
        go_ret3
        refine ⟨A3, c3, ?_, ?_, Hbel.out⟩
        · rw [← Hdl.out, Hg.out, He.out]; rfl
        · rw [← Hdl.out]; exact Hfin.out
    · have e : a = n := by omega
      subst e
      rw [← Hl.out, List.drop_length, Cv.rs_nil] at hst hge
      have hd : done = Cv.ls l := by rw [← hst]; simp
      have hfin : PLS wr (Fr w.heap.size wr) A3 done.length c3 (done.map Cv.pc) := ⟨vs, hown.rcS, hps.keep (stays_weak sf_fr)⟩
      injection hge with hg1 hg2
      have Hd := Lib.hid hd; have Hfin := Lib.hid hfin; have Hg1 := Lib.hid hg1; have Hg2 := Lib.hid hg2; clear hst hown hps hd hfin hg1 hg2
      go_wp2
      go_ret3
      refine ⟨A3, c3, ?_, ?_, hbel⟩
      · rw [← Hd.out, ← Hg1.out, ← Hg2.out, Hl.out]; rfl
      · rw [← Hd.out]; exact Hfin.out

theorem Rb.atL {w : World} {B n c b o k : Nat} {l : List UInt8} (h : Rb w B (some ⟨b, o, none⟩) n c l) (hk : k < n) : ∃ x, b < B ∧ w.cell? ⟨b, o + k, none⟩ = some (.int .u8 (x.toNat : Int)) ∧ l[k]? = some x ∧ l.drop k = x :: l.drop (k + 1) := by
  obtain ⟨b', o', x, e, h1, h2, h3⟩ := h.at_ hk
  injection e with e
  injection e with e1 e2 _
  subst e1 e2
  exact ⟨x, h1, h2, h3⟩
end Go.Proofs.YtpjnkbfjnonkhaaDoor
