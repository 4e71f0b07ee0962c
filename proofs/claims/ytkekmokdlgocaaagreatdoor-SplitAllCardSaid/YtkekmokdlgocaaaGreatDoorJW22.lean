import Derived.Test.YtkekmokdlgocaaaGreatDoorJW21
import Derived.Lib.BytesEntry
set_option maxRecDepth 100000
set_option maxHeartbeats 4000000
namespace Go.Proofs.YtkekmokdlgocaaaGreatDoor.Csv
open Go.RowKit
theorem rec_lit2 (w : World) (v : Value) (r : List (List UInt8)) (A : Option Addr) (base : Nat) (te : TypeId) (hv : RrS w (Sf base w A) v r) (w5 : World) (h5 : w5 = w.alloc (.cells #[v] te)) :
  w5.heap.size = w.heap.size + 1 ∧ Below w.heap.size w w5 ∧ Rc 1 w5 w5.heap.size (some ⟨w.heap.size, 0,none⟩) 1 1 [v] ∧ RrS w5 (Sf base w5 A) v r := by
 have z5 : w5.heap.size = w.heap.size + 1 := by rw [h5]; simp
 have b5 : Below w.heap.size w w5 := by rw [h5]; exact ej _ _
 refine ⟨z5, b5, ?_, hv.keep (sf_below b5)⟩
 have h := Rc.lit (z := 1) w te #[v] 1 rfl (by simp [maxLen])
 rw [← h5] at h
 exact h.more (by omega)
theorem readValid_c (A : Option Addr) (n c : Nat) (v : List UInt8) (f t : Nat) (q : Bool) (w : World) (hr : Rb w w.heap.size A n c v) (ht : t ≤ n) (hn : n ≤ 1000000) (hf : f ≤ 1000000) (L : List (Nat × List (List UInt8)))
  (hL : L = Cv.rl v (Cv.fs v f t q) t) (hV : t ≤ Cv.fs v f t q ∨ Cv.V v (Cv.fs v f t q)) (hF : Cv.fs v f t q ≤ n) (hLn : L.length ≤ n) :
  Calls Tryz.prog 74 #[.slice A n c, .int .i64 (f : Int), .int .i64 (t : Int), .bool q] w (RetR w (L.map (·.2))) := by
 have hl := hr.len
 have Hfs := ek (first_c A n c _ v f t q w hr ht hn hf)
 obtain ⟨F, hFe⟩ : ∃ F, F = Cv.fs v f t q := ⟨_, rfl⟩
 rw [← hFe] at hL hV hF Hfs
 have Hr := ek hr; have Hl := ek hl; have HL := ek hL; have HV := ek hV; clear hr hl hL hV hFe
 go_enter Tryz.func74, Tryz.ntmps74
 go_wp2_with fail
 refine Hfs.out.mono ?_
 rintro e w1 ⟨rfl,rfl⟩
 go_wp2
 go_loopw [9, 10] (fun o i wr => RdRel w.heap.size t w v L o i wr) (fun _ i _ => n - (intOf i).toNat)
 case atStart => exact ⟨none, 0, [], [], F, rfl, rfl, by rw [Hl.out]; exact hF, Oc.nil _ _ _ _, RrsS.nil, by rw [HL.out]; rfl, HV.out, Below.refl _ _⟩
 case round =>
  obtain ⟨A3, c3, vs, done, a, rfl, rfl, ha, hown, hps, hst, hva, hbel⟩ := hrel
  have z3 := hbel.size
  have hlen : done.length ≤ n := by
   have h2 := congrArg List.length hst
   rw [List.length_append] at h2
   omega
  rename World => wr
  by_cases hlt : a < t
  ·have hr3 := (Hr.out.below hbel).more z3
   obtain ⟨D, hD, hrD⟩ := bty.from_ hr3 (k := a) (by omega) (a : Int) rfl
   have hlen2 : (v.drop a).length = n - a := by rw [List.length_drop, Hl.out]
   have hpc := parse_c D (n - a) (c - a) (v.drop a) wr hrD (by omega)
   obtain ⟨r, m, hrun, hm1, hm2, hVm, hm3, hrs⟩ := Cv.V_step v a (hva.resolve_left (by omega)) (by rw [Hl.out]; omega)
   rw [hrun] at hpc
   have hst2 : (done ++ [(a, r)]) ++ Cv.rl v m t = L := by
    rw [← hst, Cv.rl_step v a t m r hlt hrs]; simp
   have hmn : m ≤ n := by rw [Hl.out] at hm2; exact hm2
   have hd : n - a - (v.drop m).length = m - a := by rw [← hlen2]; exact hm3
   have Hown := ek hown; have Hps := ek hps; have Hpc := ek hpc; have Hst2 := ek hst2; have Hd := ek hd; have HVm := ek hVm; clear hst hown hps hr3 hpc hst2 hrun hrs hm3 hrD hlen2 hd hva hVm
   go_wp2_with fail
   refine Hpc.out.mono ?_
   rintro e w4 ⟨D4, d4, rfl, ho4, hb4⟩
   rw [Hd.out]
   have z4 := hb4.size
   have hA := oc_lt Hown.out
   have hown4 := Hown.out.keep hb4
   have hv4 := rec_sf (base := w.heap.size) (A := A3) ho4 z3 hA
   obtain ⟨w5, h5⟩ : ∃ w5, w5 = w4.alloc (.cells #[.slice D4 r.length d4] 77) := ⟨_, rfl⟩
   obtain ⟨z5, b5, hlit, hpr⟩ := rec_lit2 w4 _ r A3 w.heap.size _ hv4 w5 h5
   have hown5 := hown4.keep b5
   have hps5 := ((Hps.out.keep (sf_below hb4)).keep (sf_below b5)).snoc hpr
   have bw5 := (hbel.trans (hb4.mono z3)).trans (b5.mono (by omega))
   have H5 := ek h5; have Hlit := ek hlit; have Hown5 := ek hown5; have Hps5 := ek hps5; have Z5 := ek z5; clear h5 hlit hpr hown5 hps5 z5 b5 hv4 hown4 hA ho4
   have q0 : (a : Int) + ((m - a : Nat) : Int) = (m : Int) := by omega
   go_wp2_with (at_builtin; rw [← H5.out]; go_must (refine Sl.wpAppAt rty rfl (.tmp 32) (.tmp 34) rfl (n := done.length) (m := 1) (N := done.length + 1) (ws := vs ++ [.slice D4 r.length d4]) rfl rfl Hown5.out Hlit.out ?hs1 rfl rfl ?hs4 ?hs5 ?hs6 ?_))
   case hs1 => simp [Value.oneCell']
   case hs4 => omega
   case hs5 => omega
   case hs6 => have := Z5.out; omega
   intro A8 c8 w8 hown8 hg8
   have bw8 := bw5.trans (hg8.belowC Hown5.out (by have := Z5.out; omega))
   have hps8 := Hps5.out.keep (sf_grow hg8)
   have Hown8 := ek hown8; have Hps8 := ek hps8; clear hown8 hps8 hg8
   go_wp2
   go_roundw
   case rel => exact ⟨A8, c8, vs ++ [.slice D4 r.length d4], done ++ [(a, r)], m, by simp, by first | rfl | (rw [q0]; go_num) | go_num, by rw [Hl.out]; exact hmn, by rw [List.length_append]; exact Hown8.out, by rw [List.map_append]; exact Hps8.out, Hst2.out, .inr HVm.out, bw8⟩
   case measure => simp [intOf]; omega
  ·rw [Cv.rl_end v a t (by omega), List.append_nil] at hst
   subst hst
   have hfin : RLS wr (Fr w.heap.size wr) A3 (done.map (·.2)).length c3 (done.map (·.2)) := ⟨vs, by rw [List.length_map]; exact hown.rcS, hps.keep (stays_weak sf_fr)⟩
   have Hfin := ek hfin; clear hown hps hfin
   go_wp2
   go_ret
   exact ⟨A3, c3, by rw [List.length_map]; rfl, Hfin.out, hbel⟩
def RetRE (w : World) (l : List (List (List UInt8))) (k : Int) (e : Ending) (w' : World) : Prop :=
 ∃ A c, e = .returned (.tuple #[.slice A l.length c, .int .i64 k]) ∧ RLS w' (Fr w.heap.size w') A l.length c l ∧ Below w.heap.size w w'
theorem read_ok (A : Option Addr) (n c : Nat) (l : List UInt8) (f t : Nat) (w : World) (hr : Rb w w.heap.size A n c l) (hft : f ≤ t) (ht : t ≤ n) (hn : n ≤ 1000000) :
  Calls Tryz.prog 51 #[.slice A n c, .int .i64 (f : Int), .int .i64 (t : Int), .bool (Cv.odd (l.take f)), .int .i64 (Cv.good l : Int)] w (RetRE w ((Cv.rd (Cv.ls l) f t).map (·.2)) (if Cv.good l < t then 3 else 0)) := by
 have hl := hr.len
 have hg := Cv.good_le l
 obtain ⟨G, hG⟩ : ∃ G, G = Cv.good l := ⟨_, rfl⟩
 obtain ⟨D, hD, hrD⟩ := bty.upto_ hr (k := G) (by omega) (G : Int) rfl
 have hv : Cv.V (l.take G) 0 := by rw [hG]; exact Cv.V_good l
 have hls : (Cv.rs 0 (l.take G)).1 = Cv.ls l := by rw [hG, Cv.ls_good]
 have hvl : (l.take G).length = G := by rw [List.length_take]; omega
 obtain ⟨t2, ht2⟩ : ∃ t2, t2 = min t G := ⟨_, rfl⟩
 obtain ⟨q, hq⟩ : ∃ q, q = Cv.odd (l.take f) := ⟨_, rfl⟩
 have hrv : ∀ W, Rb W W.heap.size D G c (l.take G) → Calls Tryz.prog 74 #[.slice D G c, .int .i64 (f : Int), .int .i64 (t2 : Int), .bool q] W (RetR W ((Cv.rd (Cv.ls l) f t).map (·.2))) := fun W h => by
  rw [Cv.rd_min, ← hG, ← ht2]
  have hlen : (Cv.rd (Cv.ls l) f t2).length ≤ G := by
   have := Cv.rs_len 0 (l.take G)
   rw [hls, hvl] at this
   exact Nat.le_trans (List.length_filter_le _ _) this
  by_cases hfG : f ≤ G
  ·have h2 := Cv.fs_rd (l.take G) f t2 hv (by omega) (by omega)
   rw [Cv.odd_take l f G hfG, ← hq, hls] at h2
   exact readValid_c D G c (l.take G) f t2 q W h (by omega) (by omega) (by omega) _ h2.1 h2.2.1 (by omega) hlen
  ·have h2 : Cv.fs (l.take G) f t2 q = t2 := if_pos (by omega)
   have h3 : Cv.rd (Cv.ls l) f t2 = Cv.rl (l.take G) (Cv.fs (l.take G) f t2 q) t2 := by
    rw [h2, Cv.rl_end _ _ _ (Nat.le_refl _)]
    unfold Cv.rd
    rw [List.filter_eq_nil_iff]
    intro p _; simp; omega
   exact readValid_c D G c (l.take G) f t2 q W h (by omega) (by omega) (by omega) _ h3 (.inl (by omega)) (by omega) hlen
 rw [← hG, ← hq]
 have d1 : decide ((f : Int) < 0) = false := by simp
 have d2 : decide ((t : Int) < (f : Int)) = false := by simp; omega
 have d3 : decide ((n : Int) < (t : Int)) = false := by simp; omega
 have d4 : decide ((G : Int) < 0) = false := by simp
 have d5 : decide ((n : Int) < (G : Int)) = false := by simp; omega
 have e2 : decide (t < f) = false := by simp; omega
 have e3 : decide (n < t) = false := by simp; omega
 have e5 : decide (n < G) = false := by simp; omega
 have dm : t2 = min t G := ht2
 have Hrv := ek (hrv w hrD); clear hrv hr hrD hv hls hvl hG ht2 hq hl
 by_cases hGt : G < t
 ·have d6 : decide ((G : Int) < (t : Int)) = true := by simp; omega
  obtain rfl : t2 = G := by omega
  clear dm
  rw [if_pos hGt]
  go_enter Tryz.func51, Tryz.ntmps51
  go_wp2_with fail
  refine Hrv.out.mono ?_
  rintro e w4 ⟨A4, c4, rfl, h4, hb4⟩
  have H4 := ek h4; clear h4
  go_wp2
  go_ret2
  exact ⟨A4, c4, by rw [List.length_map]; rfl, H4.out, hb4⟩
 ·have d6 : decide ((G : Int) < (t : Int)) = false := by simp; omega
  obtain rfl : t2 = t := by omega
  clear dm
  rw [if_neg hGt]
  go_enter Tryz.func51, Tryz.ntmps51
  go_wp2_with fail
  refine Hrv.out.mono ?_
  rintro e w4 ⟨A4, c4, rfl, h4, hb4⟩
  have H4 := ek h4; clear h4
  go_wp2
  go_ret2
  exact ⟨A4, c4, by rw [List.length_map]; rfl, H4.out, hb4⟩
theorem scanD_c (A : Option Addr) (n c : Nat) (l : List UInt8) (w : World) (hr : Rb w w.heap.size A n c l) (hn : n ≤ 1000000) :
  Calls Tryz.prog 61 #[.slice A n c] w (RetSc w l) := by
 have hl := hr.len
 have Hr := ek hr; have Hl := ek hl; clear hr hl
 go_enter Tryz.func61, Tryz.ntmps61
 go_wp2
 go_loopw [5, 6] (fun o t wr => ScanRel w.heap.size n w l o t wr) (fun _ t _ => n - (intOf t).toNat)
 case atStart => exact ⟨some ⟨w.heap.size, 0,none⟩, 0, [], [], 0, rfl, rfl, Nat.zero_le _, Oc.made0 2 _ _, PsS.nil, rfl, rfl, ej _ _⟩
 case round =>
  obtain ⟨A3, c3, vs, done, a, rfl, rfl, ha, hown, hps, hst, hge, hbel⟩ := hrel
  have z3 := hbel.size
  have hlen : done.length ≤ n := by
   have h1 := Cv.ls_len l
   have h2 := congrArg List.length hst
   rw [List.length_append] at h2
   have := Hl.out
   omega
  rename World => wr
  by_cases hlt : a < n
  ·have hr3 := (Hr.out.below hbel).more z3
   have hpc := record_c A n c l a wr hr3 hn ha _ rfl
   have Hst := ek hst; have Hown := ek hown; have Hps := ek hps; have Hge := ek hge; clear hst hown hps hr3 hge
   rcases Cv.rs_step l a (by have := Hl.out; omega) with ⟨r, m, hrun, hm1, hm2, hrs, hm3, hfew⟩ | ⟨k, hrun, hrs, hk⟩
   ·rw [hrun] at hpc
    have hst2 : (done ++ [(a, r)]) ++ (Cv.rs m (l.drop m)).1 = Cv.ls l := by
     rw [← Hst.out, hrs]; simp [Cv.cons3]
    have hge2 : (Cv.rs m (l.drop m)).2 = (Cv.good l, Cv.er l) := by rw [← Hge.out, hrs]; rfl
    have hmn : m ≤ n := by rw [Hl.out] at hm2; exact hm2
    have hd : n - (l.drop m).length = m := by rw [List.length_drop, Hl.out]; omega
    have Hpc := ek hpc; have Hst2 := ek hst2; have Hge2 := ek hge2; have Hd := ek hd; clear hpc hst2 hge2 hrun hrs hm2 hm3 hfew hd
    go_wp2_with fail
    refine Hpc.out.mono ?_
    rintro e w4 ⟨D4, d4, rfl, ho4, hb4⟩
    rw [Hd.out]
    have z4 := hb4.size
    have hA := oc_lt Hown.out
    have hown4 := Hown.out.keep hb4
    have hv4 := rec_sf (base := w.heap.size) (A := A3) ho4 z3 hA
    obtain ⟨w5, h5⟩ : ∃ w5, w5 = w4.alloc (.cells #[.slice D4 r.length d4] 77) := ⟨_, rfl⟩
    obtain ⟨w6, h6⟩ : ∃ w6, w6 = w5.alloc (.cells #[.int .i64 (a : Int), .slice (some ⟨w4.heap.size, 0,none⟩) 1 1] 81) := ⟨_, rfl⟩
    obtain ⟨z6, b6, hlit, hpr⟩ := piece_lit2 w4 _ r a A3 w.heap.size _ _ (by omega) (oc_lt hown4) hv4 w5 w6 h5 h6
    have hown6 := hown4.keep b6
    have hps6 := ((Hps.out.keep (sf_below hb4)).keep (sf_below b6)).snoc hpr
    have bw6 := (hbel.trans (hb4.mono z3)).trans (b6.mono (by omega))
    have H5 := ek h5; have H6 := ek h6; have Hlit := ek hlit; have Hown6 := ek hown6; have Hps6 := ek hps6; have Z6 := ek z6; clear h5 h6 hlit hpr hown6 hps6 z6 b6 hv4 hown4 hA ho4
    go_wp2_with (at_builtin; rw [← H5.out, ← H6.out]; go_must (refine Sl.wpAppAt pty rfl (.tmp 27) (.tmp 32) rfl (n := done.length) (m := 1) (N := done.length + 1) (ws := vs ++ [.int .i64 (a : Int), .slice (some ⟨w4.heap.size, 0,none⟩) 1 1]) rfl rfl Hown6.out Hlit.out ?hs1 rfl rfl ?hs4 ?hs5 ?hs6 ?_))
    case hs1 => simp [Value.oneCell']
    case hs4 => omega
    case hs5 => omega
    case hs6 => have := Z6.out; omega
    intro A8 c8 w8 hown8 hg8
    have bw8 := bw6.trans (hg8.belowC Hown6.out (by have := Z6.out; omega))
    have hps8 := Hps6.out.keep (sf_grow hg8)
    have Hown8 := ek hown8; have Hps8 := ek hps8; clear hown8 hps8 hg8
    go_wp2
    go_roundw
    case rel => exact ⟨A8, c8, vs ++ [.int .i64 (a : Int), .slice (some ⟨w4.heap.size, 0,none⟩) 1 1], done ++ [(a, r)], m, by simp, by first | rfl | go_num, hmn, by rw [List.length_append]; exact Hown8.out, by rw [List.map_append]; exact Hps8.out, Hst2.out, Hge2.out, bw8⟩
    case measure => simp [intOf]; omega
   ·rw [hrun] at hpc
    have hdl : done = Cv.ls l := by rw [← Hst.out, hrs]; simp
    have hg : Cv.good l = a := by have h := Hge.out; rw [hrs] at h; injection h with h1 h2; exact h1.symm
    have he : Cv.er l = k := by have h := Hge.out; rw [hrs] at h; injection h with h1 h2; exact h2.symm
    have dk : ((k : Int) == 0) = false := by rw [beq_eq_false_iff_ne]; omega
    have dk2 : ((k : Int) != 0) = true := by simp [bne, dk]
    have Hpc := ek hpc; have Hdl := ek hdl; have Hg := ek hg; have He := ek he; clear hpc hdl hg he hrun hrs hk
    go_wp2_with fail
    refine Hpc.out.mono ?_
    rintro e w4 ⟨rfl, hb4⟩
    have hown4 := Hown.out.keep hb4
    have hps4 := Hps.out.keep (sf_below hb4)
    have hfin : PLS w4 (Fr w.heap.size w4) A3 done.length c3 (done.map Cv.pc) := ⟨vs, hown4.rcS, hps4.keep (stays_weak sf_fr)⟩
    have Hfin := ek hfin; have Hbel := ek (hbel.trans (hb4.mono z3)); clear hown4 hps4 hfin
    go_wp2
    go_ret3
    refine ⟨A3, c3, ?_, ?_, Hbel.out⟩
    ·rw [← Hdl.out, Hg.out, He.out]; rfl
    ·rw [← Hdl.out]; exact Hfin.out
  ·have e : a = n := by omega
   subst e
   rw [← Hl.out, List.drop_length, Cv.rs_nil] at hst hge
   have hd : done = Cv.ls l := by rw [← hst]; simp
   have hfin : PLS wr (Fr w.heap.size wr) A3 done.length c3 (done.map Cv.pc) := ⟨vs, hown.rcS, hps.keep (stays_weak sf_fr)⟩
   injection hge with hg1 hg2
   have Hd := ek hd; have Hfin := ek hfin; have Hg1 := ek hg1; have Hg2 := ek hg2; clear hst hown hps hd hfin hg1 hg2
   go_wp2
   go_ret3
   refine ⟨A3, c3, ?_, ?_, hbel⟩
   ·rw [← Hd.out, ← Hg1.out, ← Hg2.out, Hl.out]; rfl
   ·rw [← Hd.out]; exact Hfin.out
end Go.Proofs.YtkekmokdlgocaaaGreatDoor.Csv
