/-
  Joined: K9.
-/
import Derived.Test.YtknmhdkomjjneaaGreatDoorJ25
import Derived.Lib.BytesEntry
/-
  The document's Scan, All, Of, Read: what each call returns and leaves.
-/
namespace Go.Proofs.YtknmhdkomjjneaaGreatDoor.Csv
open Go.RowKit
set_option maxHeartbeats 2000000 in
set_option maxRecDepth 100000 in
/-- the document's Scan -/
theorem scanD_c (A : Option Addr) (n c : Nat) (l : List UInt8) (w : World) (hr : Rb w w.heap.size A n c l) (hn : n ≤ 1000000) :
    Calls Tryz.prog 32 #[.slice A n c] w (RetSc w l) := by
  have hl := hr.len
  have Hr := Lib.hid hr; have Hl := Lib.hid hl; clear hr hl
  go_enter Tryz.func32, Tryz.ntmps32
  go_wp2
  go_loopw [5, 6] (fun o t wr => ScanRel w.heap.size n w l o t wr) (fun _ t _ => n - (intOf t).toNat)
  case atStart => exact ⟨some ⟨w.heap.size, 0, none⟩, 0, [], [], 0, rfl, rfl, Nat.zero_le _, Oc.made0 2 _ _, PsS.nil, rfl, rfl, (Below.refl _ _).alloc (Nat.le_refl _) _⟩
  case round =>
    obtain ⟨A3, c3, vs, done, a, rfl, rfl, ha, hown, hps, hst, hge, hbel⟩ := hrel
    have z3 := hbel.size
    have hlen : done.length ≤ n := by
      have h1 := Cv.ls_len l
      have h2 := congrArg List.length hst
      rw [List.length_append] at h2
      have := Hl.out
      omega
    rename World => wr
    by_cases hlt : a < n
    · have hr3 := (Hr.out.below hbel).more z3
      have hpc := record_c A n c l a wr hr3 hn ha _ rfl
      have Hst := Lib.hid hst; have Hown := Lib.hid hown; have Hps := Lib.hid hps; have Hge := Lib.hid hge; clear hst hown hps hr3 hge
      rcases Cv.rs_step l a (by have := Hl.out; omega) with ⟨r, m, hrun, hm1, hm2, hrs, hm3, hfew⟩ | ⟨k, hrun, hrs, hk⟩
      · rw [hrun] at hpc
        have hst2 : (done ++ [(a, r)]) ++ (Cv.rs m (l.drop m)).1 = Cv.ls l := by
          rw [← Hst.out, hrs]; simp [Cv.cons3]
        have hge2 : (Cv.rs m (l.drop m)).2 = (Cv.good l, Cv.er l) := by rw [← Hge.out, hrs]; rfl
        have hmn : m ≤ n := by rw [Hl.out] at hm2; exact hm2
        have hd : n - (l.drop m).length = m := by rw [List.length_drop, Hl.out]; omega
        have Hpc := Lib.hid hpc; have Hst2 := Lib.hid hst2; have Hge2 := Lib.hid hge2; have Hd := Lib.hid hd; clear hpc hst2 hge2 hrun hrs hm2 hm3 hfew hd
        go_wp2_with fail
        refine Hpc.out.mono ?_
        rintro e w4 ⟨D4, d4, rfl, ho4, hb4⟩
        rw [Hd.out]
        have z4 := hb4.size
        have hA := oc_lt Hown.out
        have hown4 := Hown.out.keep hb4
        have hv4 := rec_sf (base := w.heap.size) (A := A3) ho4 z3 hA
        obtain ⟨w5, h5⟩ : ∃ w5, w5 = w4.alloc (.cells #[.slice D4 r.length d4] 78) := ⟨_, rfl⟩
        obtain ⟨w6, h6⟩ : ∃ w6, w6 = w5.alloc (.cells #[.int .i64 (a : Int), .slice (some ⟨w4.heap.size, 0, none⟩) 1 1] 63) := ⟨_, rfl⟩
        obtain ⟨z6, b6, hlit, hpr⟩ := piece_lit2 w4 _ r a A3 w.heap.size _ _ (by omega) (oc_lt hown4) hv4 w5 w6 h5 h6
        have hown6 := hown4.keep b6
        have hps6 := ((Hps.out.keep (sf_below hb4)).keep (sf_below b6)).snoc hpr
        have bw6 := (hbel.trans (hb4.mono z3)).trans (b6.mono (by omega))
        have H5 := Lib.hid h5; have H6 := Lib.hid h6; have Hlit := Lib.hid hlit; have Hown6 := Lib.hid hown6; have Hps6 := Lib.hid hps6; have Z6 := Lib.hid z6; clear h5 h6 hlit hpr hown6 hps6 z6 b6 hv4 hown4 hA ho4
        go_wp2_with (at_builtin; rw [← H5.out, ← H6.out]; go_must (refine Sl.wpAppAt pty rfl (.tmp 27) (.tmp 32) rfl (n := done.length) (m := 1) (N := done.length + 1) (ws := vs ++ [.int .i64 (a : Int), .slice (some ⟨w4.heap.size, 0, none⟩) 1 1]) rfl rfl Hown6.out Hlit.out ?hs1 rfl rfl ?hs4 ?hs5 ?hs6 ?_))
        case hs1 => simp [Value.oneCell']
        case hs4 => omega
        case hs5 => omega
        case hs6 => have := Z6.out; omega
        intro A8 c8 w8 hown8 hg8
        have bw8 := bw6.trans (hg8.belowC Hown6.out (by have := Z6.out; omega))
        have hps8 := Hps6.out.keep (sf_grow hg8)
        have Hown8 := Lib.hid hown8; have Hps8 := Lib.hid hps8; clear hown8 hps8 hg8
        go_wp2
        go_roundw
        case rel => exact ⟨A8, c8, vs ++ [.int .i64 (a : Int), .slice (some ⟨w4.heap.size, 0, none⟩) 1 1], done ++ [(a, r)], m, by simp, by first | rfl | go_num, hmn, by rw [List.length_append]; exact Hown8.out, by rw [List.map_append]; exact Hps8.out, Hst2.out, Hge2.out, bw8⟩
        case measure => simp [intOf]; omega
      · rw [hrun] at hpc
        have hdl : done = Cv.ls l := by rw [← Hst.out, hrs]; simp
        have hg : Cv.good l = a := by have h := Hge.out; rw [hrs] at h; injection h with h1 h2; exact h1.symm
        have he : Cv.er l = k := by have h := Hge.out; rw [hrs] at h; injection h with h1 h2; exact h2.symm
        have dk : ((k : Int) == 0) = false := by rw [beq_eq_false_iff_ne]; omega
        have dk2 : ((k : Int) != 0) = true := by simp [bne, dk]
        have Hpc := Lib.hid hpc; have Hdl := Lib.hid hdl; have Hg := Lib.hid hg; have He := Lib.hid he; clear hpc hdl hg he hrun hrs hk
        go_wp2_with fail
        refine Hpc.out.mono ?_
        rintro e w4 ⟨rfl, hb4⟩
        have hown4 := Hown.out.keep hb4
        have hps4 := Hps.out.keep (sf_below hb4)
        have hfin : PLS w4 (Fr w.heap.size w4) A3 done.length c3 (done.map Cv.pc) := ⟨vs, hown4.rcS, hps4.keep (stays_weak sf_fr)⟩
        have Hfin := Lib.hid hfin; have Hbel := Lib.hid (hbel.trans (hb4.mono z3)); clear hown4 hps4 hfin
        go_wp2
        go_ret3
        refine ⟨A3, c3, ?_, ?_, Hbel.out⟩
        · rw [← Hdl.out, Hg.out, He.out]; rfl
        · rw [← Hdl.out]; exact Hfin.out
    · have e : a = n := by omega
      subst e
      rw [← Hl.out, List.drop_length, Cv.rs_nil] at hst hge
      have hd : done = Cv.ls l := by rw [← hst]; simp
      have hfin : PLS wr (Fr w.heap.size wr) A3 done.length c3 (done.map Cv.pc) := ⟨vs, hown.rcS, hps.keep (stays_weak sf_fr)⟩
      injection hge with hg1 hg2
      have Hd := Lib.hid hd; have Hfin := Lib.hid hfin; have Hg1 := Lib.hid hg1; have Hg2 := Lib.hid hg2; clear hst hown hps hd hfin hg1 hg2
      go_wp2
      go_ret3
      refine ⟨A3, c3, ?_, ?_, hbel⟩
      · rw [← Hd.out, ← Hg1.out, ← Hg2.out, Hl.out]; rfl
      · rw [← Hd.out]; exact Hfin.out


end Go.Proofs.YtknmhdkomjjneaaGreatDoor.Csv
