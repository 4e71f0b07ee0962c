/-
  The document's Scan, All, Of, Read: what each call returns and leaves.
-/
import Derived.Test.YtpjnkbfjnonkhaaDoorK8
namespace Go.Proofs.YtpjnkbfjnonkhaaDoor
open Go.RowKit

theorem PLS.pl {w : World} {base : Nat} {A : Option Addr} {n c : Nat} {l : List (Nat × List (List (List UInt8)))} (h : PLS w (Fr base w) A n c l) : PL w w.heap.size A n c l := h.keep (stays_weak fr_lt)
theorem RLS.rl' {w : World} {base : Nat} {A : Option Addr} {n c : Nat} {l : List (List (List UInt8))} (h : RLS w (Fr base w) A n c l) : RL w w.heap.size A n c l := RLS.keep h (stays_weak fr_lt)

theorem rrs_one {w : World} {S : Nat → Prop} {vs : List Value} {l : List (List (List UInt8))} (h : RrsS w S vs l) : ∀ v ∈ vs, v.oneCell' = true := fun v hv => by
  obtain ⟨j, hj, rfl⟩ := List.getElem_of_mem hv
  obtain ⟨A, n, c, e, _⟩ := h.2 j _ (l[j]'(by rw [← h.1]; exact hj)) (List.getElem?_eq_getElem hj) (List.getElem?_eq_getElem (by rw [← h.1]; exact hj))
  rw [e]; rfl
def RetA (w : World) (L : List (List (List UInt8))) (e : Ending) (w' : World) : Prop :=
  ∃ A c, e = .returned (.slice A L.length c) ∧ RL w' w'.heap.size A L.length c L ∧ Below w.heap.size w w'
def AllRel (base n : Nat) (w : World) (L : Nat → List (List (List UInt8))) (o i : Value) (wr : World) : Prop :=
  ∃ A c vs, ∃ k : Nat, o = .slice A (L k).length c ∧ i = .int .i64 (k : Int) ∧ k ≤ n ∧ Oc 1 wr 34 base A (L k).length c vs ∧ RrsS wr (· < base) vs (L k) ∧ Below base w wr

set_option maxHeartbeats 2000000 in
set_option maxRecDepth 100000 in
/-- the document's All -/
theorem rall_c (A : Option Addr) (n c : Nat) (ps : List (Nat × List (List (List UInt8)))) (w : World) (hr : PL w w.heap.size A n c ps) (hn : n ≤ 1000000) (hz : (Tm.all ps).length ≤ 1000000) :
    Calls Tryd.prog 21 #[.slice A n c] w (RetA w (Tm.all ps)) := by
  have hl := hr.len
  have Hr := Lib.hid hr; have Hl := Lib.hid hl; clear hr hl
  go_enter Tryd.func21, Tryd.ntmps21
  go_wp2
  go_loopw [3, 4] (fun o i wr => AllRel w.heap.size n w (fun k => Tm.all (ps.take k)) o i wr) (fun _ i _ => n - (intOf i).toNat)
  case atStart => exact ⟨some ⟨w.heap.size, 0, none⟩, 0, [], 0, rfl, rfl, Nat.zero_le _, Oc.made0 1 _ _, RrsS.nil, (Below.refl _ _).alloc (Nat.le_refl _) _⟩
  case round =>
    obtain ⟨A3, c3, vs, k, rfl, rfl, hk, hown, hps, hbel⟩ := hrel
    dsimp only at hown hps ⊢
    have z3 := hbel.size
    rename World => wr
    have hlen : (Tm.all (ps.take k)).length ≤ 1000000 := Nat.le_trans (Tm.all_take ps k) hz
    by_cases hlt : k < n
    · obtain ⟨b, off, p, D, m, d, rfl, hb, hc1, hc2, hp, us, hu1, hu2⟩ := (Hr.out.below hbel).at_ hlt
      have hm : p.2.length = m := RLS.len ⟨us, hu1, hu2⟩
      have hsn := Tm.all_snoc ps k p hp
      have hlen2 : (Tm.all (ps.take k)).length + m ≤ 1000000 := by
        have := Tm.all_take ps (k + 1)
        rw [hsn, List.length_append, hm] at this
        omega
      obtain ⟨L, hL⟩ : ∃ L, L = Tm.all (ps.take k) := ⟨_, rfl⟩
      rw [← hL] at hown hps hsn hlen hlen2 ⊢
      have hps2 := hps.append hu2
      have h1 := rrs_one hu2
      have Hs := Lib.hid hsn; have Hm := Lib.hid hm; have Hown := Lib.hid hown; have Hps2 := Lib.hid hps2; have H1 := Lib.hid h1; have Hu := Lib.hid hu1.rc; clear hsn hm hown hps hps2 h1 hu1 hu2 hp hL
      go_wp2_with (at_builtin; go_must (refine Sl.wpAppAt rty rfl (.tmp 12) (.tmp 17) rfl (n := L.length) (m := m) (N := L.length + m) (ws := vs ++ us) rfl rfl Hown.out Hu.out H1.out rfl rfl ?hs4 ?hs5 ?hs6 ?_))
      case hs4 => omega
      case hs5 => omega
      case hs6 => omega
      intro A8 c8 w8 hown8 hg8
      have b8 := hg8.belowC Hown.out z3
      have bw8 := hbel.trans b8
      have hps8 := Hps2.out.keep (stays_below b8 (Nat.le_refl _))
      have Hown8 := Lib.hid hown8; have Hps8 := Lib.hid hps8; clear hown8 hps8 hg8
      go_wp2
      go_roundw
      case rel => exact ⟨A8, c8, vs ++ us, k + 1, by dsimp only; rw [Hs.out, List.length_append, Hm.out], by go_num, hlt, by dsimp only; rw [Hs.out, List.length_append, Hm.out]; exact Hown8.out, by dsimp only; rw [Hs.out]; exact Hps8.out, bw8⟩
      case measure => simp [intOf]; omega
    · have e : ps.take k = ps := List.take_of_length_le (by have := Hl.out; omega)
      rw [e] at hown hps ⊢
      have hfin : RL wr wr.heap.size A3 (Tm.all ps).length c3 (Tm.all ps) := ⟨vs, hown.rc, hps.keep (stays_below (Below.refl _ _) z3)⟩
      have Hfin := Lib.hid hfin; clear hown hps hfin e hlen
      go_wp2
      go_ret
      exact ⟨A3, c3, rfl, Hfin.out, hbel⟩

set_option maxHeartbeats 2000000 in
set_option maxRecDepth 100000 in
/-- the document's Scan -/
theorem scanD_c (A : Option Addr) (n c : Nat) (l : List UInt8) (w : World) (hr : Rb w w.heap.size A n c l) (hn : n ≤ 1000000) :
    Calls Tryd.prog 9 #[.slice A n c] w (RetSc w l) := by
  have hl := hr.len
  have Hr := Lib.hid hr; have Hl := Lib.hid hl; clear hr hl
  go_enter Tryd.func9, Tryd.ntmps9
  go_wp2
  go_loopw [5, 6] (fun o t wr => ScanRel w.heap.size n w l o t wr) (fun _ t _ => n - (intOf t).toNat)
  case atStart => exact ⟨some ⟨w.heap.size, 0, none⟩, 0, [], [], 0, rfl, rfl, Nat.zero_le _, Oc.made0 2 _ _, PsS.nil, rfl, rfl, (Below.refl _ _).alloc (Nat.le_refl _) _⟩
  case round =>
    obtain ⟨A3, c3, vs, done, a, rfl, rfl, ha, hown, hps, hst, hge, hbel⟩ := hrel
    have z3 := hbel.size
    have hlen : done.length ≤ n := by
      have h1 := Cv.ls_len l
      have h2 := congrArg List.length hst
      rw [List.length_append] at h2
      have := Hl.out
      omega
    rename World => wr
    by_cases hlt : a < n
    · have hr3 := (Hr.out.below hbel).more z3
      have hpc := record_c A n c l a wr hr3 hn ha _ rfl
      have Hst := Lib.hid hst; have Hown := Lib.hid hown; have Hps := Lib.hid hps; have Hge := Lib.hid hge; clear hst hown hps hr3 hge
      rcases Cv.rs_step l a (by have := Hl.out; omega) with ⟨r, m, hrun, hm1, hm2, hrs, hm3, hfew⟩ | ⟨k, hrun, hrs, hk⟩
      · rw [hrun] at hpc
        have hst2 : (done ++ [(a, r)]) ++ (Cv.rs m (l.drop m)).1 = Cv.ls l := by
          rw [← Hst.out, hrs]; simp [Cv.cons3]
        have hge2 : (Cv.rs m (l.drop m)).2 = (Cv.good l, Cv.er l) := by rw [← Hge.out, hrs]; rfl
        have hmn : m ≤ n := by rw [Hl.out] at hm2; exact hm2
        have hd : n - (l.drop m).length = m := by rw [List.length_drop, Hl.out]; omega
        have Hpc := Lib.hid hpc; have Hst2 := Lib.hid hst2; have Hge2 := Lib.hid hge2; have Hd := Lib.hid hd; clear hpc hst2 hge2 hrun hrs hm2 hm3 hfew hd
        go_wp2_with fail
        refine Hpc.out.mono ?_
        rintro e w4 ⟨D4, d4, rfl, ho4, hb4⟩
        rw [Hd.out]
        have z4 := hb4.size
        have hA := oc_lt Hown.out
        have hown4 := Hown.out.keep hb4
        have hv4 := rec_sf (base := w.heap.size) (A := A3) ho4 z3 hA
        obtain ⟨w5, h5⟩ : ∃ w5, w5 = w4.alloc (.cells #[.slice D4 r.length d4] 34) := ⟨_, rfl⟩
        obtain ⟨w6, h6⟩ : ∃ w6, w6 = w5.alloc (.cells #[.int .i64 (a : Int), .slice (some ⟨w4.heap.size, 0, none⟩) 1 1] 43) := ⟨_, rfl⟩
        obtain ⟨z6, b6, hlit, hpr⟩ := piece_lit2 w4 _ r a A3 w.heap.size _ _ (by omega) (oc_lt hown4) hv4 w5 w6 h5 h6
        have hown6 := hown4.keep b6
        have hps6 := ((Hps.out.keep (sf_below hb4)).keep (sf_below b6)).snoc hpr
        have bw6 := (hbel.trans (hb4.mono z3)).trans (b6.mono (by omega))
        have H5 := Lib.hid h5; have H6 := Lib.hid h6; have Hlit := Lib.hid hlit; have Hown6 := Lib.hid hown6; have Hps6 := Lib.hid hps6; have Z6 := Lib.hid z6; clear h5 h6 hlit hpr hown6 hps6 z6 b6 hv4 hown4 hA ho4
        go_wp2_with (at_builtin; rw [← H5.out, ← H6.out]; go_must (refine Sl.wpAppAt pty rfl (.tmp 27) (.tmp 32) rfl (n := done.length) (m := 1) (N := done.length + 1) (ws := vs ++ [.int .i64 (a : Int), .slice (some ⟨w4.heap.size, 0, none⟩) 1 1]) rfl rfl Hown6.out Hlit.out ?hs1 rfl rfl ?hs4 ?hs5 ?hs6 ?_))
        case hs1 => simp [Value.oneCell']
        case hs4 => omega
        case hs5 => omega
        case hs6 => have := Z6.out; omega
        intro A8 c8 w8 hown8 hg8
        have bw8 := bw6.trans (hg8.belowC Hown6.out (by have := Z6.out; omega))
        have hps8 := Hps6.out.keep (sf_grow hg8)
        have Hown8 := Lib.hid hown8; have Hps8 := Lib.hid hps8; clear hown8 hps8 hg8
        go_wp2
        go_roundw
        case rel => exact ⟨A8, c8, vs ++ [.int .i64 (a : Int), .slice (some ⟨w4.heap.size, 0, none⟩) 1 1], done ++ [(a, r)], m, by simp, by first | rfl | go_num, hmn, by rw [List.length_append]; exact Hown8.out, by rw [List.map_append]; exact Hps8.out, Hst2.out, Hge2.out, bw8⟩
        case measure => simp [intOf]; omega
      · rw [hrun] at hpc
        have hdl : done = Cv.ls l := by rw [← Hst.out, hrs]; simp
        have hg : Cv.good l = a := by have h := Hge.out; rw [hrs] at h; injection h with h1 h2; exact h1.symm
        have he : Cv.er l = k := by have h := Hge.out; rw [hrs] at h; injection h with h1 h2; exact h2.symm
        have dk : ((k : Int) == 0) = false := by rw [beq_eq_false_iff_ne]; omega
        have dk2 : ((k : Int) != 0) = true := by simp [bne, dk]
        have Hpc := Lib.hid hpc; have Hdl := Lib.hid hdl; have Hg := Lib.hid hg; have He := Lib.hid he; clear hpc hdl hg he hrun hrs hk
        go_wp2_with fail
        refine Hpc.out.mono ?_
        rintro e w4 ⟨rfl, hb4⟩
        have hown4 := Hown.out.keep hb4
        have hps4 := Hps.out.keep (sf_below hb4)
        have hfin : PLS w4 (Fr w.heap.size w4) A3 done.length c3 (done.map Cv.pc) := ⟨vs, hown4.rcS, hps4.keep (stays_weak sf_fr)⟩
        have Hfin := Lib.hid hfin; have Hbel := Lib.hid (hbel.trans (hb4.mono z3)); clear hown4 hps4 hfin
        go_wp2
        go_ret3
        refine ⟨A3, c3, ?_, ?_, Hbel.out⟩
        · rw [← Hdl.out, Hg.out, He.out]; rfl
        · rw [← Hdl.out]; exact Hfin.out
    · have e : a = n := by omega
      subst e
      rw [← Hl.out, List.drop_length, Cv.rs_nil] at hst hge
      have hd : done = Cv.ls l := by rw [← hst]; simp
      have hfin : PLS wr (Fr w.heap.size wr) A3 done.length c3 (done.map Cv.pc) := ⟨vs, hown.rcS, hps.keep (stays_weak sf_fr)⟩
      injection hge with hg1 hg2
      have Hd := Lib.hid hd; have Hfin := Lib.hid hfin; have Hg1 := Lib.hid hg1; have Hg2 := Lib.hid hg2; clear hst hown hps hd hfin hg1 hg2
      go_wp2
      go_ret3
      refine ⟨A3, c3, ?_, ?_, hbel⟩
      · rw [← Hd.out, ← Hg1.out, ← Hg2.out, Hl.out]; rfl
      · rw [← Hd.out]; exact Hfin.out
end Go.Proofs.YtpjnkbfjnonkhaaDoor
