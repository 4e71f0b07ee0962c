/-
  The walk of the law SeqMarkers.
-/
import Derived.Test.YtddnlimkaagpdaaDoorUp
import Derived.Test.YtddnlimkaagpdaaDoorUm
import Derived.Test.YtddnlimkaagpdaaDoorFw
namespace Go.Proofs.YtddnlimkaagpdaaDoor
open Go.RowKit

theorem rl_cap {w : World} {B n c : Nat} {A : Option Addr} {l : List Sm.R} (h : RL w B A n c l) : n ≤ c ∧ n ≤ 9223372036854775807 := by
  obtain ⟨vs, h1, _⟩ := h
  have h2 := h1.2.1; have h3 := h1.2.2.1
  unfold maxLen at h3
  omega
def MkRel (w5 : World) (L : List (Nat × Nat)) (g : Nat) (at_ i : Value) (wr : World) : Prop :=
  ∃ k : Nat, i = .int .i64 (k : Int) ∧ k ≤ L.length ∧ at_ = .int .i64 (Sm.plc L g k : Int) ∧ Below w5.heap.size w5 wr

set_option maxRecDepth 100000 in
set_option maxHeartbeats 2000000 in
theorem seqMarkers_walk (A : Option Addr) (n c : Nat) (l : List (List (List UInt8))) (w : World) (hr : RL w w.heap.size A n c l) (hz : ∀ r ∈ l, ∀ q ∈ r, q.length ≤ 140737488355328) (hx : Mx w) :
    Calls Tryd.prog 8 #[.slice A n c] w fun e w' => e = .returned (.bool true) ∧ Below w.heap.size w w' := by
  have hl := hr.len
  obtain ⟨hnc, hnmax⟩ := rl_cap hr
  have hfew := fewR_c A n c w.heap.size l w hr hz _ rfl
  by_cases hf : wL l ≤ 3000 ∧ l.length ≤ 120
  · rw [decide_eq_true hf] at hfew
    have hn : n ≤ 120 := by omega
    have hwr := write_c A n c l w hr (by omega) hnc hx
    rcases Sm.wrS_cases l with ⟨hok, hs⟩ | ⟨hok, hs⟩
    · rw [hs] at hwr
      obtain ⟨L, hch, hps, hall, hLl, her⟩ := Sm.ps_wr l hok
      obtain ⟨X, hX⟩ : ∃ X, X = Sm.wr l := ⟨_, rfl⟩
      have hXl : X.length ≤ 490000 := by rw [hX]; exact Sm.wr_len l hok (by omega)
      have hhd : X.take 4 = Sm.hd := by rw [hX]; exact Sm.wr_take l
      rw [← hX] at hwr hch hps her
      have hq1 : (((n : Int) + 2).tdiv 3) = ((L.length : Nat) : Int) := by rw [Int.tdiv_eq_ediv_of_nonneg (by omega), hLl, hl]; omega
      have hLb : L.length ≤ 41 := by omega
      have hLn : L.length = (n + 2) / 3 := by rw [hLl, hl]
      have hplen : (Sm.pcs X L).length = L.length := by simp [Sm.pcs]
      have Hx := Lib.hid hx; have Hfew := Lib.hid hfew; have Hwr := Lib.hid hwr; have HCH := Lib.hid hch; have HPS := Lib.hid hps; have HER := Lib.hid her; have HHD := Lib.hid hhd; have HPL := Lib.hid hplen; have HQ := Lib.hid hq1; have HLn := Lib.hid hLn
      clear hx hfew hwr hch hps her hX hall hhd hs hok hz hr hl hplen hq1 hLl hLn
      go_enter Tryd.func8, Tryd.ntmps8
      go_wp2_with fail
      refine Hfew.out.mono ?_
      rintro e w1 ⟨rfl, rfl⟩
      go_wp2_with fail
      refine Hwr.out.mono ?_
      rintro e w2 ⟨A2, c2, rfl, hw2, hb2⟩
      have z2 := hb2.size
      have hsc := scan_c A2 X.length c2 X w2 hw2.1 (by omega) (Hx.out.below' hb2)
      have Hsc := Lib.hid hsc; have Hr2 := Lib.hid hw2.1; clear hsc hw2
      go_wp2_with fail
      refine Hsc.out.mono ?_
      rintro e w3 ⟨A3, c3, rfl, hpl, hb3⟩
      have z3 := hb3.size
      rw [HPS.out, HER.out]
      rw [HPS.out] at hpl
      dsimp only at hpl ⊢
      rw [HPL.out] at hpl ⊢
      have HP3 := Lib.hid (PLS.keep hpl (stays_weak fr_lt)); clear hpl
      have b03 := hb2.trans (hb3.mono z2)
      have hm0 := marker_c A2 X.length c2 X 0 w3 ((Hr2.out.below hb3).more z3) (by omega) (Hx.out.below' b03) (Sm.plc L X.length 0) (by rw [show clamp 0 X.length = 0 from clamp_at 0 _ (Nat.zero_le _)]; exact (Sm.ch_start HHD.out HCH.out rfl).symm)
      have Hm0 := Lib.hid hm0; clear hm0
      go_wp2_with fail
      refine Hm0.out.mono ?_
      rintro e w4 ⟨rfl, hb4⟩
      have z4 := hb4.size
      go_wp2
      go_loopw [8, 9] (fun a i wr => MkRel w3 L X.length a i wr) (fun _ i _ => L.length - (intOf i).toNat)
      case atStart => exact ⟨0, rfl, Nat.zero_le _, rfl, hb4⟩
      case round =>
        obtain ⟨k, rfl, hk, rfl, hb5⟩ := hrel
        have z5 := hb5.size
        by_cases hlt : k < L.length
        · obtain ⟨b, off, p, D, m, d, rfl, hbS, hca, hcb, hp0, _⟩ := (PLS.keep HP3.out (stays_below hb5 (Nat.le_refl _))).at_ hlt
          obtain ⟨q, hq⟩ : ∃ q, L[k]? = some q := ⟨_, List.getElem?_eq_getElem hlt⟩
          have hpq : p.1 = q.1 := by
            have : (Sm.pcs X L)[k]? = some (q.1, (Sm.val X q).getD []) := by simp [Sm.pcs, hq]
            rw [this] at hp0
            injection hp0 with hp0
            rw [← hp0]
          obtain ⟨a, ha⟩ : ∃ a, a = Sm.plc L X.length k := ⟨_, rfl⟩
          have hpa : p.1 = a := by rw [hpq, ha, Sm.plc_some hq]
          have haX : a < X.length := by
            have := (Sm.ch_places HCH.out).1 q (List.mem_of_getElem? hq)
            rw [← hpa, hpq]; omega
          have b05 := b03.trans (hb5.mono (by omega))
          have hmk := marker_c A2 X.length c2 X ((a : Int) + 1) _ ((Hr2.out.below (hb3.trans (hb5.mono z3))).more (by omega)) (by omega) (Hx.out.below' b05) (Sm.plc L X.length (k + 1)) (by
            rw [show clamp ((a : Int) + 1) X.length = a + 1 from clamp_at (a + 1) _ (by omega), ← Sm.ch_next HCH.out hq, ← hpq, hpa])
          rw [hpa] at hca
          have Hmk := Lib.hid hmk; have Hca := Lib.hid hca; clear hmk hca hcb hp0 hq hpq hpa
          rw [← ha]
          clear ha
          have hca := Hca.out
          go_wp2_with fail
          refine Hmk.out.mono ?_
          rintro e w6 ⟨rfl, hb6⟩
          go_wp2
          go_roundw
          case rel => exact ⟨k + 1, by go_num, by omega, rfl, hb5.trans (hb6.mono z5)⟩
          case measure => simp [intOf]; omega
        · have hkL : k = L.length := by omega
          subst hkL
          have hend := Sm.plc_end (g := X.length) (Nat.le_refl L.length)
          rw [hend]
          have b05 := b03.trans (hb5.mono (by omega))
          have hal := alive_c _ (Hx.out.below' b05)
          have Hal := Lib.hid hal; clear hal hend
          go_wp2_with fail
          refine Hal.out.mono ?_
          rintro e w6 ⟨rfl, hb6⟩
          have bz := b05.trans (hb6.mono (by omega))
          have hq1 := HQ.out
          go_wp2
          go_ret
          exact ⟨rfl, bz⟩
    · rw [hs] at hwr
      have Hx := Lib.hid hx; have Hfew := Lib.hid hfew; have Hwr := Lib.hid hwr
      clear hx hfew hwr hs hok hz hr hl
      go_enter Tryd.func8, Tryd.ntmps8
      go_wp2_with fail
      refine Hfew.out.mono ?_
      rintro e w1 ⟨rfl, rfl⟩
      go_wp2_with fail
      refine Hwr.out.mono ?_
      rintro e w2 ⟨A2, c2, rfl, hw2, hb2⟩
      have z2 := hb2.size
      go_wp2_with fail
      refine (alive_c _ (Hx.out.below' hb2)).mono ?_
      rintro e w3 ⟨rfl, hb3⟩
      have bz := hb2.trans (hb3.mono z2)
      go_wp2
      go_ret
      exact ⟨rfl, bz⟩
  · rw [decide_eq_false hf] at hfew
    have Hx := Lib.hid hx; have Hfew := Lib.hid hfew
    clear hx hfew hz hr hl
    go_enter Tryd.func8, Tryd.ntmps8
    go_wp2_with fail
    refine Hfew.out.mono ?_
    rintro e w1 ⟨rfl, rfl⟩
    go_wp2_with fail
    refine (alive_c _ Hx.out).mono ?_
    rintro e w3 ⟨rfl, hb3⟩
    go_wp2
    go_ret
    exact ⟨rfl, hb3⟩
end Go.Proofs.YtddnlimkaagpdaaDoor
