/-
  The document's Read (threshingref07): what the call returns and leaves.
-/
import Derived.Test.YtddnlimkaagpdaaDoorZc
import Derived.Test.YtddnlimkaagpdaaDoorUs
import Derived.Test.YtddnlimkaagpdaaDoorUf
import Derived.Test.YtddnlimkaagpdaaDoorUe
import Derived.Test.YtddnlimkaagpdaaDoorVa
import Derived.Test.YtddnlimkaagpdaaDoorUr
namespace Go.Proofs.YtddnlimkaagpdaaDoor
open Go.RowKit

theorem ps_end {b : List UInt8} {L : List (Nat × Nat)} (h : b.take 4 = Sm.hd) (hch : Sm.Ch b 4 b.length L) : Sm.ps b = (Sm.pcs b L, b.length) ∧ Sm.er b = 0 := by
  have e : Sm.ps b = (Sm.pcs b L, b.length) := by rw [Sm.ps_head h, Sm.ch_sg hch]; exact Sm.run_all b L (Sm.ch_some hch)
  exact ⟨e, if_pos ⟨h, by rw [e]⟩⟩
theorem ps_bad {b : List UInt8} {L : List (Nat × Nat)} {f : Nat} (h : b.take 4 = Sm.hd) (hch : Sm.Ch b 4 f L) (hf : f < b.length) (hv : Sm.val b (f, Sm.nxt b (f + 1)) = none) : Sm.ps b = (Sm.pcs b L, f) ∧ Sm.er b = 3 := by
  have e : Sm.ps b = (Sm.pcs b L, f) := by
    rw [Sm.ps_head h, Sm.ch_run hch hf, Sm.sg_step hf]
    exact Sm.run_stop b L _ (f, Sm.nxt b (f + 1)) (Sm.ch_some hch) hv
  refine ⟨e, if_neg fun h2 => ?_⟩
  have := h2.2
  rw [e] at this
  dsimp only at this
  omega
theorem ch_snoc {b : List UInt8} : ∀ {L : List (Nat × Nat)} {a f : Nat}, Sm.Ch b a f L → f < b.length → (Sm.val b (f, Sm.nxt b (f + 1))).isSome = true → Sm.Ch b a (Sm.nxt b (f + 1)) (L ++ [(f, Sm.nxt b (f + 1))])
  | [], a, f, h, hf, hv => by
    have e : a = f := h
    subst e
    exact ⟨rfl, rfl, hv, hf, rfl⟩
  | p :: L, a, f, h, hf, hv => by
    obtain ⟨h1, h2, h3, h4, h5⟩ := h
    exact ⟨h1, h2, h3, h4, ch_snoc h5 hf hv⟩
theorem ch_num {b : List UInt8} : ∀ {L : List (Nat × Nat)} {f g : Nat}, Sm.Ch b f g L → f + L.length ≤ g
  | [], f, g, h => by have e : f = g := h; subst e; simp
  | p :: L, f, g, h => by
    obtain ⟨rfl, h2, h3, h4, h5⟩ := h
    have hg := Sm.nxt_gt b p.1
    have ih := ch_num h5
    rw [List.length_cons]
    omega

def RsRel (base : Nat) (w : World) (l : List UInt8) (o a : Value) (wr : World) : Prop :=
  ∃ A c vs P L f, o = .slice A (List.length P) c ∧ a = .int .i64 ((f : Nat) : Int) ∧ P = Sm.pcs l L ∧ Sm.Ch l 4 f L ∧ f ≤ l.length ∧ Oc 2 wr 47 base A (List.length P) c vs ∧ PsS wr (Sf base wr A) vs P ∧ Below base w wr

set_option maxHeartbeats 4000000 in
set_option maxRecDepth 100000 in
/-- the document's Scan -/
theorem rscan_c (A : Option Addr) (n c : Nat) (l : List UInt8) (w : World) (hr : Rb w w.heap.size A n c l) (hn : n ≤ 900000) :
    Calls Tryd.prog 10 #[.slice A n c] w (RetSc w l) := by
  have hl := hr.len
  by_cases hn4 : n < 4
  · have hhd : l.take 4 ≠ Sm.hd := fun h => by have := Sm.head_len h; omega
    have hps := Sm.ps_not hhd
    have her := Sm.er_not hhd
    have HPS := Lib.hid hps; have HER := Lib.hid her
    have d4 : (n : Int) < 4 := by omega
    clear hps her hhd hr hl
    go_enter Tryd.func10, Tryd.ntmps10
    go_wp2
    go_ret3
    refine ⟨some ⟨w.heap.size, 0, none⟩, 0, ?_, ?_, (Below.refl _ _).alloc (Nat.le_refl _) _⟩
    · rw [HPS.out, HER.out]; rfl
    · rw [HPS.out]
      exact ⟨[], ⟨rfl, Nat.le_refl _, by simp [maxLen], fun h => absurd h (by simp)⟩, PsS.nil⟩
  · obtain ⟨w1, hw1⟩ : ∃ w1, w1 = w.alloc (.cells #[] 47) := ⟨_, rfl⟩
    have b1 : Below w.heap.size w w1 := by rw [hw1]; exact (Below.refl _ _).alloc (Nat.le_refl _) _
    have z1 : w1.heap.size = w.heap.size + 1 := by rw [hw1]; simp
    have ho1 : Oc 2 w1 47 w.heap.size (some ⟨w.heap.size, 0, none⟩) 0 0 [] := by rw [hw1]; exact Oc.made0 2 w 47
    have d4 : ¬ (n : Int) < 4 := by omega
    obtain ⟨D, hD, hrD⟩ := bty.upto_ (hr.below b1) (k := 4) (by omega) 4 rfl
    have hcv := bty.conv hrD
    by_cases hhd : l.take 4 = Sm.hd
    · rw [hhd] at hcv
      have hcv2 : (convert 22 9 (.slice D 4 c)).run Tryd.prog w1 = .ok (.string ⟨#[84, 83, 81, 49]⟩) w1 := hcv
      rw [hw1] at hcv2
      have Hr := Lib.hid hr; have Hl := Lib.hid hl; have Hhd := Lib.hid hhd; have Ho1 := Lib.hid ho1; have W1 := Lib.hid hw1
      clear hr hl hhd ho1 hcv hrD hw1
      go_enter Tryd.func10, Tryd.ntmps10
      go_wp2
      rw [← W1.out]
      go_loopw [5, 6] (fun o a wr => RsRel w.heap.size w l o a wr) (fun _ a _ => n - (intOf a).toNat)
      case atStart => exact ⟨some ⟨w.heap.size, 0, none⟩, 0, [], [], [], 4, rfl, rfl, rfl, rfl, by have := Hl.out; omega, Ho1.out, PsS.nil, b1⟩
      case round =>
        obtain ⟨A3, c3, vs, P, L, f, rfl, rfl, hP, hch, hfl, hown, hps, hbel⟩ := hrel
        rename World => wr
        have z3 := hbel.size
        have hnl := Hl.out
        have hLl := ch_num hch
        have hPl : P.length ≤ 900000 := by rw [hP]; simp [Sm.pcs]; omega
        clear hD hcv2
        by_cases hlt : f < n
        · obtain ⟨G, hG⟩ : ∃ G, G = Sm.nxt l (f + 1) := ⟨_, rfl⟩
          have hGb := Sm.nxt_le (b := l) (k := f + 1) (by omega)
          rw [← hG] at hGb
          have hbk := rblock_c A n c l f wr ((Hr.out.below hbel).more z3) hn (by omega) G hG
          rcases hv : Sm.val l (f, G) with _ | rs
          · rw [hv] at hbk
            obtain ⟨e1, e2⟩ := ps_bad Hhd.out hch (by omega) (by rw [← hG]; exact hv)
            have hfin : PLS wr (Fr w.heap.size wr) A3 P.length c3 P := ⟨vs, hown.rcS, hps.keep (stays_weak sf_fr)⟩
            have E1 := Lib.hid e1; have E2 := Lib.hid e2; have HP := Lib.hid hP; have Hfin := Lib.hid hfin; have Hbk := Lib.hid hbk
            clear e1 e2 hP hfin hown hps hch hbk hG hGb hnl hv hLl
            go_wp2_with fail
            refine Hbk.out.mono ?_
            rintro e w4 ⟨hb4, A4, k4, c4, E4, o4, rfl, rfl⟩
            have hfin4 := Hfin.out.keep (show Stays wr w4 (Fr w.heap.size wr) (Fr w.heap.size w4) from ⟨fun b hb => ⟨hb.1, Nat.lt_of_lt_of_le hb.2 hb4.size⟩, fun p hp => hb4.cell hp.2⟩)
            have Hfin4 := Lib.hid hfin4; clear hfin4
            have b4 := hbel.trans (hb4.mono z3)
            go_wp2
            go_ret3
            refine ⟨A3, c3, ?_, ?_, b4⟩
            · rw [E1.out, E2.out, ← HP.out]; rfl
            · rw [E1.out, ← HP.out]; exact Hfin4.out
          · rw [hv] at hbk
            have hch2 := ch_snoc hch (show f < l.length by omega) (by rw [← hG, hv]; rfl)
            rw [← hG] at hch2
            have hP2 : P ++ [(f, rs)] = Sm.pcs l (L ++ [(f, G)]) := by rw [hP]; simp [Sm.pcs, hv]
            have hA3 : ∀ g, ob A3 = some g → g < wr.heap.size := fun g hg => (oc_ob hown g hg).2
            have HP2 := Lib.hid hP2; have Hch2 := Lib.hid hch2; have Hbk := Lib.hid hbk; have Hown := Lib.hid hown; have Hps := Lib.hid hps; have HA3 := Lib.hid hA3; have HnL := Lib.hid hnl
            clear hP hP2 hch hch2 hbk hG hnl hv hLl hown hps hA3
            have hGn : G ≤ n := by have := HnL.out; omega
            go_wp2_with fail
            refine Hbk.out.mono ?_
            rintro e w4 ⟨hb4, A4, k4, c4, E4, o4, rfl, rfl, rfl, rfl, hr4⟩
            have z4 := hb4.size
            obtain ⟨w5, hw5⟩ : ∃ w5, w5 = w4.alloc (.cells #[.int .i64 (f : Int), .slice A4 rs.length c4] 47) := ⟨_, rfl⟩
            have z5 : w5.heap.size = w4.heap.size + 1 := by rw [hw5]; simp
            have b45 : Below w4.heap.size w4 w5 := by rw [hw5]; exact (Below.refl _ _).alloc (Nat.le_refl _) _
            have b35 : Below wr.heap.size wr w5 := hb4.trans (b45.mono z4)
            have hlit : Rc 2 w5 (w4.heap.size + 1) (some ⟨w4.heap.size, 0, none⟩) 1 1 [.int .i64 (f : Int), .slice A4 rs.length c4] := by
              rw [hw5]; exact Rc.lit (z := 2) w4 _ #[.int .i64 (f : Int), .slice A4 rs.length c4] 1 rfl (by simp [maxLen])
            have hpr : PrS w5 (Sf w.heap.size w5 A3) (.int .i64 (f : Int)) (.slice A4 rs.length c4) (f, rs) :=
              ⟨rfl, A4, _, c4, rfl, hr4.keep ⟨fun b hb => ⟨by have := hb.1; omega, by have := hb.2; omega, fun e => by have := HA3.out b e.symm; have := hb.1; omega⟩, fun p hp => b45.cell hp.2⟩⟩
            have hown5 := Hown.out.keep b35
            have hps5 := (Hps.out.keep (sf_below b35)).snoc hpr
            have W5 := Lib.hid hw5; have Hlit := Lib.hid hlit; have Hown5 := Lib.hid hown5; have Hps5 := Lib.hid hps5; have Z5 := Lib.hid z5
            clear hw5 hlit hpr hown5 hps5 hr4 z5
            go_wp2_with (at_builtin; rw [← W5.out]; go_must (refine Sl.wpAppAt pty rfl (.tmp 36) (.tmp 40) rfl (n := P.length) (m := 1) (N := P.length + 1) (ws := vs ++ [.int .i64 (f : Int), .slice A4 rs.length c4]) rfl rfl Hown5.out Hlit.out ?hs1 rfl rfl ?hs4 ?hs5 ?hs6 ?_))
            case hs1 => simp [Value.oneCell']
            case hs4 => omega
            case hs5 => omega
            case hs6 => have := Z5.out; omega
            intro A8 c8 w8 hown8 hg8
            have b8 := (hbel.trans (b35.mono z3)).trans (hg8.belowC Hown5.out (by have := Z5.out; omega))
            have hps8 := Hps5.out.keep (sf_grow hg8)
            have Hown8 := Lib.hid hown8; have Hps8 := Lib.hid hps8; clear hown8 hps8 hg8
            go_wp2
            go_roundw
            case rel => exact ⟨A8, c8, vs ++ [.int .i64 (f : Int), .slice A4 rs.length c4], P ++ [(f, rs)], L ++ [(f, G)], G, by simp, rfl, HP2.out, Hch2.out, by have := HnL.out; omega, by rw [List.length_append]; exact Hown8.out, Hps8.out, b8⟩
            case measure => simp [intOf]; omega
        · obtain rfl : f = l.length := by omega
          obtain ⟨e1, e2⟩ := ps_end Hhd.out hch
          have hfin : PLS wr (Fr w.heap.size wr) A3 P.length c3 P := ⟨vs, hown.rcS, hps.keep (stays_weak sf_fr)⟩
          have E1 := Lib.hid e1; have E2 := Lib.hid e2; have HP := Lib.hid hP; have Hfin := Lib.hid hfin
          clear e1 e2 hP hfin hown hps hch hnl hLl
          go_wp2
          go_ret3
          refine ⟨A3, c3, ?_, ?_, hbel⟩
          · rw [E1.out, E2.out, ← HP.out]; rfl
          · rw [E1.out, ← HP.out]; exact Hfin.out
    · obtain ⟨Y, hY⟩ : ∃ Y, Y = l.take 4 := ⟨_, rfl⟩
      have hyn : ¬ Y = [84, 83, 81, 49] := by rw [hY]; exact hhd
      have hyb : (Y == [84, 83, 81, 49]) = false := by simpa using hyn
      have hyc : (Y.toArray == #[84, 83, 81, 49]) = false := by simpa using hyn
      have hcv2 : (convert 22 9 (.slice D 4 c)).run Tryd.prog w1 = .ok (.string ⟨Y.toArray⟩) w1 := by rw [hY]; exact hcv
      rw [hw1] at hcv2
      have hps := Sm.ps_not hhd
      have her := Sm.er_not hhd
      have HPS := Lib.hid hps; have HER := Lib.hid her
      clear hps her hhd hr hl ho1 hcv hrD hw1 hY
      go_enter Tryd.func10, Tryd.ntmps10
      go_wp2
      go_ret3
      refine ⟨some ⟨w.heap.size, 0, none⟩, 0, ?_, ?_, (Below.refl _ _).alloc (Nat.le_refl _) _⟩
      · rw [HPS.out, HER.out]; rfl
      · rw [HPS.out]
        exact ⟨[], ⟨rfl, Nat.le_refl _, by simp [maxLen], fun h => absurd h (by simp)⟩, PsS.nil⟩
end Go.Proofs.YtddnlimkaagpdaaDoor

namespace Go.Proofs.YtddnlimkaagpdaaDoor
open Go.RowKit

def RetR2 (w : World) (L : List (List (List UInt8))) (k : Int) (e : Ending) (w' : World) : Prop :=
  ∃ A c, e = .returned (.tuple #[.slice A L.length c, .int .i64 k]) ∧ RL w' w'.heap.size A L.length c L ∧ Below w.heap.size w w'

set_option maxHeartbeats 1000000 in
set_option maxRecDepth 100000 in
/-- the document's Read -/
theorem rread_ok (A : Option Addr) (n c : Nat) (l : List UInt8) (f t G : Nat) (w : World) (hr : Rb w w.heap.size A n c l) (hft : f ≤ t) (ht : t ≤ n) (hn : n ≤ 9000) (hG : G = (Sm.ps l).2) :
    Calls Tryd.prog 12 #[.slice A n c, .int .i64 (f : Int), .int .i64 (t : Int), .int .i64 (G : Int)] w (RetR2 w (Sm.rd l f t) (if G < t then 3 else 0)) := by
  have hl := hr.len
  have hg := Sm.ps_good l
  have hll := (Sm.ps_facts l).2.2.1
  have hal := (Sm.ps_all l).1
  have hsc := rscan_c A n c l w hr (by omega)
  have hof : ∀ A1 c1 w1, PL w1 w1.heap.size A1 (Sm.ps l).1.length c1 (Sm.ps l).1 → Calls Tryd.prog 28 #[.slice A1 (Sm.ps l).1.length c1, .int .i64 (f : Int), .int .i64 (t : Int)] w1 (RetA w1 (Sm.rd l f t)) := fun A1 c1 w1 h => rof_c A1 (Sm.ps l).1.length c1 _ f t w1 h (by omega) (by omega)
  unfold RetSc at hsc
  rw [← hG] at hg
  obtain ⟨R, hR⟩ : ∃ R, R = Sm.rd l f t := ⟨_, rfl⟩
  rw [← hR] at hof ⊢
  obtain ⟨p, hp⟩ : ∃ p, p = (Sm.ps l).1.length := ⟨_, rfl⟩
  rw [← hp] at hof hsc
  have Hof := Lib.hid hof; have Hsc := Lib.hid hsc; clear hof hr hG hsc hR hp hll hal
  have e1 : decide ((f : Int) < 0) = false := by simp
  have e2 : decide (t < f) = false := by simp; omega
  have e3 : decide (n < t) = false := by simp; omega
  have e4 : decide ((G : Int) < 0) = false := by simp
  have e5 : decide (n < G) = false := by simp; omega
  by_cases hGt : G < t
  · have d6 : decide (G < t) = true := by simp; omega
    rw [if_pos hGt]
    go_enter Tryd.func12, Tryd.ntmps12
    go_wp2_with fail
    refine Hsc.out.mono ?_
    rintro e w1 ⟨A1, c1, rfl, hp1, hb1⟩
    have z1 := hb1.size
    have H1 := Lib.hid hp1.pl; clear hp1
    go_wp2_with fail
    refine (Hof.out A1 c1 w1 H1.out).mono ?_
    rintro e w2 ⟨A2, c2, rfl, h2, hb2⟩
    have H2 := Lib.hid h2; clear h2
    go_wp2
    go_ret2
    exact ⟨A2, c2, rfl, H2.out, hb1.trans (hb2.mono z1)⟩
  · have d6 : decide (G < t) = false := by simp; omega
    rw [if_neg hGt]
    go_enter Tryd.func12, Tryd.ntmps12
    go_wp2_with fail
    refine Hsc.out.mono ?_
    rintro e w1 ⟨A1, c1, rfl, hp1, hb1⟩
    have z1 := hb1.size
    have H1 := Lib.hid hp1.pl; clear hp1
    go_wp2_with fail
    refine (Hof.out A1 c1 w1 H1.out).mono ?_
    rintro e w2 ⟨A2, c2, rfl, h2, hb2⟩
    have H2 := Lib.hid h2; clear h2
    go_wp2
    go_ret2
    exact ⟨A2, c2, rfl, H2.out, hb1.trans (hb2.mono z1)⟩

set_option maxHeartbeats 1000000 in
set_option maxRecDepth 100000 in
/-- the document's Read: places that may not be -/
theorem readD_arg (A : Option Addr) (n c : Nat) (f t g : Int) (w : World) (h : f < 0 ∨ t < f ∨ (n : Int) < t ∨ g < 0 ∨ (n : Int) < g) :
    Calls Tryd.prog 12 #[.slice A n c, .int .i64 f, .int .i64 t, .int .i64 g] w (RetRE w [] 1) := by
  have hfin : ∀ W, W = w → RetRE w [] 1 (.returned (.tuple #[.slice none 0 0, .int .i64 1])) W := fun W h => by subst h; exact ⟨none, 0, rfl, RLS.nil, Below.refl _ _⟩
  have Hfin := Lib.hid hfin; clear hfin
  by_cases h1 : f < 0
  · have d1 : decide (f < 0) = true := by simpa using h1
    clear h
    go_enter Tryd.func12, Tryd.ntmps12
    go_wp2
    go_ret2
    exact Hfin.out _ rfl
  · have d1 : decide (f < 0) = false := by simpa using h1
    by_cases h2 : t < f
    · have d2 : decide (t < f) = true := by simpa using h2
      clear h
      go_enter Tryd.func12, Tryd.ntmps12
      go_wp2
      go_ret2
      exact Hfin.out _ rfl
    · have d2 : decide (t < f) = false := by simpa using h2
      by_cases h3 : (n : Int) < t
      · have d3 : decide ((n : Int) < t) = true := by simpa using h3
        clear h
        go_enter Tryd.func12, Tryd.ntmps12
        go_wp2
        go_ret2
        exact Hfin.out _ rfl
      · have d3 : decide ((n : Int) < t) = false := by simpa using h3
        by_cases h4 : g < 0
        · have d4 : decide (g < 0) = true := by simpa using h4
          clear h
          go_enter Tryd.func12, Tryd.ntmps12
          go_wp2
          go_ret2
          exact Hfin.out _ rfl
        · have d4 : decide (g < 0) = false := by simpa using h4
          have h5 : (n : Int) < g := by omega
          have d5 : decide ((n : Int) < g) = true := by simpa using h5
          clear h
          go_enter Tryd.func12, Tryd.ntmps12
          go_wp2
          go_ret2
          exact Hfin.out _ rfl

end Go.Proofs.YtddnlimkaagpdaaDoor
