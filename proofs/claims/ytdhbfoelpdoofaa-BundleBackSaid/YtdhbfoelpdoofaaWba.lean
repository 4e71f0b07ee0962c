/-
  The walk of the law BundleBack.
-/
import Derived.Test.YtdhbfoelpdoofaaWwr
import Derived.Test.YtdhbfoelpdoofaaVa
namespace Go.Proofs.Ytdhbfoelpdoofaa
open Go.RowKit

theorem wr_w : ∀ (l : List Bm.Rec) (B : List UInt8), Bm.mayB B l = true → ((l.map Bm.ew).flatten).length + (Bm.body l).length ≤ wL l + 8 * l.length
  | [], B, _ => by simp [Bm.body]
  | r :: l, B, h => by
    rw [Bm.mayB, Bool.and_eq_true] at h
    obtain ⟨a, b, rfl, _, h3, h4⟩ := Bm.okr_inv h.1
    have ih := wr_w l (Bm.nm [a, b]) h.2
    have v1 := Bm.vb3 a.length (by omega)
    have v2 := Bm.vb3 b.length (by omega)
    have e1 : (Bm.ew [a, b]).length = (Vm.vb a.length).length + (a.length + (Vm.vb b.length).length) := by rw [Bm.ew]; simp only [List.length_append]
    have e2 : (Bm.bw [a, b]).length = b.length + 4 := by rw [Bm.bw, Bm.sl_len]
    have e3 : Bm.body ([a, b] :: l) = Bm.bw [a, b] ++ Bm.body l := rfl
    rw [List.map_cons, List.flatten_cons, List.length_append, e3, List.length_append, e1, e2]
    simp only [wL, wR, List.length_cons]
    omega
theorem wr_small (l : List Bm.Rec) (h : wL l ≤ 3000) (hn : l.length ≤ 120) (hm : Bm.mayB [] l = true) : (Bm.wr l).length ≤ 5000 := by
  have h1 := wr_w l [] hm
  obtain ⟨_, h2, _⟩ := Bm.wr_len l (by omega) hm
  have h3 := Bm.sl_len (Bm.ents l)
  have h4 : (Bm.ents l).length = (Vm.vb l.length).length + ((l.map Bm.ew).flatten).length := by unfold Bm.ents; rw [List.length_append]
  have h5 := Bm.vb3 l.length (by omega)
  have h6 := Bm.vb3 (Bm.sl (Bm.ents l)).length (by omega)
  omega
/-- What the second half asks. -/
theorem again_facts (b : List UInt8) (hb : b.length ≤ 90000) (P : List (Nat × List (List (List UInt8)))) (g x : Nat) (h : Bm.scS b = (P, g, x)) :
    P.length ≤ 1000 ∧ (Tm.all P).length ≤ 1000 ∧ (∀ r ∈ Tm.all P, ∀ q ∈ r, q.length ≤ 140737488355328) ∧ (x = 0 ∧ Bm.wrS (Tm.all P) = (b, 0) ∨ x ≠ 0) := by
  have hx : x = 0 ∧ Bm.wrS (Tm.all P) = (b, 0) ∨ x ≠ 0 := by
    by_cases hx : x = 0
    · refine .inl ⟨hx, ?_⟩
      have := Bm.good_again (b := b) (by rw [h]; exact hx)
      rw [h] at this
      exact this
    · exact .inr hx
  rcases hd : Bm.dir b with _ | ⟨D, e⟩
  · rw [Bm.scS_none hd] at h
    injection h with h1 _
    subst h1
    exact ⟨by simp, by simp [Tm.all], fun r hr => by simp [Tm.all] at hr, hx⟩
  · have hp := Bm.scS_pcs hd
    rw [h] at hp
    dsimp only at hp
    subst hp
    obtain ⟨hD, _, hm⟩ := dir_files hd rfl hb
    have hle := Bm.cts_len b D
    have hl : (Bm.pcs D (Bm.cts b D)).length ≤ 1000 := by rw [Bm.pcs_len _ _ hle]; omega
    refine ⟨hl, ?_, fun r hr q hq => ?_, hx⟩
    · rw [Bm.all_pcs, List.length_zipWith]; omega
    · rw [Bm.all_pcs] at hr
      obtain ⟨i, hi, rfl⟩ := List.getElem_of_mem hr
      rw [List.length_zipWith] at hi
      rw [List.getElem_zipWith] at hq
      have hfm := hm _ (List.getElem_mem (show i < D.length by omega))
      have hsz := Bm.cts_sz b D i _ _ (List.getElem?_eq_getElem (show i < (Bm.cts b D).length by omega)) (List.getElem?_eq_getElem (show i < D.length by omega))
      simp only [List.mem_cons, List.not_mem_nil, or_false] at hq
      rcases hq with rfl | rfl
      · omega
      · omega
theorem back_cases {p : Prop} [Decidable p] {m : Nat} (h : ¬ (p ∧ m ≤ 3000)) : ¬ p ∨ p ∧ decide ((3000 : Int) < (m : Int)) = true := by
  by_cases hp : p
  · exact .inr ⟨hp, by have : ¬ m ≤ 3000 := fun q => h ⟨hp, q⟩; simp; omega⟩
  · exact .inl hp
set_option maxRecDepth 100000 in
set_option maxHeartbeats 1000000 in
theorem bundleBack_big (A A' : Option Addr) (n c m d : Nat) (l : List (List (List UInt8))) (w : World) (hr : RL w w.heap.size A n c l) (hz : ∀ r ∈ l, ∀ q ∈ r, q.length ≤ 140737488355328) (h : ¬ ((wL l ≤ 3000 ∧ (l.length : Int) ≤ 120) ∧ m ≤ 3000)) :
    Calls Try.prog 4 #[.slice A n c, .slice A' m d] w fun e w' => e = .returned (.bool true) ∧ Below w.heap.size w w' := by
  rcases back_cases h with h1 | ⟨h1, d2⟩
  · have Hr := Lib.hid hr; have Hz := Lib.hid hz; have Ho := Lib.hid (decide_eq_false h1).symm; clear hr hz h h1
    go_enter Try.func4, Try.ntmps4
    go_wp2_with fail
    refine (fewR_c A n c _ l _ Hr.out Hz.out 120 false Ho.out).mono ?_
    rintro e w1 ⟨rfl, rfl⟩
    go_wp2_with fail
    refine (alive_c _).mono ?_
    rintro e w2 ⟨rfl, hb2⟩
    go_wp2
    go_ret
    exact ⟨rfl, hb2⟩
  · have Hr := Lib.hid hr; have Hz := Lib.hid hz; have Ho := Lib.hid (decide_eq_true h1).symm; clear hr hz h h1
    go_enter Try.func4, Try.ntmps4
    go_wp2_with fail
    refine (fewR_c A n c _ l _ Hr.out Hz.out 120 true Ho.out).mono ?_
    rintro e w1 ⟨rfl, rfl⟩
    go_wp2_with fail
    refine (alive_c _).mono ?_
    rintro e w2 ⟨rfl, hb2⟩
    go_wp2
    go_ret
    exact ⟨rfl, hb2⟩
def BkRel (n : Nat) (w : World) (i : Value) (wr : World) : Prop := ∃ j : Nat, i = .int .i64 (j : Int) ∧ j ≤ n ∧ Below w.heap.size w wr

set_option maxRecDepth 100000 in
set_option maxHeartbeats 8000000 in
theorem bundleBack_walk (A : Option Addr) (n c : Nat) (l : List (List (List UInt8))) (A' : Option Addr) (m d : Nat) (b : List UInt8) (w : World) (hr : RL w w.heap.size A n c l) (hz : ∀ r ∈ l, ∀ q ∈ r, q.length ≤ 140737488355328) (hb : Rb w w.heap.size A' m d b) :
    Calls Try.prog 4 #[.slice A n c, .slice A' m d] w fun e w' => e = .returned (.bool true) ∧ Below w.heap.size w w' := by
  by_cases hbig : (wL l ≤ 3000 ∧ (l.length : Int) ≤ 120) ∧ m ≤ 3000
  · obtain ⟨h1, hm⟩ := hbig
    have hl := hr.len
    have hbl := hb.len
    obtain ⟨P2, g2, x2, hS2⟩ : ∃ P g x, Bm.scS b = (P, g, x) := ⟨_, _, _, rfl⟩
    obtain ⟨p2, hp2⟩ : ∃ p2, P2.length = p2 := ⟨_, rfl⟩
    obtain ⟨hP2, hR2l, hz2, hx2⟩ := again_facts b (by omega) P2 g2 x2 hS2
    rw [hp2] at hP2
    have hsc2 := fun W (hW : Rb W W.heap.size A' m d b) => scan_lit A' m d b W hW (by omega) P2 p2 g2 x2 hS2 hp2
    obtain ⟨r2, hr2⟩ : ∃ r2, (Tm.all P2).length = r2 := ⟨_, rfl⟩
    rw [hr2] at hR2l
    obtain ⟨Y, G, hY⟩ : ∃ Y G, Bm.wrS (Tm.all P2) = (Y, G) := ⟨_, _, rfl⟩
    rw [hY] at hx2
    obtain ⟨yl, hyl⟩ : ∃ yl, Y.length = yl := ⟨_, rfl⟩
    have hw2 := fun RA rd W (hW : RL W W.heap.size RA r2 rd (Tm.all P2)) => write_any RA r2 rd (Tm.all P2) W hW hz2 Y G hY yl hyl
    have d2 : decide ((3000 : Int) < (m : Int)) = false := by simp; omega
    obtain ⟨L, x, hL⟩ : ∃ L x, Bm.wrS l = (L, x) := ⟨_, _, rfl⟩
    obtain ⟨k, hk⟩ : ∃ k, L.length = k := ⟨_, rfl⟩
    have hw1 := write_any A n c l w hr hz L x hL k hk
    have hn : n ≤ 120 := by omega
    have Hr := Lib.hid hr; have Hz := Lib.hid hz; have Ho := Lib.hid (decide_eq_true h1).symm; have Hb := Lib.hid hb; have Hsc2 := Lib.hid hsc2; have HR2 := Lib.hid hr2; have Hw2 := Lib.hid hw2; have Hx2 := Lib.hid hx2; have HS2 := Lib.hid hS2; have Hw1 := Lib.hid hw1; have Hl := Lib.hid hl
    clear hr hz hb hsc2 hr2 hw2 hx2 hS2 hw1 hl hbl hY hyl hp2 hz2
    by_cases hmay : l.length ≤ 1000 ∧ Bm.mayB [] l = true
    · obtain ⟨hl1, hmay⟩ := hmay
      have hls := wr_small l h1.1 (by omega) hmay
      rw [Bm.wrS_ok hl1 hmay] at hL
      injection hL with hL1 hL2
      subst hL2
      rw [hL1] at hls
      have hk9 : k ≤ 5000 := by omega
      obtain ⟨P1, hS1, hA1, hF1⟩ := Bm.write_back l hl1 hmay
      rw [hL1] at hS1 hF1
      rw [hk] at hS1
      obtain ⟨p1, hp1⟩ : ∃ p1, P1.length = p1 := ⟨_, rfl⟩
      have hP1 := (again_facts L (by omega) P1 k 0 hS1).1
      rw [hp1] at hP1
      have hsc1 := fun XA xd W (hW : Rb W W.heap.size XA k xd L) => scan_lit XA k xd L W hW (by omega) P1 p1 k 0 hS1 hp1
      have hcn1 := fun XA xd W (hW : Rb W W.heap.size XA k xd L) => canon_c XA k xd L W hW (by omega) true (by rw [hS1]; rfl)
      have hfd1 := fun XA xd (a y : List UInt8) (h : Bm.fnd L a = (y, 0)) W (hW : Rb W W.heap.size XA k xd L) => find_c XA k xd L a W hW (by omega) y 0 h
      have hrl : ∀ r ∈ l, r.length ≤ 1000000 := fun r hr => by
        obtain ⟨i, hi, rfl⟩ := List.getElem_of_mem hr
        obtain ⟨a, y, e, _⟩ := Bm.mayB_get l [] i _ hmay (List.getElem?_eq_getElem hi)
        rw [e]; simp
      have Hsc1 := Lib.hid hsc1; have Hcn1 := Lib.hid hcn1; have Hfd1 := Lib.hid hfd1; have HF1 := Lib.hid hF1; have HA1 := Lib.hid hA1; have Hrl := Lib.hid hrl
      clear hsc1 hcn1 hfd1 hF1 hA1 hrl hS1 hp1 hL1 hmay hl1 hls hk h1
      go_enter Try.func4, Try.ntmps4
      go_wp2_with fail
      refine (fewR_c A n c _ l _ Hr.out Hz.out 120 true Ho.out).mono ?_
      rintro e w1 ⟨rfl, rfl⟩
      go_wp2_with fail
      refine Hw1.out.mono ?_
      rintro e w2 ⟨XA, xd, rfl, hp2, hb2⟩
      have z2 := hb2.size
      have HX2 := Lib.hid (Own.rbl hp2)
      have Hr2 := Lib.hid ((Hr.out.below hb2).more z2)
      clear hp2
      go_wp2
      go_loopw [7] (fun i wr => BkRel n w2 i wr) (fun i _ => n - (intOf i).toNat)
      case atStart => exact ⟨0, rfl, Nat.zero_le _, Below.refl _ _⟩
      case round =>
        obtain ⟨j, rfl, hj, hbel⟩ := hrel
        have zr := hbel.size
        have HXr := Lib.hid ((HX2.out.below hbel).more zr)
        by_cases hlt : j < n
        · obtain ⟨pb, po, D, q, e', r, rfl, hpb, hcell, hx, _, hrec⟩ := (Hr2.out.below hbel).at_ hlt
          obtain ⟨s, y, hrr, hfn⟩ := HF1.out j r hx
          subst hrr
          obtain rfl : q = 2 := (lvs_num hrec).symm
          obtain ⟨b2, off2, s', rfl, hb2', hc2, hx2', _⟩ := lvs_at hrec (k := 0) (by omega)
          obtain ⟨b3, off3, y', hE, hb3, hc3, hx3, _⟩ := lvs_at hrec (k := 1) (by omega)
          injection hE with hE
          injection hE with h1 h2 _
          subst h1 h2
          obtain rfl : s = s' := by simpa using hx2'
          obtain rfl : y = y' := by simpa using hx3
          rw [Nat.add_zero] at hc2
          have hcf := Hfd1.out XA xd s y hfn wr HXr.out
          have Hcf := Lib.hid hcf
          clear hcf hx hrec hfn hx2' hx3
          go_wp2_with fail
          refine Hcf.out.mono ?_
          rintro e w5 ⟨rfl, hb5⟩
          have b5 := hbel.trans (hb5.mono zr)
          have k1 := (hb5.cell (p := ⟨pb, po + j, none⟩) (by show pb < _; omega)).trans hcell
          have k3 := (hb5.cell (p := ⟨b2, off2 + 1, none⟩) (by show b2 < _; omega)).trans hc3
          clear hcell hc2 hc3
          go_wp2
          go_roundw
          case rel => exact ⟨j + 1, by go_num, hlt, b5⟩
          case measure => simp [intOf]; omega
        · have brr := hb2.trans (hbel.mono z2)
          have Hrr := Lib.hid ((Hr2.out.below hbel).more zr)
          have hnj : j = n := by omega
          go_wp2_with fail
          refine (Hsc1.out XA xd wr HXr.out).mono ?_
          rintro e w5 ⟨PA1, pd1, rfl, hP5, hb5⟩
          have z5 := hb5.size
          have HX5 := Lib.hid ((HXr.out.below hb5).more z5)
          have Hr5 := Lib.hid ((Hrr.out.below hb5).more z5)
          have HP5 := Lib.hid (show PL w5 w5.heap.size PA1 p1 pd1 P1 from PLS.keep hP5 (stays_weak fr_lt))
          have b5 := brr.trans (hb5.mono brr.size)
          clear hP5
          go_wp2_with fail
          refine (Hcn1.out XA xd w5 HX5.out).mono ?_
          rintro e w6 ⟨rfl, hb6⟩
          have z6 := hb6.size
          have HP6 := Lib.hid ((HP5.out.below hb6).more z6)
          have Hr6 := Lib.hid ((Hr5.out.below hb6).more z6)
          have b6 := b5.trans (hb6.mono b5.size)
          go_wp2_with fail
          refine (rall_c PA1 p1 pd1 P1 w6 HP6.out (by omega) (by rw [HA1.out, Hl.out]; omega)).mono ?_
          rintro e w7 ⟨QA, qd, rfl, hQ7, hb7⟩
          have z7 := hb7.size
          rw [HA1.out, Hl.out] at hQ7
          rw [HA1.out, Hl.out]
          have Hr7 := Lib.hid ((Hr6.out.below hb7).more z7)
          have HQ7 := Lib.hid hQ7
          have b7 := b6.trans (hb7.mono b6.size)
          clear hQ7
          go_wp2_with fail
          refine (recs_big QA A n qd c l w7 HQ7.out Hr7.out (by omega) Hrl.out).mono ?_
          rintro e w8 ⟨rfl, qq, rfl⟩
          obtain ⟨w8, hw8⟩ : ∃ w8, w8 = w7.drewN qq := ⟨_, rfl⟩
          have b8 : Below w.heap.size w w8 := by rw [hw8]; exact below_drewN b7 qq
          rw [← hw8]
          clear hw8
          have zt := b8.size
          have HbT := Lib.hid ((Hb.out.below b8).more (B' := w8.heap.size) zt)
          go_wp2_with fail
          refine (Hsc2.out w8 HbT.out).mono ?_
          rintro e w10 ⟨PA2, pd2, rfl, hP2, hb10⟩
          have z10 := hb10.size
          have Hb10 := Lib.hid ((HbT.out.below hb10).more z10)
          have HP10 := Lib.hid (show PL w10 w10.heap.size PA2 p2 pd2 P2 from PLS.keep hP2 (stays_weak fr_lt))
          have b10 := b8.trans (hb10.mono zt)
          clear hP2
          go_wp2_with fail
          refine (rall_c PA2 p2 pd2 P2 w10 HP10.out (by omega) (by rw [HR2.out]; omega)).mono ?_
          rintro e w11 ⟨RA, rd, rfl, hR11, hb11⟩
          have z11 := hb11.size
          have b11 := b10.trans (hb11.mono b10.size)
          have Hb11 := Lib.hid ((Hb10.out.below hb11).more z11)
          rw [HR2.out] at hR11 ⊢
          have HR11 := Lib.hid hR11
          clear hR11
          go_wp2_with fail
          refine (Hw2.out RA rd w11 HR11.out).mono ?_
          rintro e w12 ⟨YA, yd, rfl, hp12, hb12⟩
          have z12 := hb12.size
          have b12 := b11.trans (hb12.mono b11.size)
          have HY12 := Lib.hid (Own.rbl hp12)
          have Hb12 := Lib.hid ((Hb11.out.below hb12).more z12)
          clear hp12
          go_wp2_with fail
          refine (alive_c w12).mono ?_
          rintro e w13 ⟨rfl, hb13⟩
          have z13 := hb13.size
          have b13 := b12.trans (hb13.mono b12.size)
          have Hb13 := Lib.hid ((Hb12.out.below hb13).more z13)
          have HY13 := Lib.hid ((HY12.out.below hb13).more z13)
          rcases Hx2.out with ⟨hx, hY⟩ | hx
          · have hc := canon_c A' m d b w13 Hb13.out (by omega) true (by rw [HS2.out]; dsimp only; rw [hx]; rfl)
            have Hc := Lib.hid hc
            injection hY with hY1 hY2
            subst hY1 hY2
            clear hc hx
            go_wp2_with fail
            refine Hc.out.mono ?_
            rintro e w14 ⟨rfl, hb14⟩
            have b14 := b13.trans (hb14.mono b13.size)
            have cv1 := bty.conv (HY13.out.below hb14)
            have cv2 := bty.conv (Hb13.out.below hb14)
            go_wp2
            go_ret
            exact ⟨rfl, b14⟩
          · have hc := canon_c A' m d b w13 Hb13.out (by omega) false (by rw [HS2.out]; dsimp only; rw [decide_eq_false hx])
            have Hc := Lib.hid hc
            clear hc hx
            go_wp2_with fail
            refine Hc.out.mono ?_
            rintro e w14 ⟨rfl, hb14⟩
            have b14 := b13.trans (hb14.mono b13.size)
            go_wp2
            go_ret
            exact ⟨rfl, b14⟩
    · have hL0 : Bm.wrS l = ([], 10) := if_neg hmay
      rw [hL0] at hL
      injection hL with hL1 hL2
      subst hL1 hL2
      subst hk
      have hd0 : Bm.dir [] = none := Bm.dir_nonum (by rfl)
      have hsc1 := fun XA xd W (hW : Rb W W.heap.size XA 0 xd []) => scan_lit XA 0 xd [] W hW (by omega) [] 0 0 3 (Bm.scS_none hd0) rfl
      have Hsc1 := Lib.hid hsc1
      clear hsc1 hd0 hL0 hmay h1
      go_enter Try.func4, Try.ntmps4
      go_wp2_with fail
      refine (fewR_c A n c _ l _ Hr.out Hz.out 120 true Ho.out).mono ?_
      rintro e w1 ⟨rfl, rfl⟩
      go_wp2_with fail
      refine Hw1.out.mono ?_
      rintro e w2 ⟨XA, xd, rfl, hp2, hb2⟩
      have z2 := hb2.size
      have HX2 := Lib.hid (show Rb w2 w2.heap.size XA 0 xd [] from hp2.1.rb)
      clear hp2
      go_wp2
      go_loopw [7] (fun i wr => i = .int .i64 0 ∧ wr = w2) (fun _ _ => 0)
      case atStart => exact ⟨rfl, rfl⟩
      case round =>
        obtain ⟨rfl, rfl⟩ := hrel
        go_wp2_with fail
        refine (Hsc1.out XA xd _ HX2.out).mono ?_
        rintro e w8 ⟨PA1, pd1, rfl, hP5, hb5⟩
        have b8 := hb2.trans (hb5.mono z2)
        clear hP5
        have zt := b8.size
        have HbT := Lib.hid ((Hb.out.below b8).more (B' := w8.heap.size) zt)
        go_wp2_with fail
        refine (Hsc2.out w8 HbT.out).mono ?_
        rintro e w10 ⟨PA2, pd2, rfl, hP2, hb10⟩
        have z10 := hb10.size
        have Hb10 := Lib.hid ((HbT.out.below hb10).more z10)
        have HP10 := Lib.hid (show PL w10 w10.heap.size PA2 p2 pd2 P2 from PLS.keep hP2 (stays_weak fr_lt))
        have b10 := b8.trans (hb10.mono zt)
        clear hP2
        go_wp2_with fail
        refine (rall_c PA2 p2 pd2 P2 w10 HP10.out (by omega) (by rw [HR2.out]; omega)).mono ?_
        rintro e w11 ⟨RA, rd, rfl, hR11, hb11⟩
        have z11 := hb11.size
        have b11 := b10.trans (hb11.mono b10.size)
        have Hb11 := Lib.hid ((Hb10.out.below hb11).more z11)
        rw [HR2.out] at hR11 ⊢
        have HR11 := Lib.hid hR11
        clear hR11
        go_wp2_with fail
        refine (Hw2.out RA rd w11 HR11.out).mono ?_
        rintro e w12 ⟨YA, yd, rfl, hp12, hb12⟩
        have z12 := hb12.size
        have b12 := b11.trans (hb12.mono b11.size)
        have HY12 := Lib.hid (Own.rbl hp12)
        have Hb12 := Lib.hid ((Hb11.out.below hb12).more z12)
        clear hp12
        go_wp2_with fail
        refine (alive_c w12).mono ?_
        rintro e w13 ⟨rfl, hb13⟩
        have z13 := hb13.size
        have b13 := b12.trans (hb13.mono b12.size)
        have Hb13 := Lib.hid ((Hb12.out.below hb13).more z13)
        have HY13 := Lib.hid ((HY12.out.below hb13).more z13)
        rcases Hx2.out with ⟨hx, hY⟩ | hx
        · have hc := canon_c A' m d b w13 Hb13.out (by omega) true (by rw [HS2.out]; dsimp only; rw [hx]; rfl)
          have Hc := Lib.hid hc
          injection hY with hY1 hY2
          subst hY1 hY2
          clear hc hx
          go_wp2_with fail
          refine Hc.out.mono ?_
          rintro e w14 ⟨rfl, hb14⟩
          have b14 := b13.trans (hb14.mono b13.size)
          have cv1 := bty.conv (HY13.out.below hb14)
          have cv2 := bty.conv (Hb13.out.below hb14)
          go_wp2
          go_ret
          exact ⟨rfl, b14⟩
        · have hc := canon_c A' m d b w13 Hb13.out (by omega) false (by rw [HS2.out]; dsimp only; rw [decide_eq_false hx])
          have Hc := Lib.hid hc
          clear hc hx
          go_wp2_with fail
          refine Hc.out.mono ?_
          rintro e w14 ⟨rfl, hb14⟩
          have b14 := b13.trans (hb14.mono b13.size)
          go_wp2
          go_ret
          exact ⟨rfl, b14⟩
  · exact bundleBack_big A A' n c m d l w hr hz hbig
end Go.Proofs.Ytdhbfoelpdoofaa
