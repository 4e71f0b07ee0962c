/-
  The walk of the law SeqSpoilt.
-/
import Derived.Test.YtddnlimkaagpdaaDoorUs
import Derived.Test.YtddnlimkaagpdaaDoorUr
import Derived.Test.YtddnlimkaagpdaaDoorVa
import Derived.Test.YtddnlimkaagpdaaDoorUm
import Derived.Test.YtddnlimkaagpdaaDoorFw
namespace Go.Proofs.YtddnlimkaagpdaaDoor
open Go.RowKit Go.Shelf

theorem rl_bounds {w : World} {B n c : Nat} {A : Option Addr} {l : List Sm.R} (h : RL w B A n c l) : n ≤ c ∧ n ≤ 9223372036854775807 := by
  obtain ⟨vs, h1, _⟩ := h
  have h2 := h1.2.1; have h3 := h1.2.2.1
  unfold maxLen at h3
  omega
theorem RL.take {w : World} {B n c m : Nat} {A : Option Addr} {l : List Sm.R} (h : RL w B A n c l) (hm : m ≤ n) : RL w B A m c (l.take m) := by
  have hl := h.len
  obtain ⟨vs, h1, h2⟩ := h
  have hvl := h1.len1
  refine ⟨vs.take m, ⟨by rw [List.length_take]; omega, Nat.le_trans hm h1.2.1, h1.2.2.1, fun hp => ?_⟩, by rw [List.length_take, List.length_take]; omega, fun j v r g1 g2 => ?_⟩
  · obtain ⟨b, off, rfl, hb, hc⟩ := h1.2.2.2 (by omega)
    refine ⟨b, off, rfl, hb, fun j v hj => ?_⟩
    rw [List.getElem?_take] at hj
    split at hj
    · exact hc _ v hj
    · cases hj
  · rw [List.getElem?_take] at g1 g2
    split at g1
    · rw [if_pos (by assumption)] at g2
      exact h2.2 _ v r g1 g2
    · cases g1
theorem sl0 (A : Option Addr) (n c m : Nat) (hm : m ≤ n) (hc : n ≤ c) (W : World) : (Instr.slice 28 (.slice A n c) none (some (.int .i64 (m : Int))) none).run Tryd.prog W = .ok (.slice A m c) W := by
  rw [run_slice_h W 28 _ _ _ rty_sl .i64 (m : Int) (by omega) (by omega), rty_sz]
  by_cases h0 : c = 0
  · subst h0
    obtain rfl : m = 0 := by omega
    simp [Result.andThen, sliced]
  · simp [Result.andThen, sliced, h0]
    cases A <;> simp [Addr.add]
theorem Rb.setAt {w : World} {B n c g : Nat} {l : List UInt8} (h : Rb w B (some ⟨g, 0, none⟩) n c l) (k : Nat) (y : UInt8) (hk : k < n) : Rb (w.setCell ⟨g, k, none⟩ (.int .u8 (y.toNat : Int))) B (some ⟨g, 0, none⟩) n c (l.set k y) := by
  have hl := h.len
  refine ⟨by rw [List.length_set]; exact hl, h.2.1, h.2.2.1, fun hp => ?_⟩
  obtain ⟨b, off, e, hb, hc⟩ := h.2.2.2 hp
  injection e with e
  injection e with e1 e2 _
  subst e1 e2
  refine ⟨g, 0, rfl, hb, fun j x hj => ?_⟩
  by_cases hjk : j = k
  · subst hjk
    rw [List.getElem?_set_self (by omega)] at hj
    injection hj with hj
    subst hj
    have := hc j l[j] (List.getElem?_eq_getElem (by omega))
    rw [Nat.zero_add] at this ⊢
    exact World.cell?_setCell_same w _ _ this
  · rw [List.getElem?_set_ne (Ne.symm hjk)] at hj
    rw [World.cell?_setCell_other w _ _ _ (fun e => by injection e with _ e _; omega)]
    exact hc j x hj
theorem Wt.cell {w : World} {base n c k : Nat} {A : Option Addr} {l : List UInt8} {x : UInt8} (h : Wt w base A n c l) (hk : l[k]? = some x) : ∃ g, A = some ⟨g, 0, none⟩ ∧ base ≤ g ∧ g < w.heap.size ∧ w.cell? ⟨g, k, none⟩ = some (.int .u8 (x.toNat : Int)) ∧ w.frozen? ⟨g, k, none⟩ = false := by
  have hl := h.1.len
  obtain ⟨hk2, _⟩ := List.getElem?_eq_some_iff.1 hk
  obtain ⟨g, rfl, h1, h2, h3⟩ := h.2 (by omega)
  obtain ⟨b, off, e, hb, hc⟩ := h.1.2.2.2 (by omega)
  injection e with e
  injection e with e1 e2 _
  subst e1 e2
  have := hc k x hk
  rw [Nat.zero_add] at this
  exact ⟨g, rfl, h1, h2, this, h3 k (by omega)⟩

set_option maxRecDepth 100000 in
set_option maxHeartbeats 4000000 in
theorem seqSpoilt_walk (A : Option Addr) (n c : Nat) (l : List (List (List UInt8))) (at_ by_ : Int) (w : World) (hr : RL w w.heap.size A n c l) (hz : ∀ r ∈ l, ∀ q ∈ r, q.length ≤ 140737488355328) (hat : I64 at_) (hby : 0 ≤ by_ ∧ by_ < 256) (hx : Mx w) :
    Calls Tryd.prog 7 #[.slice A n c, .int .i64 at_, .int .u8 by_] w fun e w' => e = .returned (.bool true) ∧ Below w.heap.size w w' := by
  obtain ⟨q, rfl⟩ := Int.eq_ofNat_of_zero_le hby.1
  have hq : q < 256 := by have := hby.2; omega
  have hl := hr.len
  obtain ⟨hnc, hnmax⟩ := rl_bounds hr
  have hfew := fewR_c A n c w.heap.size l w hr hz _ rfl
  have hlz : wL l ≤ 3000 → ∀ r ∈ l, r.length ≤ 1000000 := fun h r hr => by
    have h1 := wL_mem l r hr
    have h2 := wR_len r
    omega
  by_cases hf : wL l ≤ 3000 ∧ l.length ≤ 120
  · rw [decide_eq_true hf] at hfew
    have hn : n ≤ 120 := by omega
    by_cases hq0 : q = 0
    · subst hq0
      have Hfew := Lib.hid hfew; have Hx := Lib.hid hx; have Hat := Lib.hid hat
      clear hfew hx hr hz hf hl hlz hat hby
      go_enter Tryd.func7, Tryd.ntmps7
      go_wp2_with fail
      refine Hfew.out.mono ?_
      rintro e w1 ⟨rfl, rfl⟩
      go_wp2_with fail
      refine (alive_c _ Hx.out).mono ?_
      rintro e w2 ⟨rfl, hb2⟩
      go_wp2
      go_ret
      exact ⟨rfl, hb2⟩
    · have hqz : ((q : Int) == 0) = false := by rw [beq_eq_false_iff_ne]; omega
      have hwr := write_c A n c l w hr (by omega) hnc hx
      rcases Sm.wrS_cases l with ⟨hok, hs⟩ | ⟨hok, hs⟩
      · rw [hs] at hwr
        have hXl : (Sm.wr l).length ≤ 490000 := Sm.wr_len l hok (by omega)
        have hsp := Sm.ps_spoilt l hok
        obtain ⟨X, hX⟩ : ∃ X, X = Sm.wr l := ⟨_, rfl⟩
        rw [← hX] at hwr hXl hsp
        have Hfew := Lib.hid hfew; have Hx := Lib.hid hx; have Hat := Lib.hid hat; have Hwr := Lib.hid hwr; have Hsp := Lib.hid hsp; have Hr := Lib.hid hr; have Hl := Lib.hid hl; have Hlz := Lib.hid (hlz hf.1)
        clear hfew hx hz hf hlz hat hwr hsp hX hs hok hl hr hby
        by_cases h1 : at_ < 0
        · go_enter Tryd.func7, Tryd.ntmps7
          go_wp2_with fail
          refine Hfew.out.mono ?_
          rintro e w1 ⟨rfl, rfl⟩
          go_wp2_with fail
          refine Hwr.out.mono ?_
          rintro e w2 ⟨A2, c2, rfl, hw2, hb2⟩
          clear hw2
          go_wp2_with fail
          refine (alive_c _ (Hx.out.below' hb2)).mono ?_
          rintro e w3 ⟨rfl, hb3⟩
          have bz := hb2.trans (hb3.mono hb2.size)
          go_wp2
          go_ret
          exact ⟨rfl, bz⟩
        · obtain ⟨k, rfl⟩ := Int.eq_ofNat_of_zero_le (show 0 ≤ at_ by omega)
          by_cases h2 : X.length ≤ k
          · go_enter Tryd.func7, Tryd.ntmps7
            go_wp2_with fail
            refine Hfew.out.mono ?_
            rintro e w1 ⟨rfl, rfl⟩
            go_wp2_with fail
            refine Hwr.out.mono ?_
            rintro e w2 ⟨A2, c2, rfl, hw2, hb2⟩
            clear hw2
            go_wp2_with fail
            refine (alive_c _ (Hx.out.below' hb2)).mono ?_
            rintro e w3 ⟨rfl, hb3⟩
            have bz := hb2.trans (hb3.mono hb2.size)
            go_wp2
            go_ret
            exact ⟨rfl, bz⟩
          · have hk : k < X.length := by omega
            obtain ⟨x, hxx⟩ : ∃ x, X[k]? = some x := ⟨_, List.getElem?_eq_getElem hk⟩
            obtain ⟨y, hyy⟩ : ∃ y : UInt8, y = UInt8.ofNat (x.toNat ^^^ q) := ⟨_, rfl⟩
            have hxl := x.toNat_lt
            have hyn : y.toNat = x.toNat ^^^ q := by rw [hyy, UInt8.toNat_ofNat']; exact Nat.mod_eq_of_lt (Cm.xor_lt8 (a := x.toNat) (b := q) (by omega) hq)
            have hxor : bits .xor .u8 (x.toNat : Int) (q : Int) = (y.toNat : Int) := by rw [hyn]; exact xor8 _ _ rfl rfl (by omega) hq
            have hne : x ≠ y := by
              intro e
              have h5 : x.toNat ^^^ 0 = x.toNat ^^^ q := by rw [Nat.xor_zero, ← hyn, ← e]
              have := Cm.xor_cancel h5
              omega
            have e255 : ∀ z : UInt8, z.toNat = 255 ↔ z = 255 := fun z => ⟨fun h => UInt8.toNat_inj.1 h, fun h => by rw [h]; rfl⟩
            have Hxx := Lib.hid hxx; have Hne := Lib.hid hne
            clear hxx hne hyn hyy
            by_cases hx255 : x = 255
            · have g1 : ((x.toNat : Int) == 255) = true := by rw [hx255]; rfl
              have G1 := Lib.hid g1
              clear hx255 g1 e255
              go_enter Tryd.func7, Tryd.ntmps7
              go_wp2_with fail
              refine Hfew.out.mono ?_
              rintro e w1 ⟨rfl, rfl⟩
              go_wp2_with fail
              refine Hwr.out.mono ?_
              rintro e w2 ⟨A2, c2, rfl, hw2, hb2⟩
              obtain ⟨g, rfl, hg1, hg2, hcell, hfrz⟩ := hw2.cell Hxx.out
              clear hw2
              have g1 := G1.out
              go_wp2_with fail
              refine (alive_c _ (Hx.out.below' hb2)).mono ?_
              rintro e w3 ⟨rfl, hb3⟩
              have bz := hb2.trans (hb3.mono hb2.size)
              go_wp2
              go_ret
              exact ⟨rfl, bz⟩
            · have g1 : ((x.toNat : Int) == 255) = false := by rw [beq_eq_false_iff_ne]; intro e; exact hx255 ((e255 x).1 (by omega))
              by_cases hy255 : y = 255
              · have g2 : ((y.toNat : Int) == 255) = true := by rw [hy255]; rfl
                have G1 := Lib.hid g1; have G2 := Lib.hid g2
                clear hx255 g1 e255 hy255 g2
                go_enter Tryd.func7, Tryd.ntmps7
                go_wp2_with fail
                refine Hfew.out.mono ?_
                rintro e w1 ⟨rfl, rfl⟩
                go_wp2_with fail
                refine Hwr.out.mono ?_
                rintro e w2 ⟨A2, c2, rfl, hw2, hb2⟩
                obtain ⟨g, rfl, hg1, hg2, hcell, hfrz⟩ := hw2.cell Hxx.out
                clear hw2
                have g1 := G1.out
                have g2 := G2.out
                go_wp2_with fail
                refine (alive_c _ (Hx.out.below' hb2)).mono ?_
                rintro e w3 ⟨rfl, hb3⟩
                have bz := hb2.trans (hb3.mono hb2.size)
                go_wp2
                go_ret
                exact ⟨rfl, bz⟩
              · have g2 : ((y.toNat : Int) == 255) = false := by rw [beq_eq_false_iff_ne]; intro e; exact hy255 ((e255 y).1 (by omega))
                obtain ⟨m, hm, hall, hgood, her⟩ := Hsp.out k x y Hxx.out hx255 hy255 Hne.out
                obtain ⟨Y, hY⟩ : ∃ Y, Y = X.set k y := ⟨_, rfl⟩
                rw [← hY] at hall hgood her
                have hYl : Y.length = X.length := by rw [hY, List.length_set]
                have hpn : (Sm.ps Y).1.length ≤ 490000 := by have := (Sm.ps_facts Y).2.2.1; omega
                have hal : ∀ W A1 c1, PL W W.heap.size A1 (Sm.ps Y).1.length c1 (Sm.ps Y).1 → Calls Tryd.prog 23 #[.slice A1 (Sm.ps Y).1.length c1] W (RetA W (l.take m)) := fun W A1 c1 h => by rw [← hall]; exact rall_c A1 _ c1 _ W h (by omega) (by rw [hall, List.length_take]; have := Hl.out; omega)
                have hsc : ∀ W A1 c1, Rb W W.heap.size A1 X.length c1 Y → Mx W → Calls Tryd.prog 21 #[.slice A1 X.length c1] W fun e w' => ∃ A2 c2, e = .returned (.tuple #[.slice A2 (Sm.ps Y).1.length c2, .int .i64 ((Sm.ps Y).2 : Int), .int .i64 3]) ∧ PL w' w'.heap.size A2 (Sm.ps Y).1.length c2 (Sm.ps Y).1 ∧ Below W.heap.size W w' := fun W A1 c1 h h2 => (scan_c A1 _ c1 _ W h (by omega) h2).mono fun e w' hp => by
                  obtain ⟨A2, c2, he, hp, hb⟩ := hp
                  rw [her] at he
                  exact ⟨A2, c2, he, hp.pl, hb⟩
                obtain ⟨T, hT⟩ : ∃ T, T = l.take m := ⟨_, rfl⟩
                have hTl : T.length = m := by rw [hT, List.length_take]; have := Hl.out; omega
                obtain ⟨p, hp⟩ : ∃ p, p = (Sm.ps Y).1.length := ⟨_, rfl⟩
                obtain ⟨P, hP⟩ : ∃ P, P = (Sm.ps Y).1 := ⟨_, rfl⟩
                obtain ⟨G, hG⟩ : ∃ G, G = (Sm.ps Y).2 := ⟨_, rfl⟩
                rw [← hp, ← hP] at hal
                rw [← hp, ← hP, ← hG] at hsc
                rw [← hG] at hgood
                rw [← hT] at hal
                have hmn : m ≤ n := by have := Hl.out; omega
                have hTz : ∀ r ∈ T, r.length ≤ 1000000 := fun r hr => Hlz.out r (List.mem_of_mem_take (hT ▸ hr))
                have hrt : ∀ W, RL W W.heap.size A n c l → RL W W.heap.size A m c T := fun W h => by rw [hT]; exact h.take hmn
                have hsl := sl0 A n c m hmn hnc
                have hal' : ∀ W A1 c1, PL W W.heap.size A1 p c1 P → Calls Tryd.prog 23 #[.slice A1 p c1] W (fun e w' => ∃ A c, e = .returned (.slice A m c) ∧ RL w' w'.heap.size A m c T ∧ Below W.heap.size W w') := fun W A1 c1 h => by have := hal W A1 c1 h; unfold RetA at this; rw [hTl] at this; exact this
                have G1 := Lib.hid g1; have G2 := Lib.hid g2; have Hal := Lib.hid hal'; have Hsc := Lib.hid hsc; have Htz := Lib.hid hTz; have Hrt := Lib.hid hrt; have HY := Lib.hid hY
                have hmn2 : ¬ (n : Int) < (m : Int) := by omega
                have hGk : (G : Int) ≤ (k : Int) := by omega
                clear hx255 g1 e255 hy255 g2 hal hal' hsc hTz hT hTl hp hP hG hall her hYl hpn hY hrt hm
                go_enter Tryd.func7, Tryd.ntmps7
                go_wp2_with fail
                refine Hfew.out.mono ?_
                rintro e w1 ⟨rfl, rfl⟩
                go_wp2_with fail
                refine Hwr.out.mono ?_
                rintro e w2 ⟨A2, c2, rfl, hw2, hb2⟩
                obtain ⟨g, rfl, hg1, hg2, hcell, hfrz⟩ := hw2.cell Hxx.out
                obtain ⟨w3, hw3⟩ : ∃ w3, w3 = w2.setCell ⟨g, k, none⟩ (.int .u8 (y.toNat : Int)) := ⟨_, rfl⟩
                have hb3 : Below w.heap.size w w3 := by rw [hw3]; exact hb2.setCell (p := ⟨g, k, none⟩) hg1 _
                have hr3 : Rb w3 w3.heap.size (some ⟨g, 0, none⟩) X.length c2 Y := by
                  have h1 := hw2.1.setAt k y hk
                  rw [HY.out, hw3]
                  exact h1.more (by simp)
                have Hr3 := Lib.hid hr3; have Hw3 := Lib.hid hw3
                clear hw2 hr3 hw3
                have g1 := G1.out
                have g2 := G2.out
                go_wp2_with fail
                rw [← Hw3.out]
                refine (Hsc.out w3 _ c2 Hr3.out (Hx.out.below' hb3)).mono ?_
                rintro e w4 ⟨A4, c4, rfl, hp4, hb4⟩
                have z3 := hb3.size
                have z4 := hb4.size
                have Hp4 := Lib.hid hp4; clear hp4
                go_wp2_with fail
                refine (Hal.out w4 A4 c4 Hp4.out).mono ?_
                rintro e w5 ⟨A5, c5, rfl, hp5, hb5⟩
                have z5 := hb5.size
                have b5 := (hb3.trans (hb4.mono z3)).trans (hb5.mono (by omega))
                have Hp5 := Lib.hid hp5; clear hp5
                go_wp2_with fail
                refine (recs_c A5 A m c5 c _ _ Hp5.out (Hrt.out _ ((Hr.out.below b5).more (by omega))) (by omega) Htz.out).mono ?_
                rintro e w6 ⟨rfl, qq, hw6⟩
                have b6 : Below w.heap.size w w6 := by rw [hw6]; exact below_drewN b5 qq
                clear hw6
                go_wp2_with fail
                refine (alive_c _ (Hx.out.below' b6)).mono ?_
                rintro e w7 ⟨rfl, hb7⟩
                have bz := b6.trans (hb7.mono b6.size)
                go_wp2
                go_ret
                exact ⟨rfl, bz⟩
      · rw [hs] at hwr
        have Hfew := Lib.hid hfew; have Hx := Lib.hid hx; have Hat := Lib.hid hat; have Hwr := Lib.hid hwr
        clear hfew hx hz hf hlz hat hwr hs hok hl hr hby
        go_enter Tryd.func7, Tryd.ntmps7
        go_wp2_with fail
        refine Hfew.out.mono ?_
        rintro e w1 ⟨rfl, rfl⟩
        go_wp2_with fail
        refine Hwr.out.mono ?_
        rintro e w2 ⟨A2, c2, rfl, hw2, hb2⟩
        clear hw2
        go_wp2_with fail
        refine (alive_c _ (Hx.out.below' hb2)).mono ?_
        rintro e w3 ⟨rfl, hb3⟩
        have bz := hb2.trans (hb3.mono hb2.size)
        go_wp2
        go_ret
        exact ⟨rfl, bz⟩
  · rw [decide_eq_false hf] at hfew
    have Hfew := Lib.hid hfew; have Hx := Lib.hid hx
    clear hfew hx hr hz hf hl hlz hat hby
    go_enter Tryd.func7, Tryd.ntmps7
    go_wp2_with fail
    refine Hfew.out.mono ?_
    rintro e w1 ⟨rfl, rfl⟩
    go_wp2_with fail
    refine (alive_c _ Hx.out).mono ?_
    rintro e w2 ⟨rfl, hb2⟩
    go_wp2
    go_ret
    exact ⟨rfl, hb2⟩
end Go.Proofs.YtddnlimkaagpdaaDoor
