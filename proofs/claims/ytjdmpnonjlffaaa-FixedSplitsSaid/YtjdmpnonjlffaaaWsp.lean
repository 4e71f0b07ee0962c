/-
  The walk of the law FixedSplits.
-/
import Derived.Test.YtjdmpnonjlffaaaYb
import Derived.Test.YtjdmpnonjlffaaaVc
import Derived.Deep.RegionHeld3
namespace Go.Proofs.Ytjdmpnonjlffaaa
open Go.RowKit Go.Maps

theorem rrs_one {w : World} {S : Nat → Prop} {vs : List Value} {l : List (List (List UInt8))} (h : RrsS w S vs l) : ∀ v ∈ vs, v.oneCell' = true := fun v hv => by
  obtain ⟨j, hj, rfl⟩ := List.getElem_of_mem hv
  obtain ⟨A, n, c, e, _⟩ := h.2 j _ (l[j]'(by rw [← h.1]; exact hj)) (List.getElem?_eq_getElem hj) (List.getElem?_eq_getElem (by rw [← h.1]; exact hj))
  rw [e]; rfl
def SplRel (base V kk : Nat) (w : World) (l : List UInt8) (L : List Int) (o g i : Value) (wr : World) : Prop :=
  ∃ A c vs done, ∃ k K a : Nat, o = .slice A done.length c ∧ g = .bool (decide (V < a)) ∧ i = .int .i64 (K : Int) ∧ K = k + 1 ∧ K ≤ L.length ∧ Oc 1 wr 43 base A done.length c vs ∧ RrsS wr (Sf base wr A) vs (done.map Tm.rc) ∧ L[k]? = some (a : Int) ∧ done = Fx.rd l kk 0 a ∧ Below base w wr

theorem big_cases {n m : Nat} {k : Int} (h : 3000 < n ∨ 100 < m ∨ k < 1 ∨ 1000 < k) :
    decide ((3000 : Int) < (n : Int)) = true ∨ decide ((3000 : Int) < (n : Int)) = false ∧ decide ((100 : Int) < (m : Int)) = true ∨ decide ((3000 : Int) < (n : Int)) = false ∧ decide ((100 : Int) < (m : Int)) = false ∧ decide (k < 1) = true ∨
      decide ((3000 : Int) < (n : Int)) = false ∧ decide ((100 : Int) < (m : Int)) = false ∧ decide (k < 1) = false ∧ decide (1000 < k) = true := by
  simp; omega
set_option maxRecDepth 100000 in
theorem fixedSplits_big (A A' : Option Addr) (n c m d : Nat) (k : Int) (w : World) (h : 3000 < n ∨ 100 < m ∨ k < 1 ∨ 1000 < k) :
    Calls Try.prog 7 #[.slice A n c, .slice A' m d, .int .i64 k] w fun e w' => e = .returned (.bool true) ∧ Below w.heap.size w w' := by
  rcases big_cases h with d1 | ⟨d1, d2⟩ | ⟨d1, d2, d3⟩ | ⟨d1, d2, d3, d4⟩ <;> clear h
  all_goals
    go_enter Try.func7, Try.ntmps7
    go_wp2_with fail
    refine (alive_c _).mono ?_
    rintro e w2 ⟨rfl, hb2⟩
    go_wp2
    go_ret
    exact ⟨rfl, hb2⟩

set_option maxRecDepth 100000 in
set_option maxHeartbeats 8000000 in
theorem fixedSplits_walk (A : Option Addr) (n c : Nat) (l : List UInt8) (A' : Option Addr) (m d : Nat) (cs : List Int) (k : Int) (w : World) (hr : Rb w w.heap.size A n c l) (hc : Rc 1 w w.heap.size A' m d (cs.map fun x => Value.int .i64 x)) (_hk : I64 k) :
    Calls Try.prog 7 #[.slice A n c, .slice A' m d, .int .i64 k] w fun e w' => e = .returned (.bool true) ∧ Below w.heap.size w w' := by
  obtain rfl := hr.len
  have hmax : l.length ≤ 9223372036854775807 := by have h2 := hr.2.1; have h3 := hr.2.2.1; unfold maxLen at h3; omega
  have hmax2 : m ≤ 9223372036854775807 := by have h2 := hc.2.1; have h3 := hc.2.2.1; unfold maxLen at h3; omega
  by_cases hbig : 3000 < l.length ∨ 100 < m ∨ k < 1 ∨ 1000 < k
  · exact fixedSplits_big A A' _ c m d k w hbig
  · have hn : l.length ≤ 3000 := by omega
    have hm : m ≤ 100 := by omega
    obtain ⟨kk, rfl⟩ : ∃ kk : Nat, k = (kk : Int) := ⟨k.toNat, by omega⟩
    have hk1 : 1 ≤ kk := by omega
    have hk2 : kk ≤ 1000 := by omega
    have d1 : decide ((3000 : Int) < (l.length : Int)) = false := by simp; omega
    have d2 : decide ((100 : Int) < (m : Int)) = false := by simp; omega
    have d3 : decide ((kk : Int) < 1) = false := by simp; omega
    have d4 : decide ((1000 : Int) < (kk : Int)) = false := by simp; omega
    obtain ⟨L, hL⟩ : ∃ L, L = Tm.cuts l.length cs := ⟨_, rfl⟩
    have hcu : ∀ W, Rc 1 W w.heap.size A' m d (ivs cs) → w.heap.size ≤ W.heap.size → Calls Try.prog 26 #[.int .i64 (l.length : Int), .slice A' m d] W (RetI W L) := fun W h hB => by rw [hL]; exact cuts_c A' l.length m d w.heap.size cs W h hB (by omega)
    have hrise := Tm.cuts_rise l.length cs
    have htwo : ∀ i, i + 1 < L.length → ∃ a b : Nat, L[i]? = some (a : Int) ∧ L[i + 1]? = some (b : Int) ∧ a ≤ b ∧ b ≤ l.length := by rw [hL]; exact Tm.cuts_two l.length cs
    have hlen := Tm.cuts_len l.length cs
    rw [← hL] at hrise hlen
    obtain ⟨hr0, _, _, hrl⟩ := hrise
    obtain ⟨P, hP⟩ : ∃ P, P = Fx.ch l kk := ⟨_, rfl⟩
    obtain ⟨V, hV⟩ : ∃ V, V = l.length / kk * kk := ⟨_, rfl⟩
    obtain ⟨E, hE⟩ : ∃ E, E = scE l.length kk := ⟨_, rfl⟩
    have hE2 : E = if V < l.length then 2 else 0 := by rw [hE, hV]; rfl
    have hVe := Fx.vs_eq l.length kk
    have hVl := Fx.vs_le l.length kk
    rw [← hV] at hVe hVl
    have hPl := Fx.ch_le l kk
    have hsc : ∀ W, Rb W W.heap.size A l.length c l → Calls Try.prog 11 #[.slice A l.length c, .int .i64 (kk : Int)] W fun e w' => ∃ A c, e = .returned (.tuple #[.slice A P.length c, .int .i64 (V : Int), .int .i64 (E : Int)]) ∧ PL w' w'.heap.size A P.length c (P.map Tm.pc) ∧ Below W.heap.size W w' := fun W h => (scan_c A _ c kk _ W h (by omega) hk1 hk2).mono fun e w' hp => by
      obtain ⟨A1, c1, he, hp, hb⟩ := hp
      rw [← hP] at he hp
      rw [← hV, ← hE] at he
      exact ⟨A1, c1, he, hp.pl, hb⟩
    rw [← hP] at hPl
    have hmod := tmod_nat l.length kk
    have hml := Nat.mod_le l.length kk
    obtain ⟨M, hM⟩ : ∃ M, M = l.length % kk := ⟨_, rfl⟩
    rw [← hM] at hmod hVe hml
    have hk0 : (kk : Int) ≠ 0 := by omega
    have hw1 : IntKind.i64.wrap ((M : Nat) : Int) = (M : Int) := IntWalk.i64_in _ (by omega)
    have hw2 : IntKind.i64.wrap ((l.length : Int) - (M : Int)) = (V : Int) := by rw [IntWalk.i64_in _ (by omega)]; omega
    have Hr := Lib.hid hr; have Hc := Lib.hid hc; have Hcu := Lib.hid hcu; have H0 := Lib.hid hr0; have Hlast := Lib.hid hrl; have Htwo := Lib.hid htwo; have Hsc := Lib.hid hsc; have HP := Lib.hid hP; have HV := Lib.hid hV; have HE2 := Lib.hid hE2; have Hmod := Lib.hid hmod; have Hw1 := Lib.hid hw1; have Hw2 := Lib.hid hw2; have HVe := Lib.hid hVe
    clear hr hc hcu hr0 hrl htwo hL hsc hP hV hE hE2 hmod hw1 hw2 hVe hM hbig
    go_enter Try.func7, Try.ntmps7
    go_wp2_with fail
    refine (Hsc.out _ Hr.out).mono ?_
    rintro e w0 ⟨A0, c0, rfl, hp0, hb0⟩
    have z0 := hb0.size
    have hc0 := Hc.out.below hb0
    have HP0 := Lib.hid hp0; have Hc0 := Lib.hid hc0; clear hp0 hc0
    go_wp2_with fail
    refine (Hcu.out _ Hc0.out z0).mono ?_
    rintro e w1 ⟨A1, c1, rfl, hown1, hb1⟩
    have z1 := hb1.size
    have hb01 : Below w.heap.size w w1 := hb0.trans (hb1.mono z0)
    have hr1 := (Hr.out.below hb01).more (show w.heap.size ≤ w1.heap.size by omega)
    have hp1 := (HP0.out.below hb1).more z1
    have Hown1 := Lib.hid hown1.rc; have Hr1 := Lib.hid hr1; have HP1 := Lib.hid hp1; clear hown1 hr1 hp1
    go_wp2
    clear d1 d2 d3 d4
    go_loopw [11, 12, 13] (fun o g i wr => SplRel w1.heap.size V kk w1 l L o g i wr) (fun _ _ i _ => L.length - (intOf i).toNat)
    case atStart => exact ⟨some ⟨w1.heap.size, 0, none⟩, 0, [], [], 0, 1, 0, rfl, by simp, rfl, rfl, hlen.1, Oc.made0 1 _ _, RrsS.nil, H0.out, (Fx.rd_nil l kk hk1).symm, (Below.refl _ _).alloc (Nat.le_refl _) _⟩
    case round =>
      obtain ⟨A3, c3, vs, done, k, K, a, rfl, rfl, rfl, hK, hKL, hown, hps, hka, hdone, hbel⟩ := hrel
      have z3 := hbel.size
      rename World => wr
      have hdl : done.length ≤ l.length := by rw [hdone]; exact Fx.rd_le _ _ _ _
      obtain ⟨s, hs⟩ : ∃ s, s = decide (V < a) := ⟨_, rfl⟩
      rw [← hs]
      by_cases hlt : K < L.length
      · obtain ⟨a', b, ha', hb', hab, hbn⟩ := Htwo.out k (by omega)
        obtain rfl : a = a' := by rw [hka] at ha'; injection ha' with ha'; omega
        have hi1 := Hown1.out.below hbel
        obtain ⟨bb, off, x, rfl, hbb, hcx, hx⟩ := hi1.int (k := k) (by omega)
        obtain ⟨bb2, off2, y, e2, _, hcy, hy⟩ := hi1.int (k := K) hlt
        injection e2 with e2
        injection e2 with e21 e22 _
        subst e21 e22
        obtain rfl : x = (a : Int) := by rw [hka] at hx; injection hx with hx; exact hx.symm
        obtain rfl : y = (b : Int) := by rw [hK, hb'] at hy; injection hy with hy; exact hy.symm
        have hrr := (Hr1.out.below hbel).more z3
        have hsp := Fx.rd_split l kk 0 a b (Nat.zero_le _) hab
        rw [← hdone] at hsp
        obtain ⟨R, hR⟩ : ∃ R, R = (Fx.rd l kk a b).map Tm.rc := ⟨_, rfl⟩
        have hRl : R.length ≤ l.length := by rw [hR, List.length_map]; exact Fx.rd_le _ _ _ _
        obtain ⟨E2, hEE⟩ : ∃ E2, E2 = rdE l.length kk b := ⟨_, rfl⟩
        obtain ⟨s2, hs2⟩ : ∃ s2, s2 = decide (V < b) := ⟨_, rfl⟩
        have hrd : ∀ W, Rb W W.heap.size A l.length c l → Calls Try.prog 15 #[.slice A l.length c, .int .i64 (a : Int), .int .i64 (b : Int), .int .i64 (kk : Int)] W (RetR W R E2) := fun W h => by rw [hR, hEE]; exact read_ok A _ c kk l a b W h (by omega) hk1 hk2 hab hbn
        have hthree : s = true ∧ E2 = 2 ∧ s2 = true ∨ s = false ∧ E2 = 2 ∧ s2 = true ∨ s = false ∧ E2 = 0 ∧ s2 = false := by
          have h1 : E2 = if V < b then 2 else 0 := by rw [hEE, HV.out]; rfl
          by_cases hva : V < a
          · have hvb : V < b := by omega
            rw [if_pos hvb] at h1
            exact .inl ⟨by rw [hs]; simpa using hva, h1, by rw [hs2]; simpa using hvb⟩
          · by_cases hvb : V < b
            · rw [if_pos hvb] at h1
              exact .inr (.inl ⟨by rw [hs]; simpa using hva, h1, by rw [hs2]; simpa using hvb⟩)
            · rw [if_neg hvb] at h1
              exact .inr (.inr ⟨by rw [hs]; simpa using hva, h1, by rw [hs2]; simpa using hvb⟩)
        obtain ⟨D2, hD2⟩ : ∃ D2, D2 = Fx.rd l kk 0 b := ⟨_, rfl⟩
        have hD2l : D2.length = done.length + R.length := by rw [hD2, hsp, List.length_append, hR, List.length_map]
        have hD2m : D2.map Tm.rc = done.map Tm.rc ++ R := by rw [hD2, hsp, List.map_append, hR]
        have Hrr := Lib.hid hrr; have Hrd := Lib.hid hrd; have HD2 := Lib.hid hD2; have HD2l := Lib.hid hD2l; have HD2m := Lib.hid hD2m; have Hown := Lib.hid hown; have Hps := Lib.hid hps; have Hkb := Lib.hid hb'; have HK := Lib.hid hK; have Hs2 := Lib.hid hs2
        have hK1 : 1 ≤ K := by omega
        have hKk : k < L.length := by omega
        clear hrr hrd hD2 hD2l hD2m hown hps hb' hR hsp hdone hka ha' hx hy hi1 hs hs2 hEE
        have q1 : IntKind.i64.wrap ((K : Int) - 1) = (K : Int) - 1 := IntWalk.i64_in _ (by omega)
        have q2 : 0 ≤ (K : Int) - 1 := by omega
        have q3 : ((K : Int) - 1).toNat = k := by have := HK.out; omega
        have q4 : (K : Int) - 1 < (L.length : Int) := by omega
        have q5 : (1 : Int) ≤ (K : Int) := by omega
        have q6 : (0 : Int) ≤ (K : Int) := by omega
        have q7 : (K : Int) < (L.length : Int) := by omega
        clear hK
        have hbb' : bb < wr.heap.size := by omega
        rcases hthree with ⟨rfl, rfl, rfl⟩ | ⟨rfl, rfl, rfl⟩ | ⟨rfl, rfl, rfl⟩
        all_goals
          go_wp2_with fail
          go_region_held3 (fun w' => w'.cell? ⟨bb, off + k, none⟩ = some (.int .i64 (a : Int)) ∧ w'.cell? ⟨bb, off + K, none⟩ = some (.int .i64 (b : Int))) (go_keep) ((go_at_call 15; (with_reducible refine (Hrd.out _ ?_).mono ?_); exact Hrr.out; rintro e w4 ⟨A4, c4, rfl, hp4, hb4⟩; have hb4' : Below wr.heap.size wr w4 := ⟨hb4.os, hb4.tape, hb4.output, hb4.size, hb4.block⟩; have f0 : w4.cell? ⟨bb, off + k, none⟩ = some (.int .i64 (a : Int)) := (hb4'.cell (p := ⟨bb, off + k, none⟩) hbb').trans hcx; have f1 : w4.cell? ⟨bb, off + K, none⟩ = some (.int .i64 (b : Int)) := (hb4'.cell (p := ⟨bb, off + K, none⟩) hbb').trans hcy))
          clear q1 q2 q3 q4 q5 q6 q7 f0 f1
          have z4 := hb4'.size
          obtain ⟨us, hu1, hu2⟩ := hp4
          have h1 := rrs_one hu2
          have hown4 := Hown.out.keep hb4'
          have hlt3 := oc_lt Hown.out
          have hps4 := (Hps.out.keep (sf_below hb4')).append (hu2.keep (stays_weak (S' := Sf w1.heap.size w4 A3) fun g hg => ⟨Nat.le_trans z3 hg.1, hg.2, fun e => by have := hlt3 g e.symm; have := hg.1; simp at this; omega⟩))
          have hu1' : Rc 1 w4 w4.heap.size A4 R.length c4 us := (hu1.keep (stays_weak fun g hg => hg.2)).rc
          have H1 := Lib.hid h1; have Hu := Lib.hid hu1'; have Hown4 := Lib.hid hown4; have Hps4 := Lib.hid hps4; clear h1 hu1 hu1' hu2 hown4 hps4 hlt3
          go_wp2_with (at_builtin; go_must (refine Sl.wpAppAt rty rfl (.tmp 77) (.tmp 78) rfl (n := done.length) (m := R.length) (N := done.length + R.length) (ws := vs ++ us) rfl rfl Hown4.out Hu.out H1.out rfl rfl ?hs4 ?hs5 ?hs6 ?_))
          case hs4 => omega
          case hs5 => omega
          case hs6 => omega
          intro A8 c8 w8 hown8 hg8
          have b8 := (hbel.trans (hb4'.mono z3)).trans (hg8.belowC Hown4.out (by omega))
          have hps8 := Hps4.out.keep (sf_grow hg8)
          have Hown8 := Lib.hid hown8; have Hps8 := Lib.hid hps8; clear hown8 hps8 hg8
          go_wp2
          go_roundw
          case rel => exact ⟨A8, c8, vs ++ us, D2, K, K + 1, b, by rw [HD2l.out], by rw [← Hs2.out], by go_num, rfl, hlt, by rw [HD2l.out]; exact Hown8.out, by rw [HD2m.out]; exact Hps8.out, Hkb.out ▸ HK.out ▸ rfl, HD2.out, b8⟩
          case measure => simp [intOf]; omega
      · have hKe : K = L.length := by omega
        have han : a = l.length := by
          have h := Hlast.out
          rw [List.getLast?_eq_getElem?, show L.length - 1 = k by omega, hka] at h
          injection h with h
          omega
        have hfin : done.map Tm.rc = P.map Tm.rc := by rw [hdone, han, Fx.rd_all l kk hk1, HP.out]
        have hdl2 : done.length = P.length := by rw [hdone, han, Fx.rd_all l kk hk1, HP.out]
        have hrl0 : RL wr wr.heap.size A3 P.length c3 (P.map Tm.rc) := by
          rw [← hdl2, ← hfin]
          exact ⟨vs, hown.rc, hps.keep (stays_weak fun g hg => hg.2.1)⟩
        have hpp := (HP1.out.below hbel).more z3
        have htwo2 : s = true ∧ E = 2 ∨ s = false ∧ E = 0 := by
          have h1 := HE2.out
          rw [hs, han]
          by_cases hv : V < l.length
          · rw [if_pos hv] at h1
            exact .inl ⟨by simpa using hv, h1⟩
          · rw [if_neg hv] at h1
            exact .inr ⟨by simpa using hv, h1⟩
        rw [hdl2]
        have Hrl := Lib.hid hrl0; have Hpp := Lib.hid hpp
        clear hka hdone hown hps hfin hdl2 hrl0 hpp han hs
        have hmod := Hmod.out
        have hw1 := Hw1.out
        have hw2 := Hw2.out
        rcases htwo2 with ⟨rfl, rfl⟩ | ⟨rfl, rfl⟩
        all_goals
          go_wp2_with fail
          refine (alive_c _).mono ?_
          rintro e w5 ⟨rfl, hb5⟩
          have z5 := hb5.size
          have hp5 := (Hpp.out.below hb5).more z5
          have Hp5 := Lib.hid hp5; clear hp5
          go_wp2_with fail
          refine (rall_c A0 P.length c0 (P.map Tm.pc) _ Hp5.out (by omega) (by rw [Tm.all_pc, List.length_map]; omega)).mono ?_
          rw [Tm.all_pc]
          rintro e w6 ⟨A6, c6, rfl, hp6, hb6⟩
          have z6 := hb6.size
          have br6 : Below wr.heap.size wr w6 := hb5.trans (hb6.mono (by omega))
          have hq3 := (Hrl.out.below br6).more (show wr.heap.size ≤ w6.heap.size by omega)
          have Hq3 := Lib.hid hq3; have Hp6 := Lib.hid hp6; clear hq3 hp6
          go_wp2_with fail
          refine (recs_c A3 A6 P.length c3 c6 (P.map Tm.rc) _ Hq3.out (by have := Hp6.out; rwa [List.length_map] at this) (by omega) (rc_small P)).mono ?_
          rintro e w7 ⟨rfl, q, rfl⟩
          have bz : Below w.heap.size w w6 := (hb01.trans (hbel.mono (by omega))).trans (br6.mono (by omega))
          go_wp2
          go_ret
          exact ⟨rfl, below_drewN bz q⟩
end Go.Proofs.Ytjdmpnonjlffaaa
