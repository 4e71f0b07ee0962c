/-
  The walk of the law ChestSplits.
-/
import Derived.Test.YtplkjljhpmldfaaJ34
import Derived.Test.YtplkjljhpmldfaaJ46
import Derived.Test.YtplkjljhpmldfaaJ48
import Derived.Test.YtplkjljhpmldfaaJ43
import Derived.Deep.RegionHeld3
namespace Go.Proofs.Ytplkjljhpmldfaa
open Go.RowKit

def SplRel (base : Nat) (w : World) (l : List UInt8) (L : List Int) (o x i : Value) (wr : World) : Prop :=
  ∃ A c vs done, ∃ k K a : Nat, o = .slice A (List.length done) c ∧ x = .bool (decide ((Hm.scS l).2.1 < a)) ∧ i = .int .i64 (K : Int) ∧ K = k + 1 ∧ K ≤ L.length ∧ Oc 1 wr 48 base A (List.length done) c vs ∧ RrsS wr (Sf base wr A) vs done ∧ L[k]? = some (a : Int) ∧ done = Hm.rd l 0 a ∧ Below base w wr

set_option maxRecDepth 100000 in
theorem chestSplits_big (A A' : Option Addr) (n c m d : Nat) (w : World) (hn : n ≤ 9223372036854775807) (hm : m ≤ 9223372036854775807) (h : 1500 < n ∨ 100 < m ∨ n = 0) :
    Calls Try.prog 5 #[.slice A n c, .slice A' m d] w fun e w' => e = .returned (.bool true) ∧ Below w.heap.size w w' := by
  by_cases h1 : 1500 < n
  · clear h
    have d1 : decide ((1500 : Int) < (n : Int)) = true := by simp; omega
    go_enter Try.func5, Try.ntmps5
    go_wp2_with fail
    refine (alive_c _).mono ?_
    rintro e w2 ⟨rfl, hb2⟩
    go_wp2
    go_ret
    exact ⟨rfl, hb2⟩
  · have d1 : decide ((1500 : Int) < (n : Int)) = false := by simp; omega
    by_cases h2 : 100 < m
    · clear h
      have d2 : decide ((100 : Int) < (m : Int)) = true := by simp; omega
      go_enter Try.func5, Try.ntmps5
      go_wp2_with fail
      refine (alive_c _).mono ?_
      rintro e w2 ⟨rfl, hb2⟩
      go_wp2
      go_ret
      exact ⟨rfl, hb2⟩
    · obtain rfl : n = 0 := by omega
      clear h
      have d2 : decide ((100 : Int) < (m : Int)) = false := by simp; omega
      go_enter Try.func5, Try.ntmps5
      go_wp2_with fail
      refine (alive_c _).mono ?_
      rintro e w2 ⟨rfl, hb2⟩
      go_wp2
      go_ret
      exact ⟨rfl, hb2⟩

set_option maxRecDepth 100000 in
set_option maxHeartbeats 4000000 in
theorem chestSplits_walk (A : Option Addr) (n c : Nat) (l : List UInt8) (A' : Option Addr) (m d : Nat) (cs : List Int) (w : World) (hr : Rb w w.heap.size A n c l) (hc : Rc 1 w w.heap.size A' m d (cs.map fun x => Value.int .i64 x)) :
    Calls Try.prog 5 #[.slice A n c, .slice A' m d] w fun e w' => e = .returned (.bool true) ∧ Below w.heap.size w w' := by
  obtain rfl := hr.len
  have hmax : l.length ≤ 9223372036854775807 := by have h2 := hr.2.1; have h3 := hr.2.2.1; unfold maxLen at h3; omega
  have hmax2 : m ≤ 9223372036854775807 := by have h2 := hc.2.1; have h3 := hc.2.2.1; unfold maxLen at h3; omega
  by_cases hbig : 1500 < l.length ∨ 100 < m ∨ l.length = 0
  · exact chestSplits_big A A' _ c m d w hmax hmax2 hbig
  · have hn : l.length ≤ 1500 := by omega
    have hn0 : 0 < l.length := by omega
    have hm : m ≤ 100 := by omega
    have d1 : decide ((1500 : Int) < (l.length : Int)) = false := by simp; omega
    have d2 : decide ((100 : Int) < (m : Int)) = false := by simp; omega
    have d3 : ((l.length : Int) == 0) = false := by rw [beq_eq_false_iff_ne]; omega
    obtain ⟨L, hL⟩ : ∃ L, L = Tm.cuts l.length cs := ⟨_, rfl⟩
    have hcu : ∀ W, Rc 1 W w.heap.size A' m d (ivs cs) → w.heap.size ≤ W.heap.size → Calls Try.prog 17 #[.int .i64 (l.length : Int), .slice A' m d] W (RetI W L) := fun W h hB => by rw [hL]; exact cuts_c A' l.length m d w.heap.size cs W h hB (by omega)
    have hrise := Tm.cuts_rise l.length cs
    have htwo : ∀ i, i + 1 < L.length → ∃ a b : Nat, L[i]? = some (a : Int) ∧ L[i + 1]? = some (b : Int) ∧ a ≤ b ∧ b ≤ l.length := by rw [hL]; exact Tm.cuts_two l.length cs
    have hlen := Tm.cuts_len l.length cs
    rw [← hL] at hrise hlen
    obtain ⟨hr0, _, _, hrl⟩ := hrise
    obtain ⟨_, _, hls, hgood, her0⟩ := Hm.scS_facts l
    have hall := Hm.scS_all l
    have hrda := Hm.rd_all l
    obtain ⟨P, hP⟩ : ∃ P, P = (Hm.scS l).1 := ⟨_, rfl⟩
    obtain ⟨G, hG⟩ : ∃ G, G = (Hm.scS l).2.1 := ⟨_, rfl⟩
    obtain ⟨E, hE⟩ : ∃ E, E = (Hm.scS l).2.2 := ⟨_, rfl⟩
    have her : (E = 0 ∧ G = l.length) ∨ (E = 3 ∧ G < l.length) := by
      rw [← hG, ← hE] at her0
      omega
    have hsc := scan_c A l.length c l w hr (by omega)
    unfold RetSc at hsc
    have hread : ∀ W (a b : Nat), Rb W W.heap.size A l.length c l → a ≤ b → b ≤ l.length → Calls Try.prog 10 #[.slice A l.length c, .int .i64 (a : Int), .int .i64 (b : Int), .int .i64 (G : Int)] W (RetRE W (Hm.rd l a b) (if G < b then 3 else 0)) := fun W a b h h1 h2 => read_ok A _ c l a b G W h h1 h2 (by omega) hG
    rw [← hG, ← hE, ← hP] at hsc
    rw [← hP] at hls hall hrda
    rw [← hG] at hgood
    obtain ⟨hal1, hal2⟩ := hall
    have Hr := Lib.hid hr; have Hc := Lib.hid hc; have Hcu := Lib.hid hcu; have H0 := Lib.hid hr0; have Hlast := Lib.hid hrl; have Htwo := Lib.hid htwo; have Hsc := Lib.hid hsc; have HG := Lib.hid hG; have Her := Lib.hid her; have Hread := Lib.hid hread; have Hrda := Lib.hid hrda; have Hal := Lib.hid hal2
    clear her0 hr hc hcu hr0 hrl htwo hL hsc hP hbig hG hE her hread hrda hal2
    go_enter Try.func5, Try.ntmps5
    go_wp2_with fail
    refine Hsc.out.mono ?_
    rintro e w0 ⟨A0, c0, rfl, hp0, hb0⟩
    have z0 := hb0.size
    have Hp0 := Lib.hid hp0.pl; clear hp0
    go_wp2_with fail
    refine (Hcu.out w0 (Hc.out.below hb0) z0).mono ?_
    rintro e w1 ⟨A1, c1, rfl, hown1, hb1⟩
    have z1 := hb1.size
    have bw1 : Below w.heap.size w w1 := hb0.trans (hb1.mono z0)
    have Hown1 := Lib.hid hown1.rc; have Hp1 := Lib.hid (Hp0.out.below hb1); clear hown1
    go_wp2
    go_loopw [9, 10, 11] (fun o x i wr => SplRel w1.heap.size w1 l L o x i wr) (fun _ _ i _ => L.length - (intOf i).toNat)
    case atStart => exact ⟨some ⟨w1.heap.size, 0, none⟩, 0, [], [], 0, 1, 0, rfl, rfl, rfl, rfl, hlen.1, Oc.made0 1 _ _, RrsS.nil, H0.out, (Hm.rd_zero l).symm, (Below.refl _ _).alloc (Nat.le_refl _) _⟩
    case round =>
      obtain ⟨A3, c3, vs, done, k, K, a, rfl, rfl, rfl, hK, hKL, hown, hps, hka, hdone, hbel⟩ := hrel
      have z3 := hbel.size
      rename World => wr
      clear d1 d2 d3
      have hdl : done.length ≤ 25000000 := by rw [hdone]; have := Hm.rd_len l 0 a; omega
      rw [← HG.out]
      have bwr := bw1.trans (hbel.mono (show w.heap.size ≤ w1.heap.size by omega))
      by_cases hlt : K < L.length
      · obtain ⟨a', b, ha', hb', hab, hbn⟩ := Htwo.out k (by omega)
        obtain rfl : a = a' := by rw [hka] at ha'; injection ha' with ha'; omega
        have hi1 := Hown1.out.below hbel
        obtain ⟨bb, off, x, rfl, hbb, hcx, hx⟩ := hi1.int (k := k) (by omega)
        obtain ⟨bb2, off2, y, e2, _, hcy, hy⟩ := hi1.int (k := K) hlt
        injection e2 with e2
        injection e2 with e21 e22 _
        subst e21 e22
        obtain rfl : x = (a : Int) := by rw [hka] at hx; injection hx with hx; exact hx.symm
        obtain rfl : y = (b : Int) := by rw [hK, hb'] at hy; injection hy with hy; exact hy.symm
        have hrr := (Hr.out.below bwr).more (show w.heap.size ≤ wr.heap.size by omega)
        have hsp := Hm.rd_split l 0 a b (Nat.zero_le _) hab
        rw [← hdone] at hsp
        obtain ⟨R, hR⟩ : ∃ R, R = Hm.rd l a b := ⟨_, rfl⟩
        have hRl : R.length ≤ 25000000 := by rw [hR]; have := Hm.rd_len l a b; omega
        obtain ⟨kk, hkk⟩ : ∃ kk : Int, kk = if G < b then 3 else 0 := ⟨_, rfl⟩
        have hrd : ∀ W, Rb W W.heap.size A l.length c l → Calls Try.prog 10 #[.slice A l.length c, .int .i64 (a : Int), .int .i64 (b : Int), .int .i64 (G : Int)] W (RetRE W R kk) := fun W h => by rw [hR, hkk]; exact Hread.out W a b h hab hbn
        obtain ⟨D2, hD2⟩ : ∃ D2, D2 = Hm.rd l 0 b := ⟨_, rfl⟩
        have hD2m : D2 = done ++ R := by rw [hD2, hsp, hR]
        have hD2l : D2.length = done.length + R.length := by rw [hD2m, List.length_append]
        have hkk2 : (decide (G < a) = true ∧ kk = 3 ∧ decide (G < b) = true) ∨ (decide (G < a) = false ∧ kk = 0 ∧ decide (G < b) = false) ∨ (decide (G < a) = false ∧ kk = 3 ∧ decide (G < b) = true) := by
          rw [hkk]
          by_cases h : G < b
          · rw [if_pos h]
            by_cases h2 : G < a
            · simp [h, h2]
            · simp [h, h2]
          · rw [if_neg h]
            have : ¬ G < a := by omega
            simp [h, this]
        have Hrr := Lib.hid hrr; have Hrd := Lib.hid hrd; have HD2 := Lib.hid hD2; have HD2l := Lib.hid hD2l; have HD2m := Lib.hid hD2m; have Hown := Lib.hid hown; have Hps := Lib.hid hps; have Hkb := Lib.hid hb'; have HK := Lib.hid hK; have Hkk := Lib.hid hkk2
        have hK1 : 1 ≤ K := by omega
        have hKk : k < L.length := by omega
        clear hrr hrd hD2 hD2l hD2m hown hps hb' hR hsp hdone hka ha' hx hy hi1 hkk hkk2
        have q1 : IntKind.i64.wrap ((K : Int) - 1) = (K : Int) - 1 := IntWalk.i64_in _ (by omega)
        have q2 : 0 ≤ (K : Int) - 1 := by omega
        have q3 : ((K : Int) - 1).toNat = k := by have := HK.out; omega
        have q4 : (K : Int) - 1 < (L.length : Int) := by omega
        have q5 : (1 : Int) ≤ (K : Int) := by omega
        have q6 : (0 : Int) ≤ (K : Int) := by omega
        have q7 : (K : Int) < (L.length : Int) := by omega
        clear hK
        have hbb' : bb < wr.heap.size := by omega
        go_wp2_with fail
        go_region_held3 (fun w' => w'.cell? ⟨bb, off + k, none⟩ = some (.int .i64 (a : Int)) ∧ w'.cell? ⟨bb, off + K, none⟩ = some (.int .i64 (b : Int))) (go_keep) (first | (go_at_call 10; (with_reducible refine (Hrd.out _ ?_).mono ?_); exact Hrr.out; rintro e w5 ⟨A5, c5, rfl, hp5, hb5⟩; have hb5' : Below wr.heap.size wr w5 := ⟨hb5.os, hb5.tape, hb5.output, hb5.size, hb5.block⟩; have g0 : w5.cell? ⟨bb, off + k, none⟩ = some (.int .i64 (a : Int)) := (hb5'.cell (p := ⟨bb, off + k, none⟩) hbb').trans hcx; have g1 : w5.cell? ⟨bb, off + K, none⟩ = some (.int .i64 (b : Int)) := (hb5'.cell (p := ⟨bb, off + K, none⟩) hbb').trans hcy))
        clear q1 q2 q3 q4 q5 q6 q7 g0 g1
        have z5 := hb5'.size
        have hp5' : RLS w5 (Fr wr.heap.size w5) A5 R.length c5 R := hp5
        obtain ⟨us, hu1, hu2⟩ := hp5'
        have h1 := rrs_one hu2
        have hown4 := Hown.out.keep hb5'
        have hlt3 : ∀ g, ob A3 = some g → g < wr.heap.size := fun g hg => (oc_ob Hown.out g hg).2
        have hps4 := (Hps.out.keep (sf_below hb5')).append (hu2.keep (stays_weak (S' := Sf w1.heap.size w5 A3) fun g hg => ⟨Nat.le_trans z3 hg.1, hg.2, fun e => by have := hlt3 g e.symm; have := hg.1; omega⟩))
        have hu1' : Rc 1 w5 w5.heap.size A5 R.length c5 us := (hu1.keep (stays_weak fun g hg => hg.2)).rc
        have H1 := Lib.hid h1; have Hu := Lib.hid hu1'; have Hown4 := Lib.hid hown4; have Hps4 := Lib.hid hps4; clear h1 hu1 hu1' hu2 hown4 hps4 hlt3
        have hb45 := hb5'
        rcases Hkk.out with ⟨ga, rfl, gb⟩ | ⟨ga, rfl, gb⟩ | ⟨ga, rfl, gb⟩
        all_goals
          have gb2 := gb
          rw [HG.out] at gb2
          have Gb := Lib.hid gb2
          clear gb gb2
          go_wp2_with (at_builtin; go_must (refine Sl.wpAppAt rty rfl (.tmp 71) (.tmp 72) rfl (n := done.length) (m := R.length) (N := done.length + R.length) (ws := vs ++ us) rfl rfl Hown4.out Hu.out H1.out rfl rfl ?hs4 ?hs5 ?hs6 ?_))
          case hs4 => omega
          case hs5 => omega
          case hs6 => omega
          intro A8 c8 w8 hown8 hg8
          have b8 := (hbel.trans (hb45.mono z3)).trans (hg8.belowC Hown4.out (by omega))
          have hps8 := Hps4.out.keep (sf_grow hg8)
          have Hown8 := Lib.hid hown8; have Hps8 := Lib.hid hps8; clear hown8 hps8 hg8
          go_wp2
          go_roundw
          case rel => exact ⟨A8, c8, vs ++ us, D2, K, K + 1, b, by rw [HD2l.out], by rw [Gb.out], by go_num, rfl, hlt, by rw [HD2l.out]; exact Hown8.out, by rw [HD2m.out]; exact Hps8.out, Hkb.out ▸ HK.out ▸ rfl, HD2.out, b8⟩
          case measure => simp [intOf]; omega
      · have hKe : K = L.length := by omega
        have han : a = l.length := by
          have h := Hlast.out
          rw [List.getLast?_eq_getElem?, show L.length - 1 = k by omega, hka] at h
          injection h with h
          omega
        have hfin : done = Tm.all P := by rw [hdone, han, Hrda.out]
        subst hfin
        obtain ⟨Q, hQ⟩ : ∃ Q, Q = Tm.all P := ⟨_, rfl⟩
        have hal : ∀ W A1 c1, PL W W.heap.size A1 P.length c1 P → Calls Try.prog 18 #[.slice A1 P.length c1] W (RetA W Q) := fun W A1 c1 h => by rw [hQ]; exact rall_c A1 P.length c1 P W h (by omega) (by omega)
        rw [← hQ] at hown hps hdl
        have hrl0 : RL wr wr.heap.size A3 Q.length c3 Q := ⟨vs, hown.rc, hps.keep (stays_weak fun g hg => hg.2.1)⟩
        have hpl := (Hp1.out.below (hbel.mono z1)).more (show w0.heap.size ≤ wr.heap.size by omega)
        rw [← hQ]
        have hQs : ∀ r ∈ Q, r.length ≤ 1000000 := by rw [hQ]; exact Hal.out
        have Hrl := Lib.hid hrl0; have Hpl := Lib.hid hpl; have Hall := Lib.hid hal; have Hqs := Lib.hid hQs
        have hcases : (E = 0 ∧ ((G : Int) == (l.length : Int)) = true ∧ decide (G < l.length) = false) ∨ (E = 3 ∧ ((G : Int) == (l.length : Int)) = false ∧ decide (G < l.length) = true) := by
          rcases Her.out with ⟨h1, h2⟩ | ⟨h1, h2⟩
          · exact .inl ⟨h1, by rw [h2]; simp, by simp; omega⟩
          · exact .inr ⟨h1, by rw [beq_eq_false_iff_ne]; omega, by simp; omega⟩
        clear hdone hown hps hrl0 hpl hka hal hQ hQs
        subst han
        rcases hcases with ⟨rfl, hGn, ga⟩ | ⟨rfl, hGn, ga⟩
        all_goals
          go_wp2_with fail
          refine (alive_c _).mono ?_
          rintro e w5 ⟨rfl, hb5⟩
          have z5 := hb5.size
          have hp5 := (Hpl.out.below hb5).more z5
          have Hp5 := Lib.hid hp5; clear hp5
          go_wp2_with fail
          refine (Hall.out _ _ _ Hp5.out).mono ?_
          rintro e w6 ⟨A6, c6, rfl, hp6, hb6⟩
          have z6 := hb6.size
          have br6 : Below wr.heap.size wr w6 := hb5.trans (hb6.mono z5)
          have hq3 := (Hrl.out.below br6).more (show wr.heap.size ≤ w6.heap.size by omega)
          have Hq3 := Lib.hid hq3; have Hp6 := Lib.hid hp6; clear hq3 hp6
          go_wp2_with fail
          refine (recs_big A3 A6 Q.length c3 c6 Q _ Hq3.out Hp6.out (by omega) Hqs.out).mono ?_
          rintro e w7 ⟨rfl, q, rfl⟩
          have bz : Below w.heap.size w w6 := bwr.trans (br6.mono (by omega))
          go_wp2
          go_ret
          exact ⟨rfl, below_drewN bz q⟩
end Go.Proofs.Ytplkjljhpmldfaa
