import Derived.Test.YtkekmokdlgocaaaGreatDoorJW30
import Derived.Test.YtkekmokdlgocaaaGreatDoorJW8
set_option maxRecDepth 100000
set_option maxHeartbeats 4000000
namespace Go.Proofs.YtkekmokdlgocaaaGreatDoor.Cht
open Go.RowKit
theorem openT_kinds (l : List UInt8) : (∃ o, Cm.openS Cm.tab l = (o, 0) ∧ Hm.opn l = some o ∧ o.length ≤ l.length) ∨ (∃ x, Cm.openS Cm.tab l = ([], x) ∧ x ≠ 0 ∧ x ≤ 4 ∧ Hm.opn l = none) := by
 have ht : Cm.tab.length = 256 := Cm.tab_len
 by_cases h2 : l.length < 4
 ·exact .inr ⟨2, openS_short _ l ht h2, by omega, by omega, Hm.opn_no (openS_short _ l ht h2) (by omega)⟩
 ·by_cases h3 : l.drop (l.length - 4) = Cm.four (Cm.sum Cm.tab (l.take (l.length - 4)))
  ·have h := openS_ok _ l ht h2 h3
   exact .inl ⟨_, h, Hm.opn_ok h, Hm.opn_len (Hm.opn_ok h)⟩
  ·have h := openS_no _ l ht h2 h3
   exact .inr ⟨4, h, by omega, by omega, Hm.opn_no h (by omega)⟩
theorem indexOf_c (At A : Option Addr) (ct n c : Nat) (l : List UInt8) (w : World) (ht : Rn w w.heap.size At 256 ct Cm.tab) (hr : Rb w w.heap.size A n c l) (hn : n ≤ 900000) :
  Calls Tryz.prog 105 #[.slice At 256 ct, .slice A n c] w (RetTe w (Hm.ix l)) := by
 have hl := hr.len
 obtain ⟨w1, hw1⟩ : ∃ w1, w1 = w.alloc (.cells #[.int .u8 67, .int .u8 72, .int .u8 83, .int .u8 84] 5 (4, 5)) := ⟨_, rfl⟩
 have b1 : Below w.heap.size w w1 := by rw [hw1]; exact ej _ _
 have z1 : w1.heap.size = w.heap.size + 1 := by rw [hw1]; simp
 have hlit : Rb w1 (w.heap.size + 1) (some ⟨w.heap.size, 0,none⟩) 4 4 Hm.tl := by rw [hw1]; exact Rb.lit w _ _ _ _ 4 rfl rfl (by omega)
 have hcv : (convert 22 22 (.slice (some ⟨w.heap.size, 0,none⟩) 4 4)).run Tryz.prog (w.alloc (.cells #[.int .u8 67, .int .u8 72, .int .u8 83, .int .u8 84] 5)) = .ok (.slice (some ⟨w.heap.size, 0,none⟩) 4 4) w1 := by
  rw [hw1]; exact Lib.run_convert_bytes_const (P := Tryz.prog) w 22 5 #[.int .u8 67, .int .u8 72, .int .u8 83, .int .u8 84] 4 4 Tryz.underlying22 Tryz.underlying5
 have hr1 := hr.below b1
 have z1' : w.heap.size ≤ w1.heap.size := by omega
 have ht1 : Rn w1 w1.heap.size At 256 ct Cm.tab := (ht.below b1).more z1'
 clear ht
 by_cases hcut : 4 ≤ n ∧ l.drop (n - 4) = Hm.tl
 ·have hc := cuts_yes A (some ⟨w.heap.size, 0,none⟩) n c 4 4 _ _ l Hm.tl w1 hr1 hlit (by omega) hcut.1 hcut.2
  obtain ⟨m, hm⟩ : ∃ m, m = n - 4 := ⟨_, rfl⟩
  rw [← hm] at hc
  by_cases h8 : m < 4
  ·have hix : Hm.ix l = none := by unfold Hm.ix; rw [if_pos (by omega)]
   rw [hix]
   have h8' : (m : Int) < 4 := by omega
   have Hc := ek hc; clear hc hr hr1 hlit hcut hm hw1 ht1 h8
   go_enter Tryz.func105, Tryz.ntmps105
   go_wp2_with fail
   refine Hc.out.mono ?_
   rintro e w' ⟨⟨E, rfl, _⟩, rfl⟩
   go_wp2
   go_ret2
   exact ⟨b1, rfl⟩
  ·obtain ⟨q, hq⟩ : ∃ q, q = n - 8 := ⟨_, rfl⟩
   obtain ⟨V, hV⟩ : ∃ V, V = Hm.val4 ((l.drop q).take 4) := ⟨_, rfl⟩
   have hVlt : V < 4294967296 := by rw [hV]; exact val4_lt 4 _
   have hqm : q + 4 = m := by omega
   have hq8 : ¬ l.length < 8 := by omega
   have hql : l.length - 8 = q := by omega
   have hql4 : l.length - 4 = m := by omega
   have hcd : l.drop m = Hm.tl := by rw [hm]; exact hcut.2
   have e1 : IntKind.i64.wrap ((m : Int) - 4) = (q : Int) := by rw [IntWalk.i64_in _ (by omega)]; omega
   have e2 : ((m : Int) - 4) = (q : Int) := by omega
   have e8 : ¬ (m : Int) < 4 := by omega
   have hmn : m ≤ n := by omega
   have hq4 : m - q = 4 := by omega
   have hqm2 : q ≤ m := by omega
   have hdt : (l.take m).drop q = (l.drop q).take 4 := by rw [List.drop_take, hq4]
   by_cases hbig : q < V
   ·have hix : Hm.ix l = none := by unfold Hm.ix; rw [if_neg hq8, hql4, if_pos hcd, hql, ← hV, if_neg (by omega)]
    rw [hix]
    have d1 : decide ((q : Int) < (V : Int)) = true := by simp; omega
    have Hc := ek hc; have Ht := ek ht1; have HV := ek hV; have Hq4 := ek hq4; have Hdt := ek hdt; clear hc hr hr1 hlit hcut hm hw1 ht1 hV hq4 hdt hqm hql hql4 hcd hq h8 hq8 hl
    go_enter Tryz.func105, Tryz.ntmps105
    go_wp2_with fail
    refine Hc.out.mono ?_
    rintro e w' ⟨⟨E, rfl, hrE⟩, rfl⟩
    obtain ⟨D, hD, hrD⟩ := bty.from_ hrE (k := q) hqm2 (q : Int) rfl
    rw [Hq4.out] at hD hrD
    rw [Hdt.out] at hrD
    have HrE := ek hrE; have HrD := ek hrD; clear hrE hrD
    go_wp2_with fail
    refine (takeSize_c D (c - q) _ _ _ HrD.out).mono ?_
    rintro e w' ⟨rfl, t, rfl⟩
    rw [← HV.out]
    go_wp2
    go_ret2
    exact ⟨below_drewN b1 _, rfl⟩
   ·obtain ⟨st, hst⟩ : ∃ st, st = q - V := ⟨_, rfl⟩
    have hix : Hm.ix l = (Hm.opn ((l.take q).drop st)).bind fun i => Hm.idx i st := by unfold Hm.ix; rw [if_neg hq8, hql4, if_pos hcd, hql, ← hV, if_pos (by omega), ← hst]
    rw [hix]
    have d1 : decide ((q : Int) < (V : Int)) = false := by simp; omega
    have f1 : IntKind.i64.wrap ((q : Int) - (V : Int)) = (st : Int) := by rw [IntWalk.i64_in _ (by omega)]; omega
    have f2 : ((q : Int) - (V : Int)) = (st : Int) := by omega
    have hsq : st ≤ q := by omega
    have hVs : V = q - st := by omega
    have hV9 : V ≤ 900000 := by omega
    have hst9 : st ≤ 900000 := by omega
    have hq9 : q ≤ 900000 := by omega
    have htt : ((l.take m).take q).drop st = (l.take q).drop st := by rw [List.take_take, Nat.min_eq_left hqm2]
    rcases openT_kinds ((l.take q).drop st) with ⟨o, ho, ho2, hol⟩ | ⟨x, ho, hx, hx4, ho2⟩
    ·have hres : ((Hm.opn ((l.take q).drop st)).bind fun i => Hm.idx i st) = Hm.idx o st := by rw [ho2, Option.bind_some]
     rw [hres]
     have hol9 : o.length ≤ 900000 := by rw [List.length_drop, List.length_take] at hol; omega
     have Hst := ek hst; have HVs := ek hVs; have Htt := ek htt; have Ho := ek ho; clear hst hVs htt ho ho2 hres hix hol
     have Hc := ek hc; have Ht := ek ht1; have HV := ek hV; have Hq4 := ek hq4; have Hdt := ek hdt; clear hc hr hr1 hlit hcut hm hw1 ht1 hV hq4 hdt hqm hql hql4 hcd hq h8 hq8 hl
     go_enter Tryz.func105, Tryz.ntmps105
     go_wp2_with fail
     refine Hc.out.mono ?_
     rintro e w' ⟨⟨E, rfl, hrE⟩, rfl⟩
     obtain ⟨D, hD, hrD⟩ := bty.from_ hrE (k := q) hqm2 (q : Int) rfl
     rw [Hq4.out] at hD hrD
     rw [Hdt.out] at hrD
     have HrE := ek hrE; have HrD := ek hrD; clear hrE hrD
     go_wp2_with fail
     refine (takeSize_c D (c - q) _ _ _ HrD.out).mono ?_
     rintro e w' ⟨rfl, t, rfl⟩
     rw [← HV.out]
     obtain ⟨F, hF, hrF⟩ := bty.mid_ HrE.out (i := st) (k := q) hsq hqm2 (st : Int) (q : Int) rfl rfl V HVs.out
     rw [Htt.out] at hrF
     have HrF := ek hrF; clear hrF
     go_wp2_with fail
     refine (open_lit At 256 ct Cm.tab F V (c - st) _ _ (Ht.out.drewN t) (by omega) ((HrF.out.more z1').drewN t) hV9 o o.length 0 Ho.out rfl).mono ?_
     rintro e w2 ⟨G, g, rfl, hown, hb2⟩
     have bw : Below w.heap.size w w2 := (below_drewN b1 t).trans (hb2.mono z1')
     have hrG := hown.1.rb
     have HrG := ek hrG; clear hown hrG hF
     go_wp2_with fail
     refine (takeEntries_c G o.length g w2.heap.size st o w2 HrG.out (Nat.le_refl _) (by omega)).mono ?_
     intro e w3 hp
     obtain ⟨hb3, hp⟩ := hp
     have bz : Below w.heap.size w w3 := bw.trans (hb3.mono bw.size)
     rcases hid : Hm.idx o st with _ | L
     ·rw [hid] at hp
      obtain rfl := hp
      have Hid := ek hid; clear hid
      go_wp2
      go_ret2
      rw [Hid.out]
      exact ⟨bz, rfl⟩
     ·rw [hid] at hp
      obtain ⟨A3, c3, rfl, hre⟩ := hp
      have Hid := ek hid; have Hre := ek hre; clear hid hre
      go_wp2
      go_ret2
      rw [Hid.out]
      exact ⟨bz, A3, c3, rfl, Hre.out⟩
    ·have hres : ((Hm.opn ((l.take q).drop st)).bind fun i => Hm.idx i st) = none := by rw [ho2]; rfl
     rw [hres]
     have Hst := ek hst; have HVs := ek hVs; have Htt := ek htt; have Ho := ek ho; clear hst hVs htt ho ho2 hres hix
     have Hc := ek hc; have Ht := ek ht1; have HV := ek hV; have Hq4 := ek hq4; have Hdt := ek hdt; clear hc hr hr1 hlit hcut hm hw1 ht1 hV hq4 hdt hqm hql hql4 hcd hq h8 hq8 hl
     go_enter Tryz.func105, Tryz.ntmps105
     go_wp2_with fail
     refine Hc.out.mono ?_
     rintro e w' ⟨⟨E, rfl, hrE⟩, rfl⟩
     obtain ⟨D, hD, hrD⟩ := bty.from_ hrE (k := q) hqm2 (q : Int) rfl
     rw [Hq4.out] at hD hrD
     rw [Hdt.out] at hrD
     have HrE := ek hrE; have HrD := ek hrD; clear hrE hrD
     go_wp2_with fail
     refine (takeSize_c D (c - q) _ _ _ HrD.out).mono ?_
     rintro e w' ⟨rfl, t, rfl⟩
     rw [← HV.out]
     obtain ⟨F, hF, hrF⟩ := bty.mid_ HrE.out (i := st) (k := q) hsq hqm2 (st : Int) (q : Int) rfl rfl V HVs.out
     rw [Htt.out] at hrF
     have HrF := ek hrF; clear hrF
     go_wp2_with fail
     refine (open_lit At 256 ct Cm.tab F V (c - st) _ _ (Ht.out.drewN t) (by omega) ((HrF.out.more z1').drewN t) hV9 [] 0 x Ho.out rfl).mono ?_
     rintro e w2 ⟨G, g, rfl, hown, hb2⟩
     have bw : Below w.heap.size w w2 := (below_drewN b1 t).trans (hb2.mono z1')
     clear hown hF
     go_wp2
     go_ret2
     exact ⟨bw, rfl⟩
 ·have hc := cuts_no A (some ⟨w.heap.size, 0,none⟩) n c 4 4 _ _ l Hm.tl w1 hr1 hlit (by omega) (by omega) hcut
  have hix : Hm.ix l = none := by
   unfold Hm.ix
   split
   ·rfl
   ·rw [if_neg]
    intro h
    rw [hl] at h
    exact hcut ⟨by omega, h⟩
  rw [hix]
  have Hc := ek hc; clear hc hr hr1 hlit hcut hw1 ht1
  go_enter Tryz.func105, Tryz.ntmps105
  go_wp2_with fail
  refine Hc.out.mono ?_
  rintro e w' ⟨rfl,rfl⟩
  go_wp2
  go_ret2
  exact ⟨b1, rfl⟩
end Go.Proofs.YtkekmokdlgocaaaGreatDoor.Cht
