/-
  The document's record, Scan: what each call returns and leaves.
-/
import Derived.Test.YtpjnkbfjnonkhaaDoorK7
namespace Go.Proofs.YtpjnkbfjnonkhaaDoor
open Go.RowKit

/-- What record returns. -/
def RetRec (w : World) (n : Nat) : Cv.Res → Ending → World → Prop
  | .ok r rest, e, w' => ∃ A c, e = .returned (.tuple #[.slice A r.length c, .int .i64 ((n - rest.length : Nat) : Int), .int .i64 0]) ∧ Oc 1 w' 9 w.heap.size A r.length c (lvs r) ∧ Below w.heap.size w w'
  | .err k, e, w' => e = .returned (.tuple #[.slice none 0 0, .int .i64 0, .int .i64 (k : Int)]) ∧ Below w.heap.size w w'
def RecdRel (w : World) (l : List UInt8) (n : Nat) (T : Cv.Res) (t o : Value) (wr : World) : Prop :=
  ∃ A c out, ∃ p : Nat, t = .int .i64 (p : Int) ∧ o = .slice A out.length c ∧ p ≤ n ∧ out.length ≤ 50 ∧ Oc 1 wr 9 w.heap.size A out.length c (lvs out) ∧ ((out.length < 50 ∧ Cv.run .bg out [] (l.drop p) = T) ∨ (out.length = 50 ∧ T = .err 5)) ∧ Below w.heap.size w wr

set_option maxHeartbeats 4000000 in
set_option maxRecDepth 100000 in
/-- record -/
theorem record_c (A : Option Addr) (n c : Nat) (l : List UInt8) (a : Nat) (w : World) (hr : Rb w w.heap.size A n c l) (hn : n ≤ 1000000) (ha : a ≤ n) (T : Cv.Res) (hT0 : Cv.run .bg [] [] (l.drop a) = T) :
    Calls Tryd.prog 23 #[.slice A n c, .int .i64 (a : Int)] w (RetRec w n T) := by
  have hl := hr.len
  have hend : ∀ (st : Cv.St) (out : List (List UInt8)) (s : List UInt8) (m : Nat), m ≤ n → (st = .un ∨ st = .aq) → (l.drop m = [] ∨ Cv.En (l.drop m) ≠ 0) → T = Cv.run st out s (l.drop m) → ∀ A8 c8 w8, Oc 1 w8 9 w.heap.size A8 (out.length + 1) c8 (lvs (out ++ [s])) → Below w.heap.size w w8 →
      RetRec w n T (.returned (.tuple #[.slice A8 (out ++ [s]).length c8, .int .i64 ((m : Int) + (Cv.En (l.drop m) : Int)), .int .i64 0])) w8 := fun st out s m hm hst hstop hT A8 c8 w8 ho hb => by
    rw [hT, Cv.run_end hst hstop]
    have h1 := Cv.En_le (l.drop m)
    have h2 : (l.drop m).length = n - m := by rw [List.length_drop, hl]
    have h3 : ((l.drop m).drop (Cv.En (l.drop m))).length = n - m - Cv.En (l.drop m) := by rw [List.length_drop, h2]
    refine ⟨A8, c8, ?_, by simpa using ho, hb⟩
    rw [h3, show n - (n - m - Cv.En (l.drop m)) = m + Cv.En (l.drop m) by omega]
    simp
  have Hr := Lib.hid hr; have Hl := Lib.hid hl; have Hend := Lib.hid hend; have HT0 := Lib.hid hT0; clear hr hl hend hT0
  go_enter Tryd.func23, Tryd.ntmps23
  go_wp2
  go_loopw [1, 7] (fun t o wr => RecdRel w l n T t o wr) (fun t _ _ => n - (intOf t).toNat)
  case atStart => exact ⟨some ⟨w.heap.size, 0, none⟩, 0, [], a, rfl, rfl, ha, by simp, Oc.made0 1 _ _, .inl ⟨by simp, HT0.out⟩, (Below.refl _ _).alloc (Nat.le_refl _) _⟩
  case round =>
    obtain ⟨A3, c3, out, p, rfl, rfl, hpn, hol, hown, hcase, hbel⟩ := hrel
    have z3 := hbel.size
    rename World => wr
    have hr3 := Hr.out.below hbel
    have Hown := Lib.hid hown; clear hown
    rcases hcase with ⟨h50, hT⟩ | ⟨h50, hT⟩
    · have d50 : ((out.length : Int) == 50) = false := by simp; omega
      by_cases hq : ∃ tl, l.drop p = 34 :: tl
      · obtain ⟨tl, htl⟩ := hq
        have hpn' : p < n := by
          have := congrArg List.length htl
          rw [List.length_drop, Hl.out] at this
          simp at this; omega
        have hdp : l.drop (p + 1) = tl := by rw [← List.drop_drop, htl]; rfl
        have hcp : l[p]? = some 34 := (Cv.drop_head htl).1
        rw [htl, Cv.run_bg_qu, ← hdp] at hT
        obtain ⟨b3, o3, x, eA, hb3, hcx, hgx, _⟩ := hr3.at_ hpn'
        obtain rfl : x = 34 := by rw [hcp] at hgx; injection hgx with h; exact h.symm
        have hfld := quotedD_c A n c l (p + 1) wr (hr3.more z3) hn (by omega)
        rw [eA] at hfld
        subst eA
        have Hfld := Lib.hid hfld; clear hfld hgx hdp hcp htl hr3
        go_wp2_with fail
        refine Hfld.out.mono ?_
        rintro e w4 (⟨k, rfl, ⟨hk, hF⟩, hb4⟩ | ⟨s, m, rfl, ⟨hs, hm1, hm2', hst, hrunF⟩, hb4⟩)
        · have hTk : T = .err k := hT.symm.trans (hF out)
          have dk : ((k : Int) == 0) = false := by rw [beq_eq_false_iff_ne]; omega
          have dk2 : ((k : Int) != 0) = true := by simp [bne, dk]
          have HTk := Lib.hid hTk; clear hTk hF hT
          go_wp2
          go_ret3
          rw [HTk.out]
          exact ⟨rfl, hbel.trans (hb4.mono z3)⟩
        have hm2 : m ≤ n := by rw [Hl.out] at hm2'; exact hm2'
        have z4 := hb4.size
        have Hown4 := Lib.hid (Hown.out.keep hb4)
        have Hbel4 := Lib.hid (hbel.trans (hb4.mono z3))
        clear hm2' hs
        rcases hst with hst | ⟨tl, hst⟩ | hst
        · have hmn : ¬ m < n := fun h => by
            have := congrArg List.length hst
            rw [List.length_drop, Hl.out] at this
            simp at this; omega
          have hfin := Hend.out .aq out s m hm2 (.inr rfl) (.inl hst) (hT.symm.trans (hrunF out))
          have Hfin := Lib.hid hfin; clear hfin hrunF hT hst
          go_wp2_with (at_builtin; go_must (refine Sl.wpAppAt sty rfl (.tmp 44) (.tmp 46) rfl (n := out.length) (m := 1) (N := out.length + 1) (ws := lvs (out ++ [s])) rfl rfl (Hown4.out.alloc _) (Rc.lit (z := 1) w4 _ #[.string ⟨s.toArray⟩] 1 rfl (by simp [maxLen])) ?hs1 rfl ?hs3 ?hs4 ?hs5 ?hs6 ?_))
          case hs1 => simp [Value.oneCell']
          case hs3 => simp [lvs]
          case hs4 => omega
          case hs5 => omega
          case hs6 => simp; omega
          intro A8 c8 w8 hown8 hg8
          have hbel8 := Hbel4.out.trans (((Below.refl w.heap.size w4).alloc (by omega) (.cells #[.string ⟨s.toArray⟩] 9)).trans (hg8.belowC (Hown4.out.alloc _) (by simp; omega)))
          clear hg8
          have hE2 := Cv.En_two_le (l.drop m)
          have hends := ends_c (some ⟨b3, o3, none⟩) n c w.heap.size l m w8 (Hr.out.below hbel8) hn hm2
          have Hends := Lib.hid hends; have Hown8 := Lib.hid hown8; clear hends hown8
          go_wp2_with fail
          refine Hends.out.mono ?_
          rintro e w' ⟨rfl, rfl⟩
          go_wp2
          go_ret3
          have q := Hfin.out A8 c8 w8 Hown8.out hbel8
          simp only [List.length_append, List.length_cons, List.length_nil, Nat.zero_add] at q
          exact q
        · have hmn : m < n := by
            have := congrArg List.length hst
            rw [List.length_drop, Hl.out] at this
            simp at this; omega
          have hdm : l.drop (m + 1) = tl := by rw [← List.drop_drop, hst]; rfl
          have hcm : l[m]? = some 44 := (Cv.drop_head hst).1
          have hnext : (out.length + 1 < 50 ∧ Cv.run .bg (out ++ [s]) [] (l.drop (m + 1)) = T) ∨ (out.length + 1 = 50 ∧ T = .err 5) := by
            have h2 := hT.symm.trans (hrunF out)
            rw [hst, Cv.run_comma (.inr rfl)] at h2
            by_cases h50 : out.length + 1 = 50
            · rw [if_pos h50] at h2; exact .inr ⟨h50, h2⟩
            · rw [if_neg h50] at h2; exact .inl ⟨by omega, by rw [hdm]; exact h2.symm⟩
          have Hnext := Lib.hid hnext; have Hcm := Lib.hid hcm; clear hnext hrunF hT hst hdm hcm
          go_wp2_with (at_builtin; go_must (refine Sl.wpAppAt sty rfl (.tmp 44) (.tmp 46) rfl (n := out.length) (m := 1) (N := out.length + 1) (ws := lvs (out ++ [s])) rfl rfl (Hown4.out.alloc _) (Rc.lit (z := 1) w4 _ #[.string ⟨s.toArray⟩] 1 rfl (by simp [maxLen])) ?hs1 rfl ?hs3 ?hs4 ?hs5 ?hs6 ?_))
          case hs1 => simp [Value.oneCell']
          case hs3 => simp [lvs]
          case hs4 => omega
          case hs5 => omega
          case hs6 => simp; omega
          intro A8 c8 w8 hown8 hg8
          have hbel8 := Hbel4.out.trans (((Below.refl w.heap.size w4).alloc (by omega) (.cells #[.string ⟨s.toArray⟩] 9)).trans (hg8.belowC (Hown4.out.alloc _) (by simp; omega)))
          clear hg8
          obtain ⟨y, hb8, hcy, hgy, hdy⟩ := (Hr.out.below hbel8).atL hmn
          clear hdy
          obtain rfl : y = 44 := by rw [Hcm.out] at hgy; injection hgy with h; exact h.symm
          have Hown8 := Lib.hid hown8; clear hown8 hgy
          go_wp2
          go_roundw
          case rel => exact ⟨A8, c8, out ++ [s], m + 1, by go_num, by simp, by omega, by simp; omega, by simpa using Hown8.out, by simpa using Hnext.out, hbel8⟩
          case measure => simp [intOf]; omega
        · have hmn : m < n := by
            rcases Nat.lt_or_ge m n with h | h
            · exact h
            · rw [List.drop_eq_nil_of_le (by have := Hl.out; omega)] at hst; exact absurd rfl hst
          have hcm : l[m]? ≠ some 44 := fun h => by
            have : l.drop m = 44 :: l.drop (m + 1) := by
              have hml : m < l.length := by have := Hl.out; omega
              rw [List.getElem?_eq_getElem hml] at h
              injection h with h
              rw [List.drop_eq_getElem_cons hml, h]
            rw [this] at hst
            exact hst (Cv.En_other (by decide) (by decide))
          have hfin := Hend.out .aq out s m hm2 (.inr rfl) (.inr hst) (hT.symm.trans (hrunF out))
          have Hfin := Lib.hid hfin; have Hcm := Lib.hid hcm; clear hfin hrunF hT hst hcm
          go_wp2_with (at_builtin; go_must (refine Sl.wpAppAt sty rfl (.tmp 44) (.tmp 46) rfl (n := out.length) (m := 1) (N := out.length + 1) (ws := lvs (out ++ [s])) rfl rfl (Hown4.out.alloc _) (Rc.lit (z := 1) w4 _ #[.string ⟨s.toArray⟩] 1 rfl (by simp [maxLen])) ?hs1 rfl ?hs3 ?hs4 ?hs5 ?hs6 ?_))
          case hs1 => simp [Value.oneCell']
          case hs3 => simp [lvs]
          case hs4 => omega
          case hs5 => omega
          case hs6 => simp; omega
          intro A8 c8 w8 hown8 hg8
          have hbel8 := Hbel4.out.trans (((Below.refl w.heap.size w4).alloc (by omega) (.cells #[.string ⟨s.toArray⟩] 9)).trans (hg8.belowC (Hown4.out.alloc _) (by simp; omega)))
          clear hg8
          have hE2 := Cv.En_two_le (l.drop m)
          have hends := ends_c (some ⟨b3, o3, none⟩) n c w.heap.size l m w8 (Hr.out.below hbel8) hn hm2
          obtain ⟨y, hb8, hcy, hgy, hdy⟩ := (Hr.out.below hbel8).atL hmn
          clear hdy
          have hy : y ≠ 44 := fun h => Hcm.out (by rw [hgy, h])
          have dy : ((y.toNat : Int) == 44) = false := nb (y := 44) hy
          have Hends := Lib.hid hends; have Hown8 := Lib.hid hown8; clear hends hown8 hgy
          go_wp2_with fail
          refine Hends.out.mono ?_
          rintro e w' ⟨rfl, rfl⟩
          go_wp2
          go_ret3
          have q := Hfin.out A8 c8 w8 Hown8.out hbel8
          simp only [List.length_append, List.length_cons, List.length_nil, Nat.zero_add] at q
          exact q
      · have hnq : ∀ tl, l.drop p ≠ 34 :: tl := fun tl h => hq ⟨tl, h⟩
        rw [Cv.run_bg_un hnq] at hT
        have hfld := plain_c A n c wr.heap.size l p wr (hr3.more z3) hn hpn
        have Hfld := Lib.hid hfld; clear hfld hq
        by_cases hpn' : p < n
        · obtain ⟨b3, o3, x, eA, hb3, hcx, hgx, hdx⟩ := hr3.at_ hpn'
          have hx : x ≠ 34 := fun h => hnq (l.drop (p + 1)) (by rw [hdx, h])
          have dx : ((x.toNat : Int) == 34) = false := nb (y := 34) hx
          subst eA
          clear hgx hdx hnq hr3
          go_wp2_with fail
          refine Hfld.out.mono ?_
          rintro e w4 (⟨k, rfl, ⟨hk, hF⟩, hb4⟩ | ⟨s, m, rfl, ⟨hs, hm1, hm2', hst, hrunF⟩, hb4⟩)
          · have hTk : T = .err k := hT.symm.trans (hF out)
            have dk : ((k : Int) == 0) = false := by rw [beq_eq_false_iff_ne]; omega
            have dk2 : ((k : Int) != 0) = true := by simp [bne, dk]
            have HTk := Lib.hid hTk; clear hTk hF hT
            go_wp2
            go_ret3
            rw [HTk.out]
            exact ⟨rfl, hbel.trans (hb4.mono z3)⟩
          have hm2 : m ≤ n := by rw [Hl.out] at hm2'; exact hm2'
          have z4 := hb4.size
          have Hown4 := Lib.hid (Hown.out.keep hb4)
          have Hbel4 := Lib.hid (hbel.trans (hb4.mono z3))
          clear hm2' hs
          rcases hst with hst | ⟨tl, hst⟩ | hst
          · have hmn : ¬ m < n := fun h => by
              have := congrArg List.length hst
              rw [List.length_drop, Hl.out] at this
              simp at this; omega
            have hfin := Hend.out .un out s m hm2 (.inl rfl) (.inl hst) (hT.symm.trans (hrunF out))
            have Hfin := Lib.hid hfin; clear hfin hrunF hT hst
            go_wp2_with (at_builtin; go_must (refine Sl.wpAppAt sty rfl (.tmp 44) (.tmp 46) rfl (n := out.length) (m := 1) (N := out.length + 1) (ws := lvs (out ++ [s])) rfl rfl (Hown4.out.alloc _) (Rc.lit (z := 1) w4 _ #[.string ⟨s.toArray⟩] 1 rfl (by simp [maxLen])) ?hs1 rfl ?hs3 ?hs4 ?hs5 ?hs6 ?_))
            case hs1 => simp [Value.oneCell']
            case hs3 => simp [lvs]
            case hs4 => omega
            case hs5 => omega
            case hs6 => simp; omega
            intro A8 c8 w8 hown8 hg8
            have hbel8 := Hbel4.out.trans (((Below.refl w.heap.size w4).alloc (by omega) (.cells #[.string ⟨s.toArray⟩] 9)).trans (hg8.belowC (Hown4.out.alloc _) (by simp; omega)))
            clear hg8
            have hE2 := Cv.En_two_le (l.drop m)
            have hends := ends_c (some ⟨b3, o3, none⟩) n c w.heap.size l m w8 (Hr.out.below hbel8) hn hm2
            have Hends := Lib.hid hends; have Hown8 := Lib.hid hown8; clear hends hown8
            go_wp2_with fail
            refine Hends.out.mono ?_
            rintro e w' ⟨rfl, rfl⟩
            go_wp2
            go_ret3
            have q := Hfin.out A8 c8 w8 Hown8.out hbel8
            simp only [List.length_append, List.length_cons, List.length_nil, Nat.zero_add] at q
            exact q
          · have hmn : m < n := by
              have := congrArg List.length hst
              rw [List.length_drop, Hl.out] at this
              simp at this; omega
            have hdm : l.drop (m + 1) = tl := by rw [← List.drop_drop, hst]; rfl
            have hcm : l[m]? = some 44 := (Cv.drop_head hst).1
            have hnext : (out.length + 1 < 50 ∧ Cv.run .bg (out ++ [s]) [] (l.drop (m + 1)) = T) ∨ (out.length + 1 = 50 ∧ T = .err 5) := by
              have h2 := hT.symm.trans (hrunF out)
              rw [hst, Cv.run_comma (.inl rfl)] at h2
              by_cases h50 : out.length + 1 = 50
              · rw [if_pos h50] at h2; exact .inr ⟨h50, h2⟩
              · rw [if_neg h50] at h2; exact .inl ⟨by omega, by rw [hdm]; exact h2.symm⟩
            have Hnext := Lib.hid hnext; have Hcm := Lib.hid hcm; clear hnext hrunF hT hst hdm hcm
            go_wp2_with (at_builtin; go_must (refine Sl.wpAppAt sty rfl (.tmp 44) (.tmp 46) rfl (n := out.length) (m := 1) (N := out.length + 1) (ws := lvs (out ++ [s])) rfl rfl (Hown4.out.alloc _) (Rc.lit (z := 1) w4 _ #[.string ⟨s.toArray⟩] 1 rfl (by simp [maxLen])) ?hs1 rfl ?hs3 ?hs4 ?hs5 ?hs6 ?_))
            case hs1 => simp [Value.oneCell']
            case hs3 => simp [lvs]
            case hs4 => omega
            case hs5 => omega
            case hs6 => simp; omega
            intro A8 c8 w8 hown8 hg8
            have hbel8 := Hbel4.out.trans (((Below.refl w.heap.size w4).alloc (by omega) (.cells #[.string ⟨s.toArray⟩] 9)).trans (hg8.belowC (Hown4.out.alloc _) (by simp; omega)))
            clear hg8
            obtain ⟨y, hb8, hcy, hgy, hdy⟩ := (Hr.out.below hbel8).atL hmn
            clear hdy
            obtain rfl : y = 44 := by rw [Hcm.out] at hgy; injection hgy with h; exact h.symm
            have Hown8 := Lib.hid hown8; clear hown8 hgy
            go_wp2
            go_roundw
            case rel => exact ⟨A8, c8, out ++ [s], m + 1, by go_num, by simp, by omega, by simp; omega, by simpa using Hown8.out, by simpa using Hnext.out, hbel8⟩
            case measure => simp [intOf]; omega
          · have hmn : m < n := by
              rcases Nat.lt_or_ge m n with h | h
              · exact h
              · rw [List.drop_eq_nil_of_le (by have := Hl.out; omega)] at hst; exact absurd rfl hst
            have hcm : l[m]? ≠ some 44 := fun h => by
              have : l.drop m = 44 :: l.drop (m + 1) := by
                have hml : m < l.length := by have := Hl.out; omega
                rw [List.getElem?_eq_getElem hml] at h
                injection h with h
                rw [List.drop_eq_getElem_cons hml, h]
              rw [this] at hst
              exact hst (Cv.En_other (by decide) (by decide))
            have hfin := Hend.out .un out s m hm2 (.inl rfl) (.inr hst) (hT.symm.trans (hrunF out))
            have Hfin := Lib.hid hfin; have Hcm := Lib.hid hcm; clear hfin hrunF hT hst hcm
            go_wp2_with (at_builtin; go_must (refine Sl.wpAppAt sty rfl (.tmp 44) (.tmp 46) rfl (n := out.length) (m := 1) (N := out.length + 1) (ws := lvs (out ++ [s])) rfl rfl (Hown4.out.alloc _) (Rc.lit (z := 1) w4 _ #[.string ⟨s.toArray⟩] 1 rfl (by simp [maxLen])) ?hs1 rfl ?hs3 ?hs4 ?hs5 ?hs6 ?_))
            case hs1 => simp [Value.oneCell']
            case hs3 => simp [lvs]
            case hs4 => omega
            case hs5 => omega
            case hs6 => simp; omega
            intro A8 c8 w8 hown8 hg8
            have hbel8 := Hbel4.out.trans (((Below.refl w.heap.size w4).alloc (by omega) (.cells #[.string ⟨s.toArray⟩] 9)).trans (hg8.belowC (Hown4.out.alloc _) (by simp; omega)))
            clear hg8
            have hE2 := Cv.En_two_le (l.drop m)
            have hends := ends_c (some ⟨b3, o3, none⟩) n c w.heap.size l m w8 (Hr.out.below hbel8) hn hm2
            obtain ⟨y, hb8, hcy, hgy, hdy⟩ := (Hr.out.below hbel8).atL hmn
            clear hdy
            have hy : y ≠ 44 := fun h => Hcm.out (by rw [hgy, h])
            have dy : ((y.toNat : Int) == 44) = false := nb (y := 44) hy
            have Hends := Lib.hid hends; have Hown8 := Lib.hid hown8; clear hends hown8 hgy
            go_wp2_with fail
            refine Hends.out.mono ?_
            rintro e w' ⟨rfl, rfl⟩
            go_wp2
            go_ret3
            have q := Hfin.out A8 c8 w8 Hown8.out hbel8
            simp only [List.length_append, List.length_cons, List.length_nil, Nat.zero_add] at q
            exact q
        · clear hnq hr3
          go_wp2_with fail
          refine Hfld.out.mono ?_
          rintro e w4 (⟨k, rfl, ⟨hk, hF⟩, hb4⟩ | ⟨s, m, rfl, ⟨hs, hm1, hm2', hst, hrunF⟩, hb4⟩)
          · have hTk : T = .err k := hT.symm.trans (hF out)
            have dk : ((k : Int) == 0) = false := by rw [beq_eq_false_iff_ne]; omega
            have dk2 : ((k : Int) != 0) = true := by simp [bne, dk]
            have HTk := Lib.hid hTk; clear hTk hF hT
            go_wp2
            go_ret3
            rw [HTk.out]
            exact ⟨rfl, hbel.trans (hb4.mono z3)⟩
          have hm2 : m ≤ n := by rw [Hl.out] at hm2'; exact hm2'
          have z4 := hb4.size
          have Hown4 := Lib.hid (Hown.out.keep hb4)
          have Hbel4 := Lib.hid (hbel.trans (hb4.mono z3))
          clear hm2' hs
          rcases hst with hst | ⟨tl, hst⟩ | hst
          · have hmn : ¬ m < n := fun h => by
              have := congrArg List.length hst
              rw [List.length_drop, Hl.out] at this
              simp at this; omega
            have hfin := Hend.out .un out s m hm2 (.inl rfl) (.inl hst) (hT.symm.trans (hrunF out))
            have Hfin := Lib.hid hfin; clear hfin hrunF hT hst
            go_wp2_with (at_builtin; go_must (refine Sl.wpAppAt sty rfl (.tmp 44) (.tmp 46) rfl (n := out.length) (m := 1) (N := out.length + 1) (ws := lvs (out ++ [s])) rfl rfl (Hown4.out.alloc _) (Rc.lit (z := 1) w4 _ #[.string ⟨s.toArray⟩] 1 rfl (by simp [maxLen])) ?hs1 rfl ?hs3 ?hs4 ?hs5 ?hs6 ?_))
            case hs1 => simp [Value.oneCell']
            case hs3 => simp [lvs]
            case hs4 => omega
            case hs5 => omega
            case hs6 => simp; omega
            intro A8 c8 w8 hown8 hg8
            have hbel8 := Hbel4.out.trans (((Below.refl w.heap.size w4).alloc (by omega) (.cells #[.string ⟨s.toArray⟩] 9)).trans (hg8.belowC (Hown4.out.alloc _) (by simp; omega)))
            clear hg8
            have hE2 := Cv.En_two_le (l.drop m)
            have hends := ends_c A n c w.heap.size l m w8 (Hr.out.below hbel8) hn hm2
            have Hends := Lib.hid hends; have Hown8 := Lib.hid hown8; clear hends hown8
            go_wp2_with fail
            refine Hends.out.mono ?_
            rintro e w' ⟨rfl, rfl⟩
            go_wp2
            go_ret3
            have q := Hfin.out A8 c8 w8 Hown8.out hbel8
            simp only [List.length_append, List.length_cons, List.length_nil, Nat.zero_add] at q
            exact q
          · exfalso
            have := (Cv.drop_head hst).2.2
            have := Hl.out; omega
          · exfalso
            rw [List.drop_eq_nil_of_le (by have := Hl.out; omega)] at hst
            exact hst rfl
    · have d50 : ((out.length : Int) == 50) = true := by simp; omega
      have HT := Lib.hid hT; clear hT hr3
      go_wp2
      go_ret3
      rw [HT.out]
      exact ⟨rfl, hbel⟩
end Go.Proofs.YtpjnkbfjnonkhaaDoor
