/-
  The document's block (threshingref07): what the call returns and leaves.
-/
import Derived.Test.YtddnlimkaagpdaaDoorTg
import Derived.Test.YtddnlimkaagpdaaDoorBy
import Derived.Test.YtddnlimkaagpdaaDoorS9
import Derived.Test.YtddnlimkaagpdaaDoorUa
import Derived.Test.YtddnlimkaagpdaaDoorS2
namespace Go.Proofs.YtddnlimkaagpdaaDoor
open Go.RowKit

def tpairS (l : List UInt8) (most : Int) : (List UInt8 × List UInt8) × List UInt8 × Nat :=
  if (frameS l most).2.2 = 0 then
    if (frameS (l.drop (frameS l most).2.1) most).2.2 = 0 then
      (((frameS l most).1, (frameS (l.drop (frameS l most).2.1) most).1), l.drop ((frameS l most).2.1 + (frameS (l.drop (frameS l most).2.1) most).2.1), 0)
    else (([], []), [], (frameS (l.drop (frameS l most).2.1) most).2.2)
  else (([], []), [], (frameS l most).2.2)
theorem tpairS_ok (l : List UInt8) (most : Int) (t t2 : List UInt8) (s s2 : Nat) (h : frameS l most = (t, s, 0)) (h2 : frameS (l.drop s) most = (t2, s2, 0)) : tpairS l most = ((t, t2), l.drop (s + s2), 0) := by
  unfold tpairS; rw [h]; dsimp only; rw [h2]; simp
theorem tpairS_err2 (l : List UInt8) (most : Int) (t : List UInt8) (s x : Nat) (h : frameS l most = (t, s, 0)) (h2 : frameS (l.drop s) most = ([], 0, x)) (hx : x = 2 ∨ x = 3 ∨ x = 5) : tpairS l most = (([], []), [], x) := by
  unfold tpairS; rw [h]; dsimp only; rw [h2]; dsimp only; rw [if_pos rfl, if_neg (by omega)]
theorem tpairS_err1 (l : List UInt8) (most : Int) (x : Nat) (h : frameS l most = ([], 0, x)) (hx : x = 2 ∨ x = 3 ∨ x = 5) : tpairS l most = (([], []), [], x) := by
  unfold tpairS; rw [h]; dsimp only; rw [if_neg (by omega)]

def RetPr (base : Nat) (w : World) (t : (List UInt8 × List UInt8) × List UInt8 × Nat) (e : Ending) (w' : World) : Prop :=
  ∃ A c, e = .returned (.tuple #[.agg #[.string ⟨t.1.1.toArray⟩, .string ⟨t.1.2.toArray⟩], .slice A t.2.1.length c, .int .i64 (t.2.2 : Int)]) ∧ Own w' 5 base A c t.2.1 ∧ Below base w w'

/-- A block of two empty texts that was made first stays as it was. -/
theorem box_kept {w w1 : World} {T : TypeId} (hb : Below (w.alloc (.cells #[.string ⟨#[]⟩, .string ⟨#[]⟩] T)).heap.size (w.alloc (.cells #[.string ⟨#[]⟩, .string ⟨#[]⟩] T)) w1) :
    w1.cell? ⟨w.heap.size, 0, none⟩ = some (.string ⟨#[]⟩) ∧ w1.cell? ⟨w.heap.size, 1, none⟩ = some (.string ⟨#[]⟩) ∧ w1.frozen? ⟨w.heap.size, 0, none⟩ = false ∧ w1.frozen? ⟨w.heap.size, 1, none⟩ = false ∧ w.heap.size < w1.heap.size ∧ Below w.heap.size w w1 := by
  refine ⟨(hb.cell (by simp)).trans (by simp), (hb.cell (by simp)).trans (by simp), (hb.frozen (by simp)).trans (by simp), (hb.frozen (by simp)).trans (by simp), by have := hb.size; simp at this; omega, ((Below.refl _ _).alloc (Nat.le_refl _) _).trans (hb.mono (by simp))⟩

set_option maxRecDepth 100000 in
set_option maxHeartbeats 1000000 in
/-- the document's TakePair -/
theorem rtakePair_c (A : Option Addr) (n c : Nat) (l : List UInt8) (most : Int) (w : World) (hr : Rb w w.heap.size A n c l) (hn : n ≤ 1000000) (hm : I64 most) :
    Calls Tryd.prog 66 #[.slice A n c, .int .i64 most] w (RetPr w.heap.size w (tpairS l most)) := by
  have hl := hr.len
  rcases frameS_cases l most with ⟨t, s, hf, hs, ht⟩ | ⟨x, hf, hx⟩
  · have hd1 : (l.drop s).length ≤ 1000000 := by rw [List.length_drop]; omega
    rcases frameS_cases (l.drop s) most with ⟨t2, s2, hf2, hs2, ht2⟩ | ⟨x, hf2, hx⟩
    · rw [tpairS_ok l most t t2 s s2 hf hf2]
      have Hr := Lib.hid hr; have Hf := Lib.hid hf; have Hl := Lib.hid hl; have Hm := Lib.hid hm; have Hf2 := Lib.hid hf2; clear hr hf hl hm hf2
      go_enter Tryd.func66, Tryd.ntmps66
      go_wp2_with fail
      refine (rtf_ok A n c l most _ ((Hr.out.alloc (Nat.le_refl _) _).more (by simp)) hn Hm.out t s Hf.out).mono ?_
      rintro e w1 ⟨A1, c1, rfl, hown1, hb1⟩
      obtain ⟨hc0, hc1, hz0, hz1, hsz, hbb⟩ := box_kept hb1
      go_wp2_with fail
      refine (rtf_ok A1 _ c1 (l.drop s) most _ (rb_len hown1.rb (by simp)) (by simpa using hd1) Hm.out t2 s2 Hf2.out).mono ?_
      rintro e w2 ⟨A2, c2, rfl, hown2, hb2⟩
      have hd0 := (hb2.cell (p := ⟨w.heap.size, 0, none⟩) hsz).trans hc0
      have hd1' := (hb2.cell (p := ⟨w.heap.size, 1, none⟩) hsz).trans hc1
      have hy0 := (hb2.frozen (p := ⟨w.heap.size, 0, none⟩) hsz).trans hz0
      have hy1 := (hb2.frozen (p := ⟨w.heap.size, 1, none⟩) hsz).trans hz1
      have hsz2 : w.heap.size < w2.heap.size := Nat.lt_of_lt_of_le hsz hb2.size
      clear hc0 hc1 hz0 hz1
      go_wp2
      refine bodyPost_ret (v := .tuple #[.agg #[.string ⟨t.toArray⟩, .string ⟨t2.toArray⟩], .slice A2 (l.drop (s + s2)).length c2, .int .i64 0]) ?_ rfl ⟨A2, c2, rfl, ?_, ?_⟩
      · simp [results, Tryd.results66, go_sem, hd0, hd1']
      · have e : (l.drop s).drop s2 = l.drop (s + s2) := List.drop_drop ..
        rw [e] at hown2
        exact (((hown2.setLow (by simpa using hsz) _).setLow (by simpa using hsz) _).mono (by omega))
      · exact (((hbb.trans (hb2.mono (by omega))).setCell (by simp) _).setCell (by simp) _)
    · rw [tpairS_err2 l most t s x hf hf2 hx]
      have Hr := Lib.hid hr; have Hf := Lib.hid hf; have Hl := Lib.hid hl; have Hm := Lib.hid hm; have Hf2 := Lib.hid hf2; have Hx := Lib.hid hx; clear hr hf hl hm hf2
      have hx1 : 2 ≤ x := by omega
      clear hx
      go_enter Tryd.func66, Tryd.ntmps66
      go_wp2_with fail
      refine (rtf_ok A n c l most _ ((Hr.out.alloc (Nat.le_refl _) _).more (by simp)) hn Hm.out t s Hf.out).mono ?_
      rintro e w1 ⟨A1, c1, rfl, hown1, hb1⟩
      obtain ⟨hc0, hc1, hz0, hz1, hsz, hbb⟩ := box_kept hb1
      go_wp2_with fail
      refine (rtf_err A1 _ c1 (l.drop s) most _ (rb_len hown1.rb (by simp)) (by simpa using hd1) Hm.out x Hf2.out Hx.out).mono ?_
      rintro e w2 ⟨A2, c2, rfl, hown2, hb2⟩
      have hd0 := (hb2.cell (p := ⟨w.heap.size, 0, none⟩) hsz).trans hc0
      have hd1' := (hb2.cell (p := ⟨w.heap.size, 1, none⟩) hsz).trans hc1
      have hy0 := (hb2.frozen (p := ⟨w.heap.size, 0, none⟩) hsz).trans hz0
      have hy1 := (hb2.frozen (p := ⟨w.heap.size, 1, none⟩) hsz).trans hz1
      have hsz2 : w.heap.size < w2.heap.size := Nat.lt_of_lt_of_le hsz hb2.size
      clear hc0 hc1 hz0 hz1
      go_wp2
      refine bodyPost_ret (v := .tuple #[.agg #[.string ⟨#[]⟩, .string ⟨#[]⟩], .slice none 0 0, .int .i64 (x : Int)]) ?_ rfl ⟨none, 0, rfl, Own.nil _ _ _, ?_⟩
      · simp [results, Tryd.results66, go_sem, hd0, hd1']
      · exact (((hbb.trans (hb2.mono (by omega))).setCell (by simp) _).setCell (by simp) _)
  · rw [tpairS_err1 l most x hf hx]
    have Hr := Lib.hid hr; have Hf := Lib.hid hf; have Hm := Lib.hid hm; have Hx := Lib.hid hx; clear hr hf hl hm
    have hx1 : 2 ≤ x := by omega
    clear hx
    go_enter Tryd.func66, Tryd.ntmps66
    go_wp2_with fail
    refine (rtf_err A n c l most _ ((Hr.out.alloc (Nat.le_refl _) _).more (by simp)) hn Hm.out x Hf.out Hx.out).mono ?_
    rintro e w1 ⟨A1, c1, rfl, hown1, hb1⟩
    obtain ⟨hc0, hc1, hz0, hz1, hsz, hbb⟩ := box_kept hb1
    go_wp2
    refine bodyPost_ret (v := .tuple #[.agg #[.string ⟨#[]⟩, .string ⟨#[]⟩], .slice none 0 0, .int .i64 (x : Int)]) ?_ rfl ⟨none, 0, rfl, Own.nil _ _ _, ?_⟩
    · simp [results, Tryd.results66, go_sem, hc0, hc1]
    · exact ((hbb.setCell (by simp) _).setCell (by simp) _)
end Go.Proofs.YtddnlimkaagpdaaDoor

namespace Go.Proofs.YtddnlimkaagpdaaDoor
open Go.RowKit

/-- A literal of one record of two texts: two new blocks. -/
theorem rec_two (w : World) (s t : List UInt8) (A : Option Addr) (base : Nat) (te tr : TypeId) (hb : base ≤ w.heap.size) (hA : ∀ g, ob A = some g → g < w.heap.size) (w5 w6 : World)
    (h5 : w5 = w.alloc (.cells #[.string ⟨s.toArray⟩, .string ⟨t.toArray⟩] te)) (h6 : w6 = w5.alloc (.cells #[.slice (some ⟨w.heap.size, 0, none⟩) 2 2] tr)) :
    w6.heap.size = w.heap.size + 2 ∧ Below w.heap.size w w6 ∧ Rc 1 w6 w6.heap.size (some ⟨w.heap.size + 1, 0, none⟩) 1 1 [.slice (some ⟨w.heap.size, 0, none⟩) 2 2] ∧
    RrS w6 (Sf base w6 A) (.slice (some ⟨w.heap.size, 0, none⟩) 2 2) [s, t] := by
  have z5 : w5.heap.size = w.heap.size + 1 := by rw [h5]; simp
  have z6 : w6.heap.size = w.heap.size + 2 := by rw [h6]; simp [z5]
  have b6 : Below w.heap.size w w6 := by
    rw [h6, h5]
    exact ((Below.refl _ _).alloc (Nat.le_refl _) _).alloc (by simp) _
  have hrow : Rc 1 w5 (w.heap.size + 1) (some ⟨w.heap.size, 0, none⟩) 2 2 (lvs [s, t]) := by
    rw [h5]; exact Rc.lit (z := 1) w te #[.string ⟨s.toArray⟩, .string ⟨t.toArray⟩] 2 rfl (by simp [maxLen])
  have b56 : Below w5.heap.size w5 w6 := by rw [h6]; exact (Below.refl _ _).alloc (Nat.le_refl _) _
  have hrow6 := hrow.below (b56.mono (by omega))
  refine ⟨z6, b6, ?_, _, _, _, rfl, hrow6.1, hrow6.2.1, hrow6.2.2.1, fun _ => ?_⟩
  · have h := Rc.lit (z := 1) w5 tr #[.slice (some ⟨w.heap.size, 0, none⟩) 2 2] 1 rfl (by simp [maxLen])
    rw [← h6, z5] at h
    exact h.more (by omega)
  · obtain ⟨b, off, e, hb2, hc⟩ := hrow6.2.2.2 (by omega)
    injection e with e
    injection e with e1 e2 _
    subst e1 e2
    exact ⟨_, _, rfl, ⟨by omega, by omega, fun e => by have := hA _ e.symm; omega⟩, hc⟩

def RrRel (base m : Nat) (w : World) (T : List UInt8) (o i r : Value) (wr : World) : Prop :=
  ∃ A c vs E d D done, ∃ k : Nat, o = .slice A (List.length done) c ∧ i = .int .u64 (k : Int) ∧ r = .slice E (List.length D) d ∧ k ≤ m ∧ done.length = k ∧ Rb wr wr.heap.size E (List.length D) d D ∧ D.length ≤ 1000000 ∧
    Oc 1 wr 50 base A (List.length done) c vs ∧ RrsS wr (Sf base wr A) vs done ∧ Dn m T k done D ∧ Below base w wr

set_option maxRecDepth 100000 in
set_option maxHeartbeats 2000000 in
/-- the document's records -/
theorem rrecords_c (A : Option Addr) (n c : Nat) (l : List UInt8) (w : World) (hr : Rb w w.heap.size A n c l) (hn : n ≤ 1000000) :
    Calls Tryd.prog 45 #[.slice A n c] w (RetRc w (Sm.cont l)) := by
  have hl := hr.len
  obtain ⟨U, hU⟩ : ∃ U, U = Sm.cont l := ⟨_, rfl⟩
  rw [← hU]
  rcases tk_cases l with ⟨m, s, ht, _, hs, _⟩ | ⟨x, ht, hx⟩
  · have hcall := rtake_ok A n c l w hr hn m s ht
    by_cases hyes : 1 ≤ m ∧ m ≤ 100
    · obtain ⟨ha1, ha⟩ := hyes
      obtain ⟨T, hT⟩ : ∃ T, T = l.drop s := ⟨_, rfl⟩
      rw [← hT] at hcall
      have hTl : T.length ≤ 1000000 := by rw [hT, List.length_drop]; omega
      have HU := Lib.hid hU; have Hcall := Lib.hid hcall; have Ht := Lib.hid ht; have HT := Lib.hid hT; clear hU hcall hr hl ht hT hs
      go_enter Tryd.func45, Tryd.ntmps45
      go_wp2_with fail
      refine Hcall.out.mono ?_
      rintro e w1 ⟨E, d, rfl, hoE, hb1⟩
      have z1 := hb1.size
      have hrE := hoE.rb.alloc (Nat.le_refl _) (.cells #[] 50)
      obtain ⟨w2, hw2⟩ : ∃ w2, w2 = w1.alloc (.cells #[] 50) := ⟨_, rfl⟩
      have ho2 : Oc 1 w2 50 w.heap.size (some ⟨w1.heap.size, 0, none⟩) 0 0 [] := by rw [hw2]; exact (Oc.made0 1 w1 50).mono z1
      rw [← hw2] at hrE
      have z2 : w2.heap.size = w1.heap.size + 1 := by rw [hw2]; simp
      have b2 : Below w.heap.size w w2 := hb1.trans (by rw [hw2]; exact ((Below.refl _ _).alloc z1 _))
      have HrE := Lib.hid (hrE.more (show w1.heap.size ≤ w2.heap.size by omega)); have Ho2 := Lib.hid ho2; have HW2 := Lib.hid hw2
      clear hrE ho2 hoE hw2 hb1
      go_wp2_with fail
      rw [← HW2.out]
      go_loopw [6, 7, 0] (fun o i r wr => RrRel w.heap.size m w T o i r wr) (fun _ i _ _ => m - (intOf i).toNat)
      case atStart => exact ⟨some ⟨w1.heap.size, 0, none⟩, 0, [], E, d, T, [], 0, rfl, rfl, rfl, Nat.zero_le _, rfl, HrE.out, hTl, Ho2.out, RrsS.nil, Dn.start m T, b2⟩
      case round =>
        obtain ⟨A3, c3, vs, E3, d3, D, done, k, rfl, rfl, rfl, hk, hdk, hr3, hDl, hown, hrs, hst, hbel3⟩ := hrel
        rename World => wr
        have z3 := hbel3.size
        by_cases hlt : k < m
        · have hA3 : ∀ g, ob A3 = some g → g < wr.heap.size := fun g hg => (oc_ob hown g hg).2
          have hpair := rtakePair_c E3 D.length d3 D 1000 wr hr3 (by omega) (by unfold I64; omega)
          have hku : IntKind.u64.wrap ((k : Int) + 1) = ((k + 1 : Nat) : Int) := by rw [IntKind.wrap_u64]; omega
          rcases hrec : Sm.rec1 D with _ | ⟨r, s3⟩
          · obtain rfl : U = none := by rw [HU.out]; exact cont_none Ht.out (by rw [← HT.out]; exact hst.none_ hlt hrec)
            obtain ⟨x, hx, hx1⟩ : ∃ x, tpairS D 1000 = (([], []), [], x) ∧ 2 ≤ x := by
              rcases frameS_cases D 1000 with ⟨t, s1, hf, hs1, _⟩ | ⟨x, hf, hx⟩
              · rcases frameS_cases (D.drop s1) 1000 with ⟨t2, s2, hf2, _, _⟩ | ⟨x, hf2, hx⟩
                · exfalso
                  unfold Sm.rec1 at hrec
                  rw [Sm.ok3_some.2 hf] at hrec
                  dsimp only [Option.bind_some] at hrec
                  rw [Sm.ok3_some.2 hf2] at hrec
                  cases hrec
                · exact ⟨x, tpairS_err2 D 1000 t s1 x hf hf2 hx, by omega⟩
              · exact ⟨x, tpairS_err1 D 1000 x hf hx, by omega⟩
            rw [hx] at hpair
            have hx2 : ((x : Int) != 0) = true := by simp; omega
            have hx0 : ((x : Int) == 0) = false := by simp; omega
            have Hpair := Lib.hid hpair
            clear hpair hx hst hrec hr3 hown hrs hdk hA3 HU hku
            go_wp2_with fail
            refine Hpair.out.mono ?_
            rintro e w4 ⟨A4, c4, rfl, ho4, hb4⟩
            clear ho4
            have b4 := hbel3.trans (hb4.mono z3)
            go_wp2
            go_ret2
            exact ⟨b4.trans ((Below.refl _ _).alloc b4.size _), none, 0, 0, false, rfl, rfl⟩
          · obtain ⟨t, k1, u, k2, hf1, hf2, rfl, hs3, hsl, htl, hul, _, _⟩ := Sm.rec1_inv hrec
            rw [tpairS_ok D 1000 t u k1 k2 hf1 hf2, ← hs3] at hpair
            obtain ⟨D', hD'⟩ : ∃ D', D' = D.drop s3 := ⟨_, rfl⟩
            have hst' := hst.next hlt hrec
            rw [← hD'] at hpair hst'
            have hDl' : D'.length ≤ 1000000 := by rw [hD', List.length_drop]; omega
            have Hst := Lib.hid hst'; have Hpair := Lib.hid hpair; have Hown := Lib.hid hown; have Hrs := Lib.hid hrs; have Hdk := Lib.hid hdk; have HA3 := Lib.hid hA3
            have hdl : done.length ≤ 100 := by omega
            clear hst hst' hpair hown hrs hdk hrec hr3 hf1 hf2 hs3 hsl hD' hA3
            go_wp2_with fail
            refine Hpair.out.mono ?_
            rintro e w4 ⟨A4, c4, rfl, ho4, hb4⟩
            have z4 := hb4.size
            obtain ⟨w5, hw5⟩ : ∃ w5, w5 = w4.alloc (.cells #[.string ⟨t.toArray⟩, .string ⟨u.toArray⟩] 66) := ⟨_, rfl⟩
            have z5 : w5.heap.size = w4.heap.size + 1 := by rw [hw5]; simp
            have b5 : Below w4.heap.size w4 w5 := by rw [hw5]; exact (Below.refl _ _).alloc (Nat.le_refl _) _
            obtain ⟨w6, hw6⟩ : ∃ w6, w6 = w5.alloc (.cells #[.string ⟨t.toArray⟩, .string ⟨u.toArray⟩] 9) := ⟨_, rfl⟩
            obtain ⟨w7, hw7⟩ : ∃ w7, w7 = w6.alloc (.cells #[.slice (some ⟨w4.heap.size + 1, 0, none⟩) 2 2] 50) := ⟨_, rfl⟩
            obtain ⟨z7, b7, hlit, hpr⟩ := rec_two w5 t u A3 w.heap.size _ _ (by omega) (fun g hg => by have := HA3.out g hg; omega) w6 w7 hw6 (by rw [z5]; exact hw7)
            rw [z5] at hlit hpr
            have b47 : Below w4.heap.size w4 w7 := b5.trans (b7.mono (by omega))
            have b37 : Below wr.heap.size wr w7 := hb4.trans (b47.mono z4)
            have hown7 := Hown.out.keep b37
            have hps7 := (Hrs.out.keep (sf_below b37)).snoc hpr
            have hr7 := ho4.keep b47
            have hne : ob A4 = none ∨ ob A4 ≠ ob A3 := by
              rcases h5 : ob A4 with _ | g5
              · exact .inl rfl
              · refine .inr fun e => ?_
                have h6 := own_ob ho4 g5 h5
                have h7 := HA3.out g5 e.symm
                omega
            have Hne := Lib.hid hne
            have HW5 := Lib.hid hw5; have HW6 := Lib.hid hw6; have HW7 := Lib.hid hw7; have Hlit := Lib.hid hlit; have Hown7 := Lib.hid hown7; have Hps7 := Lib.hid hps7; have Hr7 := Lib.hid hr7; have Z5 := Lib.hid z5
            clear hw5 hw6 hw7 hlit hpr hown7 hps7 hr7 ho4 z5 hne
            go_wp2_with (at_builtin; rw [← HW5.out, ← HW6.out, ← HW7.out]; go_must (refine Sl.wpAppAt rty rfl (.tmp 41) (.tmp 47) rfl (n := done.length) (m := 1) (N := done.length + 1) (ws := vs ++ [.slice (some ⟨w4.heap.size + 1, 0, none⟩) 2 2]) rfl rfl Hown7.out Hlit.out ?hs1 rfl rfl ?hs4 ?hs5 ?hs6 ?_))
            case hs1 => simp [Value.oneCell']
            case hs4 => omega
            case hs5 => omega
            case hs6 => have := Z5.out; omega
            intro A8 c8 w8 hown8 hg8
            have b8 := (hbel3.trans (b37.mono z3)).trans (hg8.belowC Hown7.out (by have := Z5.out; omega))
            have hps8 := Hps7.out.keep (sf_grow hg8)
            have hno8 : Own w8 5 wr.heap.size A4 c4 D' := World.ownsRow.kept Hr7.out hg8.1 (by rw [ownBlock_slice]; exact Hne.out)
            have hne8 := hno8.rb
            have Hown8 := Lib.hid hown8; have Hps8 := Lib.hid hps8; have Hne8 := Lib.hid hne8; clear hown8 hps8 hg8 hno8 hne8
            go_wp2
            go_roundw
            case rel => exact ⟨A8, c8, vs ++ [.slice (some ⟨w4.heap.size + 1, 0, none⟩) 2 2], A4, c4, D', done ++ [[t, u]], k + 1, by simp, by go_num, rfl, by omega, by rw [List.length_append, Hdk.out]; rfl, Hne8.out, hDl', by rw [List.length_append]; exact Hown8.out, Hps8.out, Hst.out, b8⟩
            case measure => simp [intOf]; omega
        · have hkm : k = m := by omega
          subst hkm
          have he := hst.end_
          rw [HT.out] at he
          by_cases hD : D = []
          · subst hD
            have hUs : U = some done := by rw [HU.out]; exact Sm.cont_mk Ht.out ha1 ha he
            have hrls : RLS wr (Fr w.heap.size wr) A3 done.length c3 done := ⟨vs, hown.rcS, hrs.keep (stays_weak fun b hb => sf_fr b hb)⟩
            subst hUs
            have Hrls := Lib.hid hrls; clear hst hown hrs hr3 he hrls HU hdk
            go_wp2
            go_ret2
            exact ⟨hbel3, _, _, _, true, rfl, rfl, rfl, Hrls.out⟩
          · obtain rfl : U = none := by rw [HU.out]; exact cont_left Ht.out he hD
            have hp : 0 < D.length := List.length_pos_iff.2 hD
            have hp2 : ((D.length : Int) == 0) = false := by simp; omega
            clear hst hown hrs hr3 he HU hD hdk
            go_wp2
            go_ret2
            exact ⟨hbel3, _, _, _, false, by first | rfl | (rw [hp2]), rfl⟩
    · have hU2 : U = none := by rw [hU]; exact cont_count fun a s2 h1 => by rw [ht] at h1; injection h1 with h1 h2; subst h1; exact hyes
      subst hU2
      have Hcall := Lib.hid hcall
      clear hr hl hU hcall ht
      by_cases h1 : m < 1
      · obtain rfl : m = 0 := by omega
        go_enter Tryd.func45, Tryd.ntmps45
        go_wp2_with fail
        refine Hcall.out.mono ?_
        rintro e w1 ⟨E, d, rfl, hoE, hb1⟩
        clear hoE
        go_wp2
        go_ret2
        exact ⟨hb1, none, 0, 0, false, rfl, rfl⟩
      · have d1 : decide ((m : Int) < 1) = false := by simp; omega
        have d2 : decide ((100 : Int) < (m : Int)) = true := by simp; omega
        go_enter Tryd.func45, Tryd.ntmps45
        go_wp2_with fail
        refine Hcall.out.mono ?_
        rintro e w1 ⟨E, d, rfl, hoE, hb1⟩
        clear hoE
        go_wp2
        go_ret2
        exact ⟨hb1, none, 0, 0, false, rfl, rfl⟩
  · have hU2 : U = none := by rw [hU]; exact cont_count fun a s2 h1 => by rw [ht] at h1; injection h1 with h1 h2; injection h2 with h2 h3; omega
    subst hU2
    have hcall := rtake_err A n c l w hr hn x ht hx
    have Hcall := Lib.hid hcall
    clear hr hl hU hcall ht
    have hx1 : ((x : Int) != 0) = true := by rcases hx with rfl | rfl <;> rfl
    have hx0 : ((x : Int) == 0) = false := by rcases hx with rfl | rfl <;> rfl
    go_enter Tryd.func45, Tryd.ntmps45
    go_wp2_with fail
    refine Hcall.out.mono ?_
    rintro e w1 ⟨E, d, rfl, hoE, hb1⟩
    clear hoE
    go_wp2
    go_ret2
    exact ⟨hb1, none, 0, 0, false, rfl, rfl⟩
end Go.Proofs.YtddnlimkaagpdaaDoor

namespace Go.Proofs.YtddnlimkaagpdaaDoor
open Go.RowKit

/-- A block's records, and where the next one begins; or none. -/
def RetBk (w : World) (t : Option (List Sm.R)) (g : Nat) (e : Ending) (w' : World) : Prop :=
  Below w.heap.size w w' ∧ ∃ A k c E o, e = .returned (.tuple #[.slice A k c, .int .i64 E, .bool o]) ∧ match t with
  | some rs => o = true ∧ k = rs.length ∧ E = (g : Int) ∧ RLS w' (Fr w.heap.size w') A k c rs
  | none => o = false
theorem ret_none {w w' : World} (h : Below w.heap.size w w') (g : Nat) (A : Option Addr) (k c : Nat) (E : Int) : RetBk w none g (.returned (.tuple #[.slice A k c, .int .i64 E, .bool false])) w' := ⟨h, A, k, c, E, false, rfl, rfl⟩

set_option maxRecDepth 100000 in
set_option maxHeartbeats 2000000 in
/-- the document's block -/
theorem rblock_c (A : Option Addr) (n c : Nat) (l : List UInt8) (f : Nat) (w : World) (hr : Rb w w.heap.size A n c l) (hn : n ≤ 900000) (hf : f ≤ n) (G : Nat) (hG : G = Sm.nxt l (f + 1)) :
    Calls Tryd.prog 26 #[.slice A n c, .int .i64 (f : Int)] w (RetBk w (Sm.val l (f, G)) G) := by
  have hl := hr.len
  have hno : ¬ Sm.isM l f → Sm.val l (f, G) = none := fun h => by
    rcases hv : Sm.val l (f, G) with _ | rs
    · rfl
    · exact absurd (Sm.isM_of_take (Sm.val_isM (p := (f, G)) (by rw [hv]; rfl)).2) h
  by_cases h1 : n ≤ f + 1
  · rw [hno fun h => by have := Sm.isM_lt h; omega]
    have d1 : decide ((n : Int) ≤ (f : Int) + 1) = true := by simp; omega
    clear hno hr hl hG
    go_enter Tryd.func26, Tryd.ntmps26
    go_wp2
    go_ret3
    exact ret_none (Below.refl _ _) _ _ _ _ _
  · have hf1 : f + 1 < n := by omega
    have d1 : decide ((n : Int) ≤ (f : Int) + 1) = false := by simp; omega
    obtain ⟨b, off, x, rfl, hb, hcx, hx, _⟩ := hr.at_ (k := f) (by omega)
    obtain ⟨b2, off2, y, e2, hb2, hcy, hy, _⟩ := hr.at_ (k := f + 1) hf1
    injection e2 with e2
    injection e2 with e21 e22 _
    subst e21 e22
    have Hr := Lib.hid hr; have Hl := Lib.hid hl
    clear hr hl
    have e255 : ∀ z : UInt8, z.toNat = 255 ↔ z = 255 := fun z => ⟨fun h => UInt8.toNat_inj.1 h, fun h => by rw [h]; rfl⟩
    have e83 : ∀ z : UInt8, z.toNat = 83 ↔ z = 83 := fun z => ⟨fun h => UInt8.toNat_inj.1 h, fun h => by rw [h]; rfl⟩
    by_cases hx255 : x = 255
    · subst hx255
      have g1 : (((255 : UInt8).toNat : Int) != 255) = false := rfl
      by_cases hy83 : y = 83
      · subst hy83
        have hM : Sm.isM l f := ⟨hx, hy⟩
        have hG2 : G = Sm.nxt l (f + 2) := by rw [hG, Sm.nxt_two' hM]
        have hGb := Sm.nxt_le (b := l) (k := f + 2) (by have := Hl.out; omega)
        rw [← hG2, Hl.out] at hGb
        obtain ⟨X, hX⟩ : ∃ X, X = (l.take G).drop (f + 2) := ⟨_, rfl⟩
        have hXl : X.length ≤ 900000 := by rw [hX, List.length_drop, List.length_take]; omega
        have hval : Sm.val l (f, G) = (Sm.une X).bind fun s => (Sm.opn s).bind Sm.cont := by
          have e : (l.take G).drop f = 255 :: 83 :: X := by
            have hlt : (l.take G).length = G := by rw [List.length_take, Hl.out]; omega
            rw [hX, List.drop_eq_getElem_cons (by omega), List.drop_eq_getElem_cons (by omega)]
            obtain ⟨q1, q2⟩ := List.getElem?_eq_some_iff.1 hx
            obtain ⟨q3, q4⟩ := List.getElem?_eq_some_iff.1 hy
            rw [List.getElem_take, List.getElem_take, q2, q4]
          unfold Sm.val
          dsimp only
          rw [e, Sm.blk_mk]
        obtain ⟨U, hU⟩ : ∃ U, U = Sm.val l (f, G) := ⟨_, rfl⟩
        rw [← hU] at hval ⊢
        have hmk := rmarker_c (some ⟨b, off, none⟩) n c _ l (f + 2) w Hr.out (by omega) (by omega) G hG2
        obtain ⟨D, hD, hrD⟩ := bty.mid_ Hr.out (i := f + 2) (k := G) hGb.1 hGb.2 ((f : Int) + 2) (G : Int) (by omega) rfl (G - (f + 2)) rfl
        rw [← hX] at hrD
        have Hmk := Lib.hid hmk; have HrD := Lib.hid hrD; have HU := Lib.hid hval; have HX := Lib.hid hX
        clear hmk hrD hval hX hM hG2 hG hU hno hx hy e255 e83
        rcases hune : Sm.une X with _ | u
        · obtain rfl : U = none := by rw [HU.out, hune]; rfl
          clear HU
          go_enter Tryd.func26, Tryd.ntmps26
          go_wp2_with fail
          refine Hmk.out.mono ?_
          rintro e w1 ⟨rfl, rfl⟩
          go_wp2_with fail
          refine (runesc_c D (G - (f + 2)) (c - (f + 2)) X _ HrD.out (by omega)).mono ?_
          rw [unS_none hune]
          rintro e w2 ⟨A2, c2, rfl, ho2, hb2⟩
          clear ho2
          go_wp2
          go_ret3
          exact ret_none hb2 _ _ _ _ _
        · have hul : u.length ≤ X.length := Sm.une_len _ X u (Nat.le_refl _) hune
          have hul2 : u.length ≤ 900000 := by omega
          rcases openS_cases u with ⟨y, ho, hop, hyl⟩ | ⟨y, ho, hop, hy⟩
          · have hUc : U = Sm.cont y := by rw [HU.out, hune]; dsimp only [Option.bind_some]; rw [ho]; rfl
            have HUc := Lib.hid hUc
            clear HU hUc
            go_enter Tryd.func26, Tryd.ntmps26
            go_wp2_with fail
            refine Hmk.out.mono ?_
            rintro e w1 ⟨rfl, rfl⟩
            go_wp2_with fail
            refine (runesc_c D (G - (f + 2)) (c - (f + 2)) X _ HrD.out (by omega)).mono ?_
            rw [unS_some hune]
            rintro e w2 ⟨A2, c2, rfl, ho2, hb2⟩
            have z2 := hb2.size
            have hop2 := ropened_c A2 u.length c2 u w2 ho2.rb (by omega)
            rw [hop] at hop2
            have Hop2 := Lib.hid hop2; clear hop2 ho2
            go_wp2_with fail
            refine Hop2.out.mono ?_
            rintro e w3 ⟨A3, c3, rfl, ho3, hb3⟩
            have z3 := hb3.size
            have b3 := hb2.trans (hb3.mono z2)
            have htc := rrecords_c A3 y.length c3 y w3 ho3.rb (by omega)
            rw [← HUc.out] at htc
            have Htc := Lib.hid htc; clear htc ho3
            go_wp2_with fail
            refine Htc.out.mono ?_
            rintro e w4 ⟨hb4, A4, k4, c4, o4, rfl, hm4⟩
            have z4 := hb4.size
            have bz := b3.trans (hb4.mono (by omega))
            have Hm4 := Lib.hid hm4; clear hm4
            go_wp2
            go_ret3
            refine ⟨bz, A4, k4, c4, (G : Int), o4, rfl, ?_⟩
            have hm := Hm4.out
            rcases U with _ | rs
            · exact hm
            · exact ⟨hm.1, hm.2.1, rfl, hm.2.2.keep (stays_weak fun b hb => ⟨Nat.le_trans (by omega) hb.1, hb.2⟩)⟩
          · obtain rfl : U = none := by rw [HU.out, hune]; dsimp only [Option.bind_some]; rw [ho]; rfl
            clear HU
            have hy2 : ((y : Int) == 0) = false := by simp [hy]
            have hy3 : ((y : Int) != 0) = true := by simp [hy]
            go_enter Tryd.func26, Tryd.ntmps26
            go_wp2_with fail
            refine Hmk.out.mono ?_
            rintro e w1 ⟨rfl, rfl⟩
            go_wp2_with fail
            refine (runesc_c D (G - (f + 2)) (c - (f + 2)) X _ HrD.out (by omega)).mono ?_
            rw [unS_some hune]
            rintro e w2 ⟨A2, c2, rfl, ho2, hb2⟩
            have z2 := hb2.size
            have hop2 := ropened_c A2 u.length c2 u w2 ho2.rb (by omega)
            rw [hop] at hop2
            have Hop2 := Lib.hid hop2; clear hop2 ho2
            go_wp2_with fail
            refine Hop2.out.mono ?_
            rintro e w3 ⟨A3, c3, rfl, ho3, hb3⟩
            have b3 := hb2.trans (hb3.mono z2)
            clear ho3
            go_wp2
            go_ret3
            exact ret_none b3 _ _ _ _ _
      · have hM : ¬ Sm.isM l f := fun h => hy83 (by have := h.2; rw [hy] at this; injection this)
        rw [hno hM]
        have g2 : ((y.toNat : Int) != 83) = true := by rw [bne_iff_ne]; intro e; exact hy83 ((e83 y).1 (by omega))
        have g3 : ((y.toNat : Int) == 83) = false := by rw [beq_eq_false_iff_ne]; intro e; exact hy83 ((e83 y).1 (by omega))
        clear hno hM hG hx hy hy83 e255 e83
        go_enter Tryd.func26, Tryd.ntmps26
        go_wp2
        go_ret3
        exact ret_none (Below.refl _ _) _ _ _ _ _
    · have hM : ¬ Sm.isM l f := fun h => hx255 (by have := h.1; rw [hx] at this; injection this)
      rw [hno hM]
      have g2 : ((x.toNat : Int) != 255) = true := by rw [bne_iff_ne]; intro e; exact hx255 ((e255 x).1 (by omega))
      have g3 : ((x.toNat : Int) == 255) = false := by rw [beq_eq_false_iff_ne]; intro e; exact hx255 ((e255 x).1 (by omega))
      clear hno hM hG hx hy hx255 e255 e83
      go_enter Tryd.func26, Tryd.ntmps26
      go_wp2
      go_ret3
      exact ret_none (Below.refl _ _) _ _ _ _ _
end Go.Proofs.YtddnlimkaagpdaaDoor
