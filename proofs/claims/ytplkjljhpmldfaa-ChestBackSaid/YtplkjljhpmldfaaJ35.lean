/-
  Joined: R9.
-/
import Derived.Test.YtplkjljhpmldfaaJ33
import Derived.Test.YtplkjljhpmldfaaJ34
/-
  The document's Decode: what the call returns and leaves.
-/
namespace Go.Proofs.Ytplkjljhpmldfaa
open Go.RowKit

theorem takeF_all (l : List UInt8) : (∃ S R, Fm.takeF l = .ok (S, R) ∧ tframeS l 1000 = (S, R, 0)) ∨ (∃ x, Fm.takeF l = .error x ∧ tframeS l 1000 = ([], [], x) ∧ (x = 2 ∨ x = 3 ∨ x = 5)) := by
  rcases tk_cases l with ⟨a, s, ht, ha, hs, hs10⟩ | ⟨x, ht, hx⟩
  · by_cases h1 : 1000 < a
    · refine .inr ⟨5, ?_, tframeS_err _ _ 5 (frameS_large _ _ a s ht (.inr (by omega))) (by omega), by omega⟩
      unfold Fm.takeF
      rw [ht]
      simp [h1]
    · by_cases h2 : l.length - s < a
      · refine .inr ⟨2, ?_, tframeS_err _ _ 2 (frameS_short _ _ a s ht (by omega) h2) (by omega), by omega⟩
        unfold Fm.takeF
        rw [ht]
        simp [h1, h2]
      · refine .inl ⟨(l.drop s).take a, (l.drop s).drop a, ?_, ?_⟩
        · unfold Fm.takeF
          rw [ht]
          simp [h1, h2]
        · rw [tframeS_ok _ _ _ _ (frameS_ok _ _ a s ht (by omega) h2)]
          rw [List.drop_take, List.drop_drop]
          simp
  · refine .inr ⟨x, ?_, tframeS_err _ _ x (frameS_err _ _ x ht hx) (by omega), by omega⟩
    unfold Fm.takeF
    rw [ht]
    simp only
    rw [if_neg (by omega)]
theorem rtf_n (A : Option Addr) (n c : Nat) (l S R : List UInt8) (y : Nat) (w : World) (hr : Rb w w.heap.size A n c l) (hn : n ≤ 1000000) (h : tframeS l 1000 = (S, R, y)) :
    Calls Try.prog 65 #[.slice A n c, .int .i64 1000] w (RetF w.heap.size w (S, R, y)) := by
  have := rtakeFrame_c A n c l 1000 w hr hn (by unfold I64; omega)
  rwa [h] at this

theorem sty2 : Sl Try.prog 48 9 (.string ⟨#[]⟩) 1 16 := ⟨Try.underlying48, by kernel_rfl, rfl, by omega⟩
theorem own_beside {w w' : World} {e : TypeId} {base c : Nat} {A D D' : Option Addr} {l : List UInt8} (h : Own w e base A c l) (hg : Grows w w' D D') (hne : ob A = none ∨ ob A ≠ ob D) : Own w' e base A c l :=
  World.ownsRow.kept h hg.1 (by rw [ownBlock_slice]; exact hne)
/-- What was made later lies elsewhere. -/
theorem ob_apart {A D : Option Addr} {b : Nat} (hA : ∀ g, ob A = some g → b ≤ g) (hD : ∀ g, ob D = some g → g < b) : ob A = none ∨ ob A ≠ ob D := by
  cases h : ob A with
  | none => exact .inl rfl
  | some g =>
    refine .inr fun e => ?_
    have h1 := hA g h
    have h2 := hD g e.symm
    omega
def RdIn (b3 base : Nat) (w : World) (m : Nat) (T : List UInt8) (r o i : Value) (wr : World) : Prop :=
  ∃ E d D A c done, ∃ k : Nat, r = .slice E D.length d ∧ o = .slice A k c ∧ i = .int .u64 (k : Int) ∧ k ≤ m ∧ done.length = k ∧ Own wr 5 b3 E d D ∧ D.length ≤ 1000000 ∧
    Oc 1 wr 9 base A k c (lvs done) ∧ Dst m T k done D ∧ Below base w wr
def RdOut (base : Nat) (w : World) (m : Nat) (T : List UInt8) (r o i : Value) (wr : World) : Prop :=
  ∃ E d D A c vs done, ∃ k : Nat, r = .slice E D.length d ∧ o = .slice A k c ∧ i = .int .u64 (k : Int) ∧ k ≤ m ∧ done.length = k ∧ Rb wr wr.heap.size E D.length d D ∧ D.length ≤ 1000000 ∧
    Oc 1 wr 48 base A k c vs ∧ Rx wr base (ob A) vs done ∧ Dss m T k done D ∧ Below base w wr

set_option maxRecDepth 100000 in
set_option maxHeartbeats 4000000 in
/-- the document's Decode -/
theorem rdecode_c (A : Option Addr) (n c : Nat) (l : List UInt8) (w : World) (hr : Rb w w.heap.size A n c l) (hn : n ≤ 1000000) :
    Calls Try.prog 42 #[.slice A n c] w (RetD w (decS l)) := by
  have hl := hr.len
  rcases tk_cases l with ⟨a, s, ht, ha, hs, hs10⟩ | ⟨x, ht, hx⟩
  · by_cases hbig : 5000 < a
    · have Hf := Lib.hid (decS_cnt (cnt_large ht hbig))
      have Hr := Lib.hid hr; have Ht := Lib.hid ht; clear hr ht hl ha
      go_enter Try.func42, Try.ntmps42
      go_wp2_with fail
      refine (rtake_ok A n c l _ Hr.out hn a s Ht.out).mono ?_
      rintro e w1 ⟨A1, c1, rfl, hown1, hb1⟩
      clear hown1
      go_wp2
      go_ret2
      rw [Hf.out]
      exact ⟨none, 0, rfl, RLS.nil, hb1⟩
    · have hc := cnt_ok (most := 5000) ht (by omega)
      obtain ⟨T, hT⟩ : ∃ T, l.drop s = T := ⟨_, rfl⟩
      have hTl : T.length ≤ 1000000 := by rw [← hT, List.length_drop]; omega
      rw [hT] at hc
      have c1 : ∀ W, Rb W W.heap.size A n c l → Calls Try.prog 40 #[.slice A n c] W (RetT W.heap.size W (a, T, 0)) := fun W hW => by rw [← hT]; exact rtake_ok A n c l W hW hn a s ht
      have Hr := Lib.hid hr; have Hc := Lib.hid hc; have C1 := Lib.hid c1; clear hr ht hl ha hT hc c1 hs
      go_enter Try.func42, Try.ntmps42
      go_wp2_with fail
      refine (C1.out _ Hr.out).mono ?_
      rintro e w1 ⟨E, d, rfl, hownE, hb1⟩
      have z1 := hb1.size
      have hrE := hownE.rb
      have HrE := Lib.hid hrE; clear hrE hownE
      go_wp2
      go_loopw [0, 6, 7] (fun r o i wr => RdOut w1.heap.size w1 a T r o i wr) (fun _ _ i _ => a - (intOf i).toNat)
      case atStart => exact ⟨E, d, T, _, _, [], [], 0, rfl, rfl, rfl, Nat.zero_le _, rfl, (HrE.out.alloc (Nat.le_refl _) _).more (by simp), hTl, Oc.made0 1 _ _, Rx.nil _ _ _, Dss.start a T, (Below.refl _ _).alloc (Nat.le_refl _) _⟩
      case round =>
        obtain ⟨E3, d3, D, A3, c3, vs, done, k, rfl, rfl, rfl, hk, hdk, hr3, hDl, hrow, hrx, hst, hbel3⟩ := hrel
        have z3 := hbel3.size
        rename World => wr3
        by_cases hlt : k < a
        · rcases tk_cases D with ⟨m, s2, ht, ha2, hs2, hs210⟩ | ⟨x, ht, hx⟩
          · by_cases hbig2 : 50 < m
            · have hcR : Fm.decR D = .error 5 := by rw [decR_cnt, cnt_large ht hbig2]
              have Hf := Lib.hid (decS_rs Hc.out (hst.err hlt hcR))
              have Hr3 := Lib.hid hr3; have Ht := Lib.hid ht; clear hr3 ht hst hrow hrx hdk hcR
              go_wp2_with fail
              refine (rtake_ok E3 D.length d3 D _ Hr3.out hDl m s2 Ht.out).mono ?_
              rintro e w4 ⟨A4, c4, rfl, hown4, hb4⟩
              clear hown4
              go_wp2
              go_ret2
              rw [Hf.out]
              exact ⟨none, 0, rfl, RLS.nil, (hb1.trans (hbel3.mono z1)).trans (hb4.mono (by omega))⟩
            · obtain ⟨T2, hT2⟩ : ∃ T2, D.drop s2 = T2 := ⟨_, rfl⟩
              have hT2l : T2.length ≤ 1000000 := by rw [← hT2, List.length_drop]; omega
              have hcR : Fm.decR D = Fm.decFs m T2 := by rw [decR_cnt, cnt_ok ht (by omega), hT2]
              have c2 : ∀ W, Rb W W.heap.size E3 D.length d3 D → Calls Try.prog 40 #[.slice E3 D.length d3] W (RetT W.heap.size W (m, T2, 0)) := fun W hW => by rw [← hT2]; exact rtake_ok E3 D.length d3 D W hW hDl m s2 ht
              have Hr3 := Lib.hid hr3; have C2 := Lib.hid c2; have Hrow := Lib.hid hrow; have Hrx := Lib.hid hrx; have Hst := Lib.hid hst; have Hdk := Lib.hid hdk; have HcR := Lib.hid hcR
              clear hr3 ht hst hrow hrx hdk hcR c2 hT2 ha2 hs2 hDl
              go_wp2_with fail
              refine (C2.out _ Hr3.out).mono ?_
              rintro e w4 ⟨E4, d4, rfl, hown4, hb4⟩
              have z4 := hb4.size
              have Hr4 := Lib.hid hown4; clear hown4
              go_wp2
              go_loopw [9, 11, 12] (fun r o i wr => RdIn wr3.heap.size w4.heap.size w4 m T2 r o i wr) (fun _ _ i _ => m - (intOf i).toNat)
              case atStart => exact ⟨E4, d4, T2, _, _, [], 0, rfl, rfl, rfl, Nat.zero_le _, rfl, Hr4.out.alloc _, hT2l, Oc.made0 1 _ _, Dst.start m T2, (Below.refl _ _).alloc (Nat.le_refl _) _⟩
              case round =>
                obtain ⟨E5, d5, D5, A5, c5, fs, j, rfl, rfl, rfl, hj, hfj, hr5, hD5l, hrow5, hst5, hbel5⟩ := hrel
                have z5 := hbel5.size
                rename World => wr5
                by_cases hjt : j < m
                · rcases takeF_all D5 with ⟨S, R, hf, htf⟩ | ⟨x, hf, htf, hx⟩
                  · have hRl : R.length ≤ 1000000 := by have := (takeF_small hf).1; omega
                    have Hst5 := Lib.hid (hst5.step hjt hf)
                    have Hr5 := Lib.hid hr5; have Htf := Lib.hid htf; have Hrow5 := Lib.hid hrow5; have Hfj := Lib.hid hfj; clear hr5 htf hrow5 hst5 hf hfj
                    go_wp2_with fail
                    refine (rtf_n E5 D5.length d5 D5 S R 0 _ Hr5.out.rb hD5l Htf.out).mono ?_
                    rintro e w6 ⟨E6, d6, rfl, hown6, hb6⟩
                    have z6 := hb6.size
                    have hrow6 := Hrow5.out.keep hb6
                    have hap : ob E6 = none ∨ ob E6 ≠ ob A5 := ob_apart (b := wr5.heap.size) (fun g hg => (own_ob hown6 g hg).1) (fun g hg => (oc_ob Hrow5.out g hg).2)
                    have Hr6 := Lib.hid hown6; have Hrow6 := Lib.hid hrow6; have Hap := Lib.hid hap; clear hrow6 hown6 hap
                    have hj50 : j ≤ 50 := by omega
                    go_wp2_with (at_builtin; go_must (refine Sl.wpAppAt sty2 rfl (.tmp 59) (.tmp 61) rfl (n := j) (m := 1) (N := j + 1) (ws := lvs (fs ++ [S])) rfl rfl (Hrow6.out.alloc _) (Rc.litAt (z := 1) _ _ _ 1 w6.heap.size rfl rfl (by simp [maxLen])) ?hs1 rfl ?hs3 ?hs4 ?hs5 ?hs6 ?_))
                    case hs1 => simp [Value.oneCell']
                    case hs3 => simp [lvs]
                    case hs4 => omega
                    case hs5 => omega
                    case hs6 => simp; omega
                    intro A7 c7 w7 hown7 hg7
                    have b7 : Below w4.heap.size w4 w7 := (hbel5.trans (hb6.mono z5)).trans (((Below.refl _ _).alloc (by omega) _).trans (hg7.belowC (Hrow6.out.alloc _) (by simp; omega)))
                    have hr7 := (own_beside (Hr6.out.alloc _) hg7 Hap.out).mono (base' := wr3.heap.size) (by omega)
                    have Hr7 := Lib.hid hr7; have Hown7 := Lib.hid hown7; clear hr7 hown7 hg7
                    go_wp2
                    go_roundw
                    case rel => exact ⟨E6, d6, R, A7, c7, fs ++ [S], j + 1, rfl, rfl, by go_num, by omega, by rw [List.length_append, Hfj.out]; rfl, Hr7.out, hRl, Hown7.out, Hst5.out, b7⟩
                    case measure => simp [intOf]; omega
                  · have hcR2 : Fm.decR D = .error x := by rw [HcR.out]; exact hst5.err hjt hf
                    have Hf := Lib.hid (decS_rs Hc.out (Hst.out.err hlt hcR2))
                    have hx1 : 2 ≤ x := by omega
                    have Hr5 := Lib.hid hr5; have Htf := Lib.hid htf; clear hr5 htf hrow5 hst5 hf hfj hcR2 hx
                    go_wp2_with fail
                    refine (rtf_n E5 D5.length d5 D5 [] [] x _ Hr5.out.rb hD5l Htf.out).mono ?_
                    rintro e w6 ⟨E6, d6, rfl, hown6, hb6⟩
                    clear hown6
                    have bz : Below w.heap.size w w6 := (((hb1.trans (hbel3.mono z1)).trans (hb4.mono (by omega))).trans (hbel5.mono (by omega))).trans (hb6.mono (by omega))
                    go_wp2
                    go_ret2
                    rw [Hf.out]
                    exact ⟨none, 0, rfl, RLS.nil, bz⟩
                · have hjm : j = m := by omega
                  subst hjm
                  have hcR2 : Fm.decR D = .ok (fs, D5) := by rw [HcR.out]; exact hst5.end_
                  have Hst2 := Lib.hid (Hst.out.step hlt hcR2)
                  obtain ⟨w6, hw6⟩ : ∃ w6, w6 = wr5.alloc (.cells #[.slice A5 j c5] 48) := ⟨_, rfl⟩
                  have b56 : Below wr5.heap.size wr5 w6 := by rw [hw6]; exact (Below.refl _ _).alloc (Nat.le_refl _) _
                  have b35 : Below wr3.heap.size wr3 wr5 := hb4.trans (hbel5.mono z4)
                  have hrow5' := Hrow.out.keep b35
                  have hlt3 : ∀ g, ob A3 = some g → g < wr3.heap.size := fun g hg => (oc_ob Hrow.out g hg).2
                  have hapR : ob A5 = none ∨ ob A5 ≠ ob A3 := ob_apart (b := wr3.heap.size) (fun g hg => Nat.le_trans z4 (oc_ob hrow5 g hg).1) hlt3
                  have hapE : ob E5 = none ∨ ob E5 ≠ ob A3 := ob_apart (b := wr3.heap.size) (fun g hg => (own_ob hr5 g hg).1) hlt3
                  have hfr : Oc 1 wr5 9 w1.heap.size A5 fs.length c5 (lvs fs) := by rw [hfj]; exact hrow5.mono (by omega)
                  have hrx5 := (Hrx.out.below b35).snoc hfr hapR
                  rw [hfj] at hrx5
                  have hrx6 := hrx5.below b56
                  have hrow6 := hrow5'.keep b56
                  have hr6 := hr5.keep b56
                  have hlit : Rc 1 w6 (wr5.heap.size + 1) (some ⟨wr5.heap.size, 0, none⟩) 1 1 [.slice A5 j c5] := by rw [hw6]; exact Rc.lit wr5 _ #[.slice A5 j c5] 1 rfl (by simp [maxLen])
                  have z6 := b56.size
                  have b6 : Below w1.heap.size w1 w6 := (hbel3.trans (b35.mono (by omega))).trans (b56.mono (by omega))
                  have Hlit := Lib.hid hlit; have Hrow6 := Lib.hid hrow6; have Hrx6 := Lib.hid hrx6; have Hr6 := Lib.hid hr6; have W6 := Lib.hid hw6; have HapE := Lib.hid hapE
                  clear hlit hrow6 hrx6 hr6 hw6 hapE hapR hrow5' hrx5 hfr hlt3 hcR2 hr5 hrow5 hst5 hfj b56 b35
                  go_wp2_with (at_builtin; rw [← W6.out]; go_must (refine Sl.wpAppAt rty rfl (.tmp 64) (.tmp 66) rfl (n := k) (m := 1) (N := k + 1) (ws := vs ++ [.slice A5 j c5]) rfl rfl Hrow6.out Hlit.out ?hs7 rfl rfl ?hs10 ?hs11 ?hs12 ?_))
                  case hs7 => simp [Value.oneCell']
                  case hs10 => omega
                  case hs11 => omega
                  case hs12 => omega
                  intro A7 c7 w7 hown7 hg7
                  have b7 := b6.trans (hg7.belowC Hrow6.out (by omega))
                  have hrx7 := Hrx6.out.grow hg7
                  have hr7 := (own_beside Hr6.out hg7 HapE.out).rb
                  have Hown7 := Lib.hid hown7; have Hrx7 := Lib.hid hrx7; have Hr7 := Lib.hid hr7; clear hown7 hrx7 hr7 hg7
                  go_wp2
                  go_roundw
                  case rel => exact ⟨E5, d5, D5, A7, c7, vs ++ [.slice A5 j c5], done ++ [fs], k + 1, rfl, rfl, by go_num, by omega, by rw [List.length_append, Hdk.out]; rfl, Hr7.out, hD5l, Hown7.out, Hrx7.out, Hst2.out, b7⟩
                  case measure => simp [intOf]; omega
          · have hcR : Fm.decR D = .error x := by rw [decR_cnt, cnt_err ht hx]
            have Hf := Lib.hid (decS_rs Hc.out (hst.err hlt hcR))
            have hx1 : 2 ≤ x := by omega
            have Hr3 := Lib.hid hr3; have Ht := Lib.hid ht; have Hx := Lib.hid hx; clear hr3 ht hst hrow hrx hdk hcR hx
            go_wp2_with fail
            refine (rtake_err E3 D.length d3 D _ Hr3.out hDl x Ht.out Hx.out).mono ?_
            rintro e w4 ⟨A4, c4, rfl, hown4, hb4⟩
            clear hown4
            go_wp2
            go_ret2
            rw [Hf.out]
            exact ⟨none, 0, rfl, RLS.nil, (hb1.trans (hbel3.mono z1)).trans (hb4.mono (by omega))⟩
        · have hkm : k = a := by omega
          subst hkm
          have bz : Below w.heap.size w wr3 := hb1.trans (hbel3.mono z1)
          have hrl := hrx.rls hrow (b := w.heap.size) z1 z1
          have He := hst.end_
          by_cases hD : D = []
          · have Hf := Lib.hid (decS_ok Hc.out He hD)
            subst hD
            have Hrl := Lib.hid hrl; have Hdk := Lib.hid hdk; clear hst hrow hrx hr3 hdk He hrl
            go_wp2
            go_ret2
            rw [Hf.out]
            show ∃ A c, _ ∧ RLS wr3 (Fr w.heap.size wr3) A done.length c done ∧ _
            rw [Hdk.out]
            exact ⟨A3, c3, rfl, Hrl.out, bz⟩
          · have Hf := Lib.hid (decS_left Hc.out He hD)
            have hp : 0 < D.length := List.length_pos_iff.2 hD
            clear hst hrow hrx hr3 hdk He hrl hD
            go_wp2
            go_ret2
            rw [Hf.out]
            exact ⟨none, 0, rfl, RLS.nil, bz⟩
  · have Hf := Lib.hid (decS_cnt (cnt_err (most := 5000) ht hx))
    have Hr := Lib.hid hr; have Ht := Lib.hid ht; have Hx := Lib.hid hx; clear hr ht hl
    have hx1 : 2 ≤ x := by omega
    clear hx
    go_enter Try.func42, Try.ntmps42
    go_wp2_with fail
    refine (rtake_err A n c l _ Hr.out hn x Ht.out Hx.out).mono ?_
    rintro e w1 ⟨A1, c1, rfl, hown1, hb1⟩
    clear hown1
    go_wp2
    go_ret2
    rw [Hf.out]
    exact ⟨none, 0, rfl, RLS.nil, hb1⟩
end Go.Proofs.Ytplkjljhpmldfaa
