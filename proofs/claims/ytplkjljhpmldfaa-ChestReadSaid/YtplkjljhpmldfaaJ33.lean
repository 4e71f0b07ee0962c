/-
  Joined: R7.
-/
import Derived.Test.YtplkjljhpmldfaaJ10
import Derived.Test.YtplkjljhpmldfaaJ5
import Derived.Test.YtplkjljhpmldfaaJ32
/-
  field.Decode: what the call returns and leaves.
-/
namespace Go.Proofs.Ytplkjljhpmldfaa
open Go.RowKit

theorem Rx.rls {w : World} {base bo b n c : Nat} {av : Option Nat} {A : Option Addr} {vs : List Value} {l : List (List (List UInt8))} (h : Rx w base av vs l) (ho : Oc 1 w 48 bo A n c vs) (hb : b ≤ base) (hbo : b ≤ bo) : RLS w (Fr b w) A n c l :=
  ⟨vs, (ho.mono hbo).rcS, h.1, fun j v r h1 h2 => by
    obtain ⟨D, d, e, hr, _⟩ := h.2 j v r h1 h2
    exact ⟨D, _, d, e, (hr.mono hb).rcS⟩⟩
def preR (d : List (List (List UInt8))) : Except Nat (List (List (List UInt8)) × List UInt8) → Except Nat (List (List (List UInt8)) × List UInt8)
  | .error x => .error x
  | .ok (r, t) => .ok (d ++ r, t)
def Dss (m : Nat) (T : List UInt8) (k : Nat) (done : List (List (List UInt8))) (D : List UInt8) : Prop := Fm.decRs m T = preR done (Fm.decRs (m - k) D)
theorem Dss.start (m : Nat) (T : List UInt8) : Dss m T 0 [] T := by
  unfold Dss
  rw [Nat.sub_zero]
  cases Fm.decRs m T with
  | error x => rfl
  | ok p => rfl
theorem Dss.step {m k : Nat} {T D R : List UInt8} {S : List (List UInt8)} {done : List (List (List UInt8))} (h : Dss m T k done D) (hk : k < m) (hf : Fm.decR D = .ok (S, R)) : Dss m T (k + 1) (done ++ [S]) R := by
  unfold Dss at h ⊢
  obtain ⟨j, hj⟩ : ∃ j, m - k = j + 1 := ⟨m - k - 1, by omega⟩
  have hj2 : m - (k + 1) = j := by omega
  rw [h, hj, hj2]
  show preR done (Fm.decRs (j + 1) D) = _
  rw [Fm.decRs, hf]
  dsimp only
  cases Fm.decRs j R with
  | error x => rfl
  | ok p => obtain ⟨r, t⟩ := p; simp [preR]
theorem Dss.err {m k x : Nat} {T D : List UInt8} {done : List (List (List UInt8))} (h : Dss m T k done D) (hk : k < m) (hf : Fm.decR D = .error x) : Fm.decRs m T = .error x := by
  unfold Dss at h
  obtain ⟨j, hj⟩ : ∃ j, m - k = j + 1 := ⟨m - k - 1, by omega⟩
  rw [h, hj, Fm.decRs, hf]
  rfl
theorem Dss.end_ {m : Nat} {T D : List UInt8} {done : List (List (List UInt8))} (h : Dss m T m done D) : Fm.decRs m T = .ok (done, D) := by
  unfold Dss at h
  rw [h, Nat.sub_self]
  simp [Fm.decRs, preR]
/-- What Decode comes to. -/
def decS (T : List UInt8) : List (List (List UInt8)) × Nat := match Fm.dec T with | .ok l => (l, 0) | .error x => ([], x)
theorem decS_cnt {l : List UInt8} {x : Nat} (h : cnt l 5000 = .error x) : decS l = ([], x) := by unfold decS; rw [dec_cnt, h]
theorem decS_rs {l T : List UInt8} {m x : Nat} (h : cnt l 5000 = .ok (m, T)) (h2 : Fm.decRs m T = .error x) : decS l = ([], x) := by unfold decS; rw [dec_cnt, h]; dsimp only; rw [h2]
theorem decS_left {l T D : List UInt8} {m : Nat} {L : List (List (List UInt8))} (h : cnt l 5000 = .ok (m, T)) (h2 : Fm.decRs m T = .ok (L, D)) (hD : D ≠ []) : decS l = ([], 3) := by unfold decS; rw [dec_cnt, h]; dsimp only; rw [h2]; dsimp only; rw [if_neg hD]
theorem decS_ok {l T D : List UInt8} {m : Nat} {L : List (List (List UInt8))} (h : cnt l 5000 = .ok (m, T)) (h2 : Fm.decRs m T = .ok (L, D)) (hD : D = []) : decS l = (L, 0) := by unfold decS; rw [dec_cnt, h]; dsimp only; rw [h2]; dsimp only; rw [if_pos hD]
def RetD (w : World) (t : List (List (List UInt8)) × Nat) (e : Ending) (w' : World) : Prop :=
  ∃ A c, e = .returned (.tuple #[.slice A t.1.length c, .int .i64 (t.2 : Int)]) ∧ RLS w' (Fr w.heap.size w') A t.1.length c t.1 ∧ Below w.heap.size w w'
theorem RL.nil (w : World) (B : Nat) : RL w B none 0 0 [] := ⟨[], Rc.nil _ _ _, Rrs.nil _ _⟩

def DecRel (B base : Nat) (w : World) (m : Nat) (T : List UInt8) (r o i : Value) (wr : World) : Prop :=
  ∃ E d D A c vs done, ∃ k : Nat, r = .slice E D.length d ∧ o = .slice A k c ∧ i = .int .i64 (k : Int) ∧ k ≤ m ∧ done.length = k ∧ Rb wr B E D.length d D ∧ D.length ≤ 1000000 ∧
    Oc 1 wr 48 base A k c vs ∧ Rx wr base (ob A) vs done ∧ Dss m T k done D ∧ Below base w wr

set_option maxRecDepth 100000 in
set_option maxHeartbeats 2000000 in
/-- Decode -/
theorem decode_c (A : Option Addr) (n c : Nat) (l : List UInt8) (w : World) (hr : Rb w w.heap.size A n c l) (hn : n ≤ 1000000) :
    Calls Try.prog 63 #[.slice A n c] w (RetD w (decS l)) := by
  have hl := hr.len
  cases hc : cnt l 5000 with
  | error x =>
    have hx := cnt_x hc
    have Hf := Lib.hid (decS_cnt hc)
    have Hr := Lib.hid hr; have Hc := Lib.hid hc; clear hr hc hl
    go_enter Try.func63, Try.ntmps63
    go_wp2_with fail
    refine (takeCount_err A n c _ l 5000 5000 x _ Hr.out (Nat.le_refl _) hn rfl (by omega) Hc.out).mono ?_
    rintro e w1 ⟨rfl, hb1⟩
    have hx2 := hx.1
    go_wp2
    go_ret2
    rw [Hf.out]
    exact ⟨none, 0, rfl, RLS.nil, hb1⟩
  | ok p =>
    obtain ⟨m, T⟩ := p
    obtain ⟨hm, hTl⟩ := cnt_small hc
    have hT : T.length ≤ 1000000 := by omega
    have Hr := Lib.hid hr; have Hc := Lib.hid hc; clear hr hc hl
    go_enter Try.func63, Try.ntmps63
    go_wp2_with fail
    refine (takeCount_ok A n c _ l 5000 5000 m T _ Hr.out (Nat.le_refl _) hn rfl (by omega) Hc.out).mono ?_
    rintro e w1 ⟨E, d, rfl, hrE, hb1⟩
    have z1 := hb1.size
    have HrE := Lib.hid hrE; clear hrE
    go_wp2
    go_loopw [5, 7, 19] (fun r o i wr => DecRel w.heap.size w1.heap.size w1 m T r o i wr) (fun _ _ i _ => m - (intOf i).toNat)
    case atStart => exact ⟨E, d, T, none, 0, [], [], 0, rfl, rfl, rfl, Nat.zero_le _, rfl, HrE.out, hT, Oc.nil _ _ _ _, Rx.nil _ _ _, Dss.start m T, Below.refl _ _⟩
    case round =>
      obtain ⟨E3, d3, D, A3, c3, vs, done, k, rfl, rfl, rfl, hk, hdk, hr3, hDl, hrow, hrx, hst, hbel3⟩ := hrel
      have z3 := hbel3.size
      by_cases hlt : k < m
      · cases hf : Fm.decR D with
        | error x =>
          have hx := decR_x hf
          have Hf := Lib.hid (decS_rs Hc.out (hst.err hlt hf))
          have Hr3 := Lib.hid hr3; have Htf := Lib.hid hf; clear hst hf hr3 hrow hrx hdk
          have hx2 := hx.1
          clear hx
          go_wp2_with fail
          refine (takeRecord_err E3 D.length d3 _ D x _ Hr3.out (by omega) hDl Htf.out).mono ?_
          rintro e w4 ⟨rfl, hb4⟩
          have bz : Below w.heap.size w w4 := (hb1.trans (hbel3.mono z1)).trans (hb4.mono (by omega))
          go_wp2
          go_ret2
          rw [Hf.out]
          exact ⟨none, 0, rfl, RLS.nil, bz⟩
        | ok p =>
          obtain ⟨S, R⟩ := p
          have hRl := decR_small hf
          have hRl2 : R.length ≤ 1000000 := by omega
          have Hst := Lib.hid (hst.step hlt hf)
          have hrv := hrx.1
          have Hr3 := Lib.hid hr3; have Htf := Lib.hid hf; have Hrow := Lib.hid hrow; have Hrx := Lib.hid hrx; have Hdk := Lib.hid hdk; clear hst hf hr3 hrow hrx hdk
          go_wp2_with fail
          refine (takeRecord_ok E3 D.length d3 _ D R S _ Hr3.out (by omega) hDl Htf.out).mono ?_
          rintro e w4 ⟨D4, d4, E4, e4, rfl, hs4, hr4, hb4⟩
          have z4 := hb4.size
          obtain ⟨w5, hw5⟩ : ∃ w5, w5 = w4.alloc (.cells #[.slice D4 S.length d4] 48) := ⟨_, rfl⟩
          have b45 : Below w4.heap.size w4 w5 := by rw [hw5]; exact (Below.refl _ _).alloc (Nat.le_refl _) _
          have hrow4 := Hrow.out.keep hb4
          have hrow5 := hrow4.keep b45
          have hnD : ob D4 = none ∨ ob D4 ≠ ob A3 := by
            cases hD : ob D4 with
            | none => exact .inl rfl
            | some b =>
              refine .inr fun e2 => ?_
              have h1 := (oc_ob hs4 b hD).1
              have h2 := (oc_ob Hrow.out b e2.symm).2
              omega
          have hrx5 := ((Hrx.out.below hb4).snoc (hs4.mono (by omega)) hnD).below b45
          have hr5 := hr4.below (b45.mono (by omega))
          have b5 : Below w1.heap.size w1 w5 := (hbel3.trans (hb4.mono (by omega))).trans (b45.mono (by omega))
          have z5 := b45.size
          have hlit : Rc 1 w5 (w4.heap.size + 1) (some ⟨w4.heap.size, 0, none⟩) 1 1 [.slice D4 S.length d4] := by rw [hw5]; exact Rc.lit w4 _ #[.slice D4 S.length d4] 1 rfl (by simp [maxLen])
          have Hlit := Lib.hid hlit; have Hrow5 := Lib.hid hrow5; have Hrx5 := Lib.hid hrx5; have Hr5 := Lib.hid hr5; have W5 := Lib.hid hw5
          clear hlit hrow5 hrow4 hrx5 hr5 hr4 hw5 hs4 hnD b45
          go_wp2_with (at_builtin; rw [← W5.out]; go_must (refine Sl.wpAppAt rty rfl (.tmp 30) (.tmp 32) rfl (n := k) (m := 1) (N := k + 1) (ws := vs ++ [.slice D4 S.length d4]) rfl rfl Hrow5.out Hlit.out ?hs1 rfl rfl ?hs4 ?hs5 ?hs6 ?_))
          case hs1 => simp [Value.oneCell']
          case hs4 => omega
          case hs5 => omega
          case hs6 => omega
          intro A6 c6 w6 hown6 hg6
          have b6 := b5.trans (hg6.belowC Hrow5.out (by omega))
          have hrx6 := Hrx5.out.grow hg6
          have hr6 := Hr5.out.below ((hg6.belowC Hrow5.out (by omega)).mono z1)
          have Hown6 := Lib.hid hown6; have Hrx6 := Lib.hid hrx6; have Hr6 := Lib.hid hr6; clear hown6 hrx6 hr6 hg6
          go_wp2
          go_roundw
          case rel => exact ⟨E4, e4, R, A6, c6, vs ++ [.slice D4 S.length d4], done ++ [S], k + 1, rfl, rfl, by go_num, by omega, by rw [List.length_append, Hdk.out]; rfl, Hr6.out, hRl2, Hown6.out, Hrx6.out, Hst.out, b6⟩
          case measure => simp [intOf]; omega
      · have hkm : k = m := by omega
        subst hkm
        have bz : Below w.heap.size w wr := hb1.trans (hbel3.mono z1)
        have hrl := hrx.rls hrow (b := w.heap.size) z1 z1
        have He := hst.end_
        by_cases hD : D = []
        · have Hf := Lib.hid (decS_ok Hc.out He hD)
          subst hD
          have Hrl := Lib.hid hrl; have Hdk := Lib.hid hdk; clear hst hrow hrx hr3 hdk He hrl
          go_wp2
          go_ret2
          rw [Hf.out]
          show ∃ A c, _ ∧ RLS wr (Fr w.heap.size wr) A done.length c done ∧ _
          rw [Hdk.out]
          exact ⟨A3, c3, rfl, Hrl.out, bz⟩
        · have Hf := Lib.hid (decS_left Hc.out He hD)
          have hp : 0 < D.length := List.length_pos_iff.2 hD
          clear hst hrow hrx hr3 hdk He hrl hD
          go_wp2
          go_ret2
          rw [Hf.out]
          exact ⟨none, 0, rfl, RLS.nil, bz⟩
end Go.Proofs.Ytplkjljhpmldfaa
