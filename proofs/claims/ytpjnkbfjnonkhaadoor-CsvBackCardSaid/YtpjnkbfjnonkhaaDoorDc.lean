/-
  bytes.Equal; csv's Canon, the document's Canon: what each call returns and leaves.
-/
import Derived.Test.YtpjnkbfjnonkhaaDoorDz
import Derived.Deep.RegionHeld3
namespace Go.Proofs.YtpjnkbfjnonkhaaDoor
open Go.RowKit

theorem mk_ne {l r : List UInt8} (h : l ≠ r) : (⟨l.toArray⟩ : ByteArray) ≠ ⟨r.toArray⟩ := fun e => h (by
  have := congrArg (fun b : ByteArray => b.data.toList) e
  simpa using this)

set_option maxRecDepth 100000 in
/-- bytes.Equal -/
theorem equal_c (A D : Option Addr) (n c m d B B' : Nat) (l r : List UInt8) (w : World) (h1 : Rb w B A n c l) (h2 : Rb w B' D m d r) (o : Bool) (ho : o = (l == r)) :
    Calls Tryd.prog 24 #[.slice A n c, .slice D m d] w fun e w' => e = .returned (.bool o) ∧ w = w' := by
  have cv1 := bty.conv h1
  have cv2 := bty.conv h2
  clear h1 h2
  by_cases h : l = r
  · subst h
    obtain rfl : o = true := by rw [ho]; simp
    clear ho
    go_enter Tryd.func24, Tryd.ntmps24
    go_wp2
    go_ret
    exact ⟨rfl, rfl⟩
  · obtain rfl : o = false := by rw [ho]; simpa using h
    clear ho
    go_enter Tryd.func24, Tryd.ntmps24
    go_wp2
    go_ret
    exact ⟨by first | rfl | simp [h], rfl⟩

def CanRel (w : World) (l : List UInt8) (n : Nat) (t : Value) (wr : World) : Prop := ∃ a : Nat, t = .int .i64 (a : Int) ∧ a ≤ n ∧ Cv.canonA l a = Cv.canon l ∧ Below w.heap.size w wr

set_option maxHeartbeats 2000000 in
set_option maxRecDepth 100000 in
/-- csv's Canon -/
theorem canon_c (A : Option Addr) (n c : Nat) (l : List UInt8) (w : World) (hr : Rb w w.heap.size A n c l) (hn : n ≤ 1000000) (hmx : Mx w) :
    Calls Tryd.prog 11 #[.slice A n c] w fun e w' => e = .returned (.bool (Cv.canon l)) ∧ Below w.heap.size w w' := by
  have hl := hr.len
  have Hr := Lib.hid hr; have Hl := Lib.hid hl; have Hmx := Lib.hid hmx; clear hr hl hmx
  go_enter Tryd.func11, Tryd.ntmps11
  go_wp2
  go_loopw [3] (fun t wr => CanRel w l n t wr) (fun t _ => n - (intOf t).toNat)
  case atStart => exact ⟨0, rfl, Nat.zero_le _, rfl, Below.refl _ _⟩
  case round =>
    obtain ⟨a, rfl, ha, hca, hbel⟩ := hrel
    have z3 := hbel.size
    rename World => wr
    by_cases hlt : a < n
    · have hr3 := (Hr.out.below hbel).more z3
      obtain ⟨D, hD, hrD⟩ := bty.from_ hr3 (k := a) (by omega) (a : Int) rfl
      have hlen2 : (l.drop a).length = n - a := by rw [List.length_drop, Hl.out]
      have hpc := parse_c D (n - a) (c - a) (l.drop a) wr hrD (by omega)
      rcases Cv.rs_step l a (by have := Hl.out; omega) with ⟨r, m, hrun, hm1, hm2, hrs, hm3, hfew⟩ | ⟨k, hrun, hrs, hk⟩
      · have hst := Cv.canonA_step hrun hm1 hm2 hrs
        rw [hca] at hst
        have hwt := Cv.run_wt hrun
        rw [hrun] at hpc
        have hmn : m ≤ n := by rw [Hl.out] at hm2; exact hm2
        have hd : n - a - (l.drop m).length = m - a := by rw [← hlen2]; exact hm3
        have hwr : wR r ≤ 2000000 := by simp [wR] at hwt; omega
        obtain ⟨E, hE⟩ : ∃ E, E = (Cv.row r == (l.take m).drop a) := ⟨_, rfl⟩
        rw [← hE] at hst
        obtain ⟨F, hF, hrF⟩ := bty.mid_ hr3 (i := a) (k := m) (by omega) hmn (a : Int) (m : Int) rfl rfl (m - a) rfl
        have hmx3 := Hmx.out.below' hbel
        have hadd : ∀ W D4 d4, Mx W → Oc 1 W 9 wr.heap.size D4 r.length d4 (lvs r) → Calls Tryd.prog 25 #[.slice none 0 0, .slice D4 r.length d4] W (RetB W.heap.size W (Cv.row r)) := fun W D4 d4 h1 h2 => by
          have := addRecord_c none D4 0 d4 r.length W.heap.size W.heap.size [] r W (Own.nil _ _ _) (Nat.le_refl _) h1.2 h2.rc (Nat.le_refl _) h1 (fun q hq => by have := hfew.2.2 q hq; omega) (by simp; omega)
          simpa using this
        have heq : ∀ W A5 c5, Own W 5 0 A5 c5 (Cv.row r) → Rb W wr.heap.size F (m - a) (c - a) ((l.take m).drop a) → Calls Tryd.prog 24 #[.slice A5 (Cv.row r).length c5, .slice F (m - a) (c - a)] W fun e w' => e = .returned (.bool E) ∧ W = w' := fun W A5 c5 h1 h2 => equal_c A5 F _ c5 _ _ _ _ _ _ W h1.rb h2 E hE
        have Hpc := Lib.hid hpc; have Hst := Lib.hid hst; have Hd := Lib.hid hd; have Hadd := Lib.hid hadd; have Heq := Lib.hid heq; have HrF := Lib.hid hrF; have Hmx3 := Lib.hid hmx3
        clear hpc hst hd hadd heq hrF hmx3 hrun hrs hm2 hm3 hfew hrD hlen2 hr3 hca hwt hE
        have q0 : (a : Int) + ((m - a : Nat) : Int) = (m : Int) := by omega
        have q1 : IntKind.i64.wrap (m : Int) = (m : Int) := IntWalk.i64_in _ (by omega)
        go_wp2_with fail
        refine Hpc.out.mono ?_
        rintro e w4 ⟨D4, d4, rfl, ho4, hb4⟩
        rw [Hd.out]
        have z4 := hb4.size
        have hmx4 := Hmx3.out.below' hb4
        have hrF4 := HrF.out.below hb4
        have Ho4 := Lib.hid ho4; have Hmx4 := Lib.hid hmx4; have HrF4 := Lib.hid hrF4; clear ho4 hmx4 hrF4
        have bw4 := hbel.trans (hb4.mono z3)
        cases E with
        | true =>
          go_wp2_with fail
          go_region_held3 (fun _ => True) (go_keep) (first | (go_at_call 25; (with_reducible refine (Hadd.out _ _ _ ?_ ?_).mono ?_); exact Hmx4.out; exact Ho4.out; rintro e w5 ⟨A5, c5, rfl, hown5, hb5⟩; have hb5' : Below w4.heap.size w4 w5 := ⟨hb5.os, hb5.tape, hb5.output, hb5.size, hb5.block⟩) | (go_at_call 24; (with_reducible refine (Heq.out _ _ _ ?_ ?_).mono ?_); exact hown5.mono (Nat.zero_le _); exact (HrF4.out.below (hb5'.mono z4)); rintro e w6 ⟨rfl, hw6⟩))
          have b6 : Below w4.heap.size w4 w6 := by rw [← hw6]; exact ⟨hb5'.os, hb5'.tape, hb5'.output, hb5'.size, hb5'.block⟩
          clear hown5
          go_wp2
          go_roundw
          case rel => exact ⟨m, by first | rfl | (rw [q0]; go_num) | go_num, hmn, by rw [Hst.out, Bool.true_and], bw4.trans (b6.mono (by omega))⟩
          case measure => simp [intOf]; omega
        | false =>
          go_wp2_with fail
          go_region_held3 (fun _ => True) (go_keep) (first | (go_at_call 25; (with_reducible refine (Hadd.out _ _ _ ?_ ?_).mono ?_); exact Hmx4.out; exact Ho4.out; rintro e w5 ⟨A5, c5, rfl, hown5, hb5⟩; have hb5' : Below w4.heap.size w4 w5 := ⟨hb5.os, hb5.tape, hb5.output, hb5.size, hb5.block⟩) | (go_at_call 24; (with_reducible refine (Heq.out _ _ _ ?_ ?_).mono ?_); exact hown5.mono (Nat.zero_le _); exact (HrF4.out.below (hb5'.mono z4)); rintro e w6 ⟨rfl, hw6⟩))
          have b6 : Below w4.heap.size w4 w6 := by rw [← hw6]; exact ⟨hb5'.os, hb5'.tape, hb5'.output, hb5'.size, hb5'.block⟩
          clear hown5
          go_wp2
          go_ret
          exact ⟨by rw [Hst.out, Bool.false_and]; rfl, bw4.trans (b6.mono (by omega))⟩
      · rw [hrun] at hpc
        have hcf : Cv.canon l = false := by rw [← hca]; exact Cv.canonA_err hrs (by omega)
        have dk : ((k : Int) == 0) = false := by rw [beq_eq_false_iff_ne]; omega
        have dk2 : ((k : Int) != 0) = true := by simp [bne, dk]
        have Hpc := Lib.hid hpc; have Hcf := Lib.hid hcf; clear hpc hcf hrun hrs hca hrD hlen2 hk hr3
        go_wp2_with fail
        refine Hpc.out.mono ?_
        rintro e w4 ⟨m, rfl, hb4⟩
        go_wp2_with fail
        go_quiet (fail)
        go_wp2
        go_ret
        exact ⟨by rw [Hcf.out]; rfl, below_drewN (hbel.trans (hb4.mono z3)) _⟩
    · have e : a = n := by omega
      subst e
      have hct : Cv.canon l = true := by rw [← hca, ← Hl.out]; exact Cv.canonA_end l
      have Hct := Lib.hid hct; clear hct hca
      go_wp2
      go_ret
      exact ⟨by rw [Hct.out]; rfl, hbel⟩

set_option maxHeartbeats 1000000 in
set_option maxRecDepth 100000 in
/-- the document's Canon -/
theorem canonD_c (A : Option Addr) (n c : Nat) (l : List UInt8) (w : World) (hr : Rb w w.heap.size A n c l) (hn : n ≤ 100000) :
    Calls Tryd.prog 12 #[.slice A n c] w fun e w' => e = .returned (.bool (Cv.canon l)) ∧ Below w.heap.size w w' := by
  have hl := hr.len
  have hcd := Cv.canon_def l
  have hsc := scanD_c A n c l w hr (by omega)
  unfold RetSc at hsc
  have hall : ∀ W A1 c1, PL W W.heap.size A1 (Cv.ls l).length c1 ((Cv.ls l).map Cv.pc) → Calls Tryd.prog 21 #[.slice A1 (Cv.ls l).length c1] W (RetA W ((Cv.ls l).map (·.2))) := fun W A1 c1 h => by
    have hll := Cv.ls_len l
    have := rall_c A1 (Cv.ls l).length c1 ((Cv.ls l).map Cv.pc) W h (by omega) (by rw [Cv.all_pc, List.length_map]; omega)
    rw [Cv.all_pc] at this; exact this
  have hwr : ∀ W A1 c1, RL W W.heap.size A1 ((Cv.ls l).map (·.2)).length c1 ((Cv.ls l).map (·.2)) → Calls Tryd.prog 17 #[.slice A1 ((Cv.ls l).map (·.2)).length c1] W (RetW W (Cv.wr ((Cv.ls l).map (·.2)), 0)) := fun W A1 c1 h => by
    have := writeD_c A1 _ c1 ((Cv.ls l).map (·.2)) W h (fun r hr q hq => by
      obtain ⟨p, hp, rfl⟩ := List.mem_map.1 hr
      have := (Cv.ls_few hp).2.2 q hq
      omega) (by have := Cv.ls_wt l; omega)
    rw [Cv.wrS_ok (Cv.ls_ok l)] at this; exact this
  obtain ⟨R, hR⟩ : ∃ R, R = (Cv.ls l).map (·.2) := ⟨_, rfl⟩
  obtain ⟨P, hP⟩ : ∃ P, P = Cv.ls l := ⟨_, rfl⟩
  obtain ⟨G, hG⟩ : ∃ G, G = Cv.good l := ⟨_, rfl⟩
  obtain ⟨E, hE⟩ : ∃ E, E = Cv.er l := ⟨_, rfl⟩
  obtain ⟨X, hX⟩ : ∃ X, X = Cv.wr R := ⟨_, rfl⟩
  have her := Cv.er_or l
  rw [← hR] at hall hwr hcd
  rw [← hX] at hwr hcd
  rw [← hP] at hsc hall
  rw [← hG, ← hE] at hsc her
  rw [← hE] at hcd
  have hE3 : E = 0 ∨ E = 3 ∨ E = 5 := by omega
  have Hsc := Lib.hid hsc; have Hall := Lib.hid hall; have Hwr := Lib.hid hwr; have Hcd := Lib.hid hcd; have Hr := Lib.hid hr
  clear hsc hall hwr hcd her hR hP hG hE hX hl hr
  rcases hE3 with rfl | rfl | rfl
  · go_enter Tryd.func12, Tryd.ntmps12
    go_wp2_with fail
    refine Hsc.out.mono ?_
    rintro e w1 ⟨A1, c1, rfl, hp1, hb1⟩
    have z1 := hb1.size
    have H1 := Lib.hid hp1.pl; clear hp1
    go_wp2_with fail
    refine (Hall.out w1 A1 c1 H1.out).mono ?_
    rintro e w2 ⟨A2, c2, rfl, hp2, hb2⟩
    have z2 := hb2.size
    have H2 := Lib.hid hp2; clear hp2
    go_wp2_with fail
    refine (Hwr.out w2 A2 c2 H2.out).mono ?_
    rintro e w3 ⟨A3, c3, rfl, hown3, hb3⟩
    have bz : Below w.heap.size w w3 := (hb1.trans (hb2.mono z1)).trans (hb3.mono (by omega))
    have cv1 := bty.conv hown3.rb
    have cv2 := bty.conv (Hr.out.below bz)
    dsimp only at cv1
    clear hown3
    by_cases h : X = l
    · have Hc : Hid (Cv.canon l = true) := Lib.hid (by rw [Hcd.out, h]; simp)
      subst h
      go_wp2
      go_ret
      exact ⟨by rw [Hc.out]; rfl, bz⟩
    · have Hc : Hid (Cv.canon l = false) := Lib.hid (by rw [Hcd.out]; simp [h])
      have hne := mk_ne h
      go_wp2
      go_ret
      exact ⟨by rw [Hc.out]; first | rfl | simp [h], bz⟩
  all_goals
    have Hc : Hid (Cv.canon l = false) := Lib.hid (by rw [Hcd.out]; rfl)
    go_enter Tryd.func12, Tryd.ntmps12
    go_wp2_with fail
    refine Hsc.out.mono ?_
    rintro e w1 ⟨A1, c1, rfl, hp1, hb1⟩
    clear hp1
    go_wp2
    go_ret
    exact ⟨by rw [Hc.out]; rfl, hb1⟩
end Go.Proofs.YtpjnkbfjnonkhaaDoor
