/-
  The walk of the law CodeBack.
-/
import Derived.Test.YtpdapgbamlcjjaaGreatDoorL2
namespace Go.Proofs.YtpdapgbamlcjjaaGreatDoor
open Go.RowKit Vl Cd

theorem pP_cases (p : List Ins) : (p.length ≤ 200 ∧ p.all may = true ∧ pP p = (pb p, 0)) ∨ ((pP p).1 = [] ∧ ((pP p).2 = 5 ∨ (pP p).2 = 1)) := by
  unfold pP
  split
  · exact .inr ⟨rfl, .inl rfl⟩
  · split
    · exact .inl ⟨by omega, by assumption, rfl⟩
    · exact .inr ⟨rfl, .inr rfl⟩
theorem rd_cases (L : List (List UInt8)) (t : List UInt8) : (∃ q : List Ins, L.length ≤ 200 ∧ t = [] ∧ L.map pr = q.map some ∧ rd L t = (q, 0)) ∨ ((rd L t).1 = [] ∧ ((rd L t).2 = 5 ∨ (rd L t).2 = 3)) := by
  by_cases h1 : 200 < L.length
  · exact .inr (by rw [rd_long h1]; exact ⟨rfl, .inl rfl⟩)
  · by_cases h2 : t = [] ∧ ∃ q : List Ins, L.map pr = q.map some
    · obtain ⟨ht, q, hq⟩ := h2
      exact .inl ⟨q, by omega, ht, hq, rd_ok h1 ht hq⟩
    · refine .inr ?_
      unfold rd
      rw [if_neg h1, dif_neg h2]
      exact ⟨rfl, .inr rfl⟩
theorem back_q {s : List UInt8} {L : List (List UInt8)} {t : List UInt8} {q : List Ins} (h : Seg s L t) (hl : L.length ≤ 200) (ht : t = []) (hq : L.map pr = q.map some) : pP q = (s, 0) ∧ ∀ x ∈ q, I x.op ∧ I x.n := by
  obtain ⟨h1, h2, h3⟩ := lines_of hq
  have hlen : q.length ≤ 200 := by rw [h1] at hl; simpa using hl
  have hs : pb q = s := by rw [pb_cat, ← h1, h.eq, ht, List.append_nil]
  refine ⟨by unfold pP; rw [if_neg (by omega), if_pos h2, hs], fun x hx => ⟨?_, h3 x hx⟩⟩
  have := may_op (List.all_eq_true.1 h2 x hx)
  unfold I; omega
theorem back_p {p : List Ins} (hI : ∀ x ∈ p, I x.op ∧ I x.n) (hl : p.length ≤ 200) (hm : p.all may = true) : rd (p.map ln) [] = (p, 0) :=
  rd_ok (by simp; omega) rfl (pr_lines (fun x hx => (hI x hx).2) hm)
set_option maxRecDepth 100000 in
set_option maxHeartbeats 4000000 in
theorem codeBack_walk (A : Option Addr) (n c : Nat) (p : List Ins) (s : List UInt8) (w : World) (hp : Rc 3 w w.heap.size A n c (ics p)) (hn : n ≤ maxLen) (hIp : ∀ x ∈ p, I x.op ∧ I x.n) (hG : Gl w) :
    Calls Tryz.prog 5 #[.slice A n c, st s] w (RetV w (.bool true)) := by
  obtain ⟨L, t, hseg⟩ := seg_ex s
  obtain ⟨X, hX, hXs, -, -⟩ := hide_st s
  show Calls Tryz.prog 5 #[.slice A n c, .string ⟨s.toArray⟩] w _
  rw [← hX]
  have HX := Lib.hid hX; have HXs := Lib.hid hXs
  clear hX hXs
  have B0 := Lib.hid (Below.refl w.heap.size w)
  have Hs1 := Lib.hid (small_c A n c p w hp hn)
  have Hnl := Lib.hid (ics_num hp)
  have Hp := Lib.hid hp; have HI := Lib.hid hIp; have HG := Lib.hid hG; have HS := Lib.hid hseg
  clear hp hIp hG hseg
  go_enter Tryz.func5, Tryz.ntmps5
  go_wp2_with fail
  refine Hs1.out.mono ?_
  rintro e w2 ⟨b1, rfl, h1, rfl⟩
  have HN := Lib.hid h1
  clear h1
  cases b1
  · go_wp2_with fail
    refine (alive_c w2 (HG.out.below' B0.out)).mono ?_
    rintro e wf ⟨rfl, bf⟩
    have BF := Lib.hid (B0.out.trans (bf.mono B0.out.size))
    clear bf
    go_wp2
    go_ret
    exact ⟨rfl, BF.out⟩
  by_cases h4 : (4000 : Int) < (X.size : Int)
  · have d1 : decide ((4000 : Int) < (X.size : Int)) = true := decide_eq_true h4
    clear h4
    go_wp2_with fail
    refine (alive_c w2 (HG.out.below' B0.out)).mono ?_
    rintro e wf ⟨rfl, bf⟩
    have BF := Lib.hid (B0.out.trans (bf.mono B0.out.size))
    clear bf
    go_wp2
    go_ret
    exact ⟨rfl, BF.out⟩
  have d1 : decide ((4000 : Int) < (X.size : Int)) = false := decide_eq_false h4
  have hn2 : n ≤ 250 := by first | exact HN.out rfl | exact HN.out trivial
  have hX := HX.out
  have hsl : s.length ≤ 1000000 := by have := HXs.out; omega
  obtain ⟨T, hT⟩ : ∃ T, T = (pP p).1 := ⟨_, rfl⟩
  obtain ⟨E, hE⟩ : ∃ E, E = (pP p).2 := ⟨_, rfl⟩
  obtain ⟨P1, hP1⟩ : ∃ P1, P1 = (rd L t).1 := ⟨_, rfl⟩
  obtain ⟨E1, hE1⟩ : ∃ E1, E1 = (rd L t).2 := ⟨_, rfl⟩
  have hpl : P1.length ≤ 200 := by rw [hP1]; exact rd_len L t
  have hIP : ∀ x ∈ P1, I x.op ∧ I x.n := by
    rcases rd_cases L t with ⟨q, q1, q2, q3, q4⟩ | ⟨q1, -⟩
    · rw [hP1, q4]; exact (back_q HS.out q1 q2 q3).2
    · rw [hP1, q1]; simp
  have hpq : (E1 = 0 ∧ pP P1 = (s, 0)) ∨ (E1 ≠ 0 ∧ pP P1 = ([], 0)) := by
    rcases rd_cases L t with ⟨q, q1, q2, q3, q4⟩ | ⟨q1, q2⟩
    · exact .inl ⟨by rw [hE1, q4], by rw [hP1, q4]; exact (back_q HS.out q1 q2 q3).1⟩
    · exact .inr ⟨by rw [hE1]; omega, by rw [hP1, q1]; rfl⟩
  have hpp : (E = 0 ∧ T = pb p ∧ p.length ≤ 200 ∧ p.all may = true) ∨ (E ≠ 0 ∧ T = []) := by
    rcases pP_cases p with ⟨q1, q2, q3⟩ | ⟨q1, q2⟩
    · exact .inl ⟨by rw [hE, q3], by rw [hT, q3], q1, q2⟩
    · exact .inr ⟨by rw [hE]; omega, by rw [hT, q1]⟩
  have Hpr := Lib.hid (fun W (b : Below w2.heap.size w2 W) => (show Calls Tryz.prog 18 #[.slice A n c] W (RetV W (.tuple #[st T, .int .i64 E])) from by rw [hT, hE]; exact print_c A n c p W (Hp.out.up b) (by omega) HI.out (HG.out.below' b)))
  have Hrd := Lib.hid (fun W (b : Below w2.heap.size w2 W) => (show Calls Tryz.prog 20 #[.string X] W (fun e w' => ∃ A c, e = .returned (.tuple #[.slice A P1.length c, .int .i64 E1]) ∧ Rc 3 w' w'.heap.size A P1.length c (ics P1) ∧ Below W.heap.size W w') from by rw [hP1, hE1, hX]; exact (read_c s L t hsl HS.out W (HG.out.below' b)).mono fun _ _ h => h.parts))
  have HPL := Lib.hid hpl; have HIP := Lib.hid hIP; have HPQ := Lib.hid hpq; have HPP := Lib.hid hpp
  -- the second half
  have key : ∀ W, Below w2.heap.size w2 W → Hid (Calls Tryz.prog 20 #[.string X] W (fun e w' => ∃ A c, e = .returned (.tuple #[.slice A P1.length c, .int .i64 E1]) ∧ Rc 3 w' w'.heap.size A P1.length c (ics P1) ∧ Below W.heap.size W w')) := fun W b => Lib.hid (Hrd.out W b)
  have Key := Lib.hid key
  clear h4 hX hT hE hP1 hE1 hsl hpl hIP hpq hpp key
  go_wp2_with fail
  refine (Hpr.out w2 B0.out).mono ?_
  rintro e w3 ⟨rfl, b3⟩
  have B3 := Lib.hid b3
  clear b3
  rcases HPP.out with ⟨he, hT, hl2, hm2⟩ | ⟨he, hT⟩
  · subst he
    have hTl : T.length ≤ 1000000 := by
      have := pb_len p (fun x hx => (HI.out x hx).2) hm2
      rw [hT]; omega
    have Hr1 := Lib.hid (show Calls Tryz.prog 20 #[st T] w3 (fun e w' => ∃ A c, e = .returned (.tuple #[.slice A p.length c, .int .i64 0]) ∧ Rc 3 w' w'.heap.size A p.length c (ics p) ∧ Below w3.heap.size w3 w') from (read_c T (p.map ln) [] hTl (by rw [hT]; exact seg_pb) w3 (HG.out.below' B3.out)).mono fun _ _ h => by
      have := h.parts
      rw [back_p HI.out hl2 hm2] at this
      exact this)
    clear hT hTl hl2 hm2
    go_wp2_with fail
    refine Hr1.out.mono ?_
    rintro e w4 ⟨A4, c4, rfl, r4, b4⟩
    have B4 := Lib.hid (B3.out.trans (b4.mono B3.out.size)); have R4 := Lib.hid r4
    clear b4 r4
    have Hsa := Lib.hid (same_c A A4 n c _ c4 _ p p w4 (Hp.out.up B4.out) R4.out (by omega))
    rw [decide_eq_true (rfl : p = p)] at Hsa
    have Hsb := Lib.hid (fun j => rsame_c A A4 n c _ c4 _ p p (w4.drewN j) (Hp.out.up (below_drewN B4.out j)) R4.out (by omega))
    simp only at Hsb
    go_wp2_with fail
    refine Hsa.out.mono ?_
    rintro e w5 ⟨rfl, k5, rfl⟩
    go_wp2_with fail
    refine (Hsb.out k5).mono ?_
    rintro e w6 ⟨rfl, k6, rfl⟩
    obtain ⟨w7, hw7⟩ : ∃ w7, w7 = (w4.drewN k5).drewN k6 := ⟨_, rfl⟩
    have B7 := Lib.hid (show Below w2.heap.size w2 w7 by rw [hw7]; exact below_drewN (below_drewN B4.out k5) k6)
    rw [← hw7]
    clear hw7
    go_wp2_with fail
    refine (Key.out w7 B7.out).out.mono ?_
    rintro e w8 ⟨A8, c8, rfl, r8, b8⟩
    have B8 := Lib.hid (B7.out.trans (b8.mono B7.out.size)); have R8 := Lib.hid r8
    clear b8 r8
    have hpr := print_c A8 _ c8 P1 w8 R8.out (by have := HPL.out; omega) HIP.out (HG.out.below' B8.out)
    rcases HPQ.out with ⟨hz1, hz2⟩ | ⟨hz1, hz2⟩
    · rw [hz2] at hpr
      have Hpr2 := Lib.hid (show Calls Tryz.prog 18 _ w8 (RetV w8 (.tuple #[.string X, .int .i64 0])) by rw [HX.out]; exact hpr)
      have f1 : (X.toList == X.toList) = true := beq_iff_eq.2 rfl
      clear hpr hz2
      subst hz1
      go_wp2_with fail
      refine Hpr2.out.mono ?_
      rintro e w9 ⟨rfl, b9⟩
      have B9 := Lib.hid (B8.out.trans (b9.mono B8.out.size)); have R9 := Lib.hid (R8.out.up b9)
      clear b9
      go_wp2_with fail
      refine (alive_c w9 (HG.out.below' B9.out)).mono ?_
      rintro e w10 ⟨rfl, b10⟩
      have B10 := Lib.hid (B9.out.trans (b10.mono B9.out.size)); have R10 := Lib.hid (R9.out.up b10)
      clear b10
      have Hsc := Lib.hid (same_c A8 A8 _ c8 _ c8 _ P1 P1 w10 R10.out R10.out (by have := HPL.out; omega))
      rw [decide_eq_true (rfl : P1 = P1)] at Hsc
      go_wp2_with fail
      refine Hsc.out.mono ?_
      rintro e w11 ⟨rfl, k11, rfl⟩
      go_wp2
      go_ret
      exact ⟨by first | rfl | simp, below_drewN B10.out k11⟩
    · rw [hz2] at hpr
      have Hpr2 := Lib.hid hpr
      have d3 : (E1 == 0) = false := beq_eq_false_iff_ne.2 hz1
      have d4 : (E1 != 0) = true := by rw [bne, d3]; rfl
      clear hpr hz2 hz1
      go_wp2_with fail
      refine Hpr2.out.mono ?_
      rintro e w9 ⟨rfl, b9⟩
      have B9 := Lib.hid (B8.out.trans (b9.mono B8.out.size))
      clear b9
      go_wp2_with fail
      refine (alive_c w9 (HG.out.below' B9.out)).mono ?_
      rintro e w10 ⟨rfl, b10⟩
      have B10 := Lib.hid (B9.out.trans (b10.mono B9.out.size))
      clear b10
      go_wp2
      go_ret
      exact ⟨by first | rfl | simp, B10.out⟩
  · have d2 : (E == 0) = false := beq_eq_false_iff_ne.2 he
    obtain ⟨w7, hw7⟩ : ∃ w7, w7 = w3 := ⟨_, rfl⟩
    have B7 := Lib.hid (show Below w2.heap.size w2 w7 by rw [hw7]; exact B3.out)
    rw [← hw7]
    clear hw7 he hT
    go_wp2_with fail
    refine (Key.out w7 B7.out).out.mono ?_
    rintro e w8 ⟨A8, c8, rfl, r8, b8⟩
    have B8 := Lib.hid (B7.out.trans (b8.mono B7.out.size)); have R8 := Lib.hid r8
    clear b8 r8
    have hpr := print_c A8 _ c8 P1 w8 R8.out (by have := HPL.out; omega) HIP.out (HG.out.below' B8.out)
    rcases HPQ.out with ⟨hz1, hz2⟩ | ⟨hz1, hz2⟩
    · rw [hz2] at hpr
      have Hpr2 := Lib.hid (show Calls Tryz.prog 18 _ w8 (RetV w8 (.tuple #[.string X, .int .i64 0])) by rw [HX.out]; exact hpr)
      have f1 : (X.toList == X.toList) = true := beq_iff_eq.2 rfl
      clear hpr hz2
      subst hz1
      go_wp2_with fail
      refine Hpr2.out.mono ?_
      rintro e w9 ⟨rfl, b9⟩
      have B9 := Lib.hid (B8.out.trans (b9.mono B8.out.size)); have R9 := Lib.hid (R8.out.up b9)
      clear b9
      go_wp2_with fail
      refine (alive_c w9 (HG.out.below' B9.out)).mono ?_
      rintro e w10 ⟨rfl, b10⟩
      have B10 := Lib.hid (B9.out.trans (b10.mono B9.out.size)); have R10 := Lib.hid (R9.out.up b10)
      clear b10
      have Hsc := Lib.hid (same_c A8 A8 _ c8 _ c8 _ P1 P1 w10 R10.out R10.out (by have := HPL.out; omega))
      rw [decide_eq_true (rfl : P1 = P1)] at Hsc
      go_wp2_with fail
      refine Hsc.out.mono ?_
      rintro e w11 ⟨rfl, k11, rfl⟩
      go_wp2
      go_ret
      exact ⟨by first | rfl | simp, below_drewN B10.out k11⟩
    · rw [hz2] at hpr
      have Hpr2 := Lib.hid hpr
      have d3 : (E1 == 0) = false := beq_eq_false_iff_ne.2 hz1
      have d4 : (E1 != 0) = true := by rw [bne, d3]; rfl
      clear hpr hz2 hz1
      go_wp2_with fail
      refine Hpr2.out.mono ?_
      rintro e w9 ⟨rfl, b9⟩
      have B9 := Lib.hid (B8.out.trans (b9.mono B8.out.size))
      clear b9
      go_wp2_with fail
      refine (alive_c w9 (HG.out.below' B9.out)).mono ?_
      rintro e w10 ⟨rfl, b10⟩
      have B10 := Lib.hid (B9.out.trans (b10.mono B9.out.size))
      clear b10
      go_wp2
      go_ret
      exact ⟨by first | rfl | simp, B10.out⟩
end Go.Proofs.YtpdapgbamlcjjaaGreatDoor
