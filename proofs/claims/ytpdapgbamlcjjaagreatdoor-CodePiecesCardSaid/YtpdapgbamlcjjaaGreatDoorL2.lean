/-
  The walk of the law CodeReads.
-/
import Derived.Test.YtpdapgbamlcjjaaGreatDoorL1
namespace Go.Proofs.YtpdapgbamlcjjaaGreatDoor
open Go.RowKit Vl Cd

theorem rd_len (L : List (List UInt8)) (t : List UInt8) : (rd L t).1.length ≤ 200 := by
  unfold rd
  split
  · simp
  · split
    · rename_i h1 h2
      have := congrArg List.length h2.2.choose_spec
      simp at this
      show h2.2.choose.length ≤ 200
      omega
    · simp
theorem RdV.parts {w : World} {r : List Ins × Int} {e : Ending} {w' : World} (h : RdV w r e w') :
    ∃ A c, e = .returned (.tuple #[.slice A r.1.length c, .int .i64 r.2]) ∧ Rc 3 w' w'.heap.size A r.1.length c (ics r.1) ∧ Below w.heap.size w w' := by
  obtain ⟨A, n, c, e, hr, b⟩ := h
  have := ics_num hr
  subst this
  exact ⟨A, c, e, hr, b⟩
theorem Rc.up {z : Nat} {w w' : World} {A : Option Addr} {n c : Nat} {vs : List Value} (h : Rc z w w.heap.size A n c vs) (b : Below w.heap.size w w') : Rc z w' w'.heap.size A n c vs := (h.below b).more b.size

set_option maxRecDepth 100000 in
set_option maxHeartbeats 4000000 in
theorem codeReads_walk (A : Option Addr) (n c : Nat) (p : List Ins) (D : Option Addr) (m d : Nat) (q : List Ins) (s : List UInt8) (w : World) (hp : Rc 3 w w.heap.size A n c (ics p)) (hn : n ≤ maxLen) (hIp : ∀ x ∈ p, I x.op ∧ I x.n) (hq : Rc 3 w w.heap.size D m d (ics q)) (hm : m ≤ maxLen) (hG : Gl w) :
    Calls Tryz.prog 4 #[.slice A n c, .slice D m d, st s] w (RetV w (.bool true)) := by
  obtain ⟨L, t, hseg⟩ := seg_ex s
  obtain ⟨X, hX, hXs, -, -⟩ := hide_st s
  show Calls Tryz.prog 4 #[.slice A n c, .slice D m d, .string ⟨s.toArray⟩] w _
  rw [← hX]
  have HX := Lib.hid hX; have HXs := Lib.hid hXs
  clear hX hXs
  have B0 := Lib.hid (Below.refl w.heap.size w)
  have Hs1 := Lib.hid (small_c A n c p w hp hn); have Hs2 := Lib.hid (small_c D m d q w hq hm)
  have Hp := Lib.hid hp; have Hq := Lib.hid hq; have HI := Lib.hid hIp; have HG := Lib.hid hG; have HS := Lib.hid hseg
  clear hp hq hIp hG hseg
  go_enter Tryz.func4, Tryz.ntmps4
  go_wp2_with fail
  refine Hs1.out.mono ?_
  rintro e w1 ⟨b1, rfl, h1, rfl⟩
  have HN := Lib.hid h1
  clear h1
  cases b1
  · go_wp2_with fail
    refine (alive_c w1 (HG.out.below' B0.out)).mono ?_
    rintro e wf ⟨rfl, bf⟩
    have BF := Lib.hid (B0.out.trans (bf.mono B0.out.size))
    clear bf
    go_wp2
    go_ret
    exact ⟨rfl, BF.out⟩
  go_wp2_with fail
  refine Hs2.out.mono ?_
  rintro e w2 ⟨b2, rfl, h2, rfl⟩
  have HM := Lib.hid h2
  clear h2
  cases b2
  · go_wp2_with fail
    refine (alive_c w2 (HG.out.below' B0.out)).mono ?_
    rintro e wf ⟨rfl, bf⟩
    have BF := Lib.hid (B0.out.trans (bf.mono B0.out.size))
    clear bf
    go_wp2
    go_ret
    exact ⟨rfl, BF.out⟩
  by_cases h4 : (4000 : Int) < (X.size : Int)
  · have d1 : decide ((4000 : Int) < (X.size : Int)) = true := decide_eq_true h4
    clear h4
    go_wp2_with fail
    refine (alive_c w2 (HG.out.below' B0.out)).mono ?_
    rintro e wf ⟨rfl, bf⟩
    have BF := Lib.hid (B0.out.trans (bf.mono B0.out.size))
    clear bf
    go_wp2
    go_ret
    exact ⟨rfl, BF.out⟩
  have d1 : decide ((4000 : Int) < (X.size : Int)) = false := decide_eq_false h4
  have hn2 : n ≤ 250 := by first | exact HN.out rfl | exact HN.out trivial
  have hm2 : m ≤ 250 := by first | exact HM.out rfl | exact HM.out trivial
  have hX := HX.out
  have hsl : s.length ≤ 1000000 := by have := HXs.out; omega
  obtain ⟨T, hT⟩ : ∃ T, T = (pP p).1 := ⟨_, rfl⟩
  obtain ⟨E, hE⟩ : ∃ E, E = (pP p).2 := ⟨_, rfl⟩
  obtain ⟨P1, hP1⟩ : ∃ P1, P1 = (rd L t).1 := ⟨_, rfl⟩
  obtain ⟨E1, hE1⟩ : ∃ E1, E1 = (rd L t).2 := ⟨_, rfl⟩
  have hpl : P1.length ≤ 200 := by rw [hP1]; exact rd_len L t
  have Hpr := Lib.hid (fun W (b : Below w2.heap.size w2 W) => (show Calls Tryz.prog 18 #[.slice A n c] W (RetV W (.tuple #[st T, .int .i64 E])) from by rw [hT, hE]; exact print_c A n c p W (Hp.out.up b) (by omega) HI.out (HG.out.below' b)))
  have Hrp := Lib.hid (fun W (b : Below w2.heap.size w2 W) => (show Calls Tryz.prog 19 #[.slice A n c] W (RetV W (.tuple #[st T, .int .i64 E])) from by rw [hT, hE]; exact rprint_c A n c p W (Hp.out.up b) (by omega) HI.out))
  have Hrd := Lib.hid (fun W (b : Below w2.heap.size w2 W) => (show Calls Tryz.prog 20 #[.string X] W (fun e w' => ∃ A c, e = .returned (.tuple #[.slice A P1.length c, .int .i64 E1]) ∧ Rc 3 w' w'.heap.size A P1.length c (ics P1) ∧ Below W.heap.size W w') from by rw [hP1, hE1, hX]; exact (read_c s L t hsl HS.out W (HG.out.below' b)).mono fun _ _ h => h.parts))
  have Hrr := Lib.hid (fun W => (show Calls Tryz.prog 21 #[.string X] W (fun e w' => ∃ A c, e = .returned (.tuple #[.slice A P1.length c, .int .i64 E1]) ∧ Rc 3 w' w'.heap.size A P1.length c (ics P1) ∧ Below W.heap.size W w') from by rw [hP1, hE1, hX]; exact (rread_c s L t hsl HS.out W).mono fun _ _ h => h.parts))
  have f1 : (T == T) = true := beq_iff_eq.2 rfl
  have f2 : (E == E) = true := beq_iff_eq.2 rfl
  have f3 : (E1 == E1) = true := beq_iff_eq.2 rfl
  clear h4 hX hT hE hP1 hE1 hsl
  go_wp2_with fail
  refine (Hpr.out w2 B0.out).mono ?_
  rintro e w3 ⟨rfl, b3⟩
  have B3 := Lib.hid b3
  clear b3
  go_wp2_with fail
  refine (Hrp.out w3 B3.out).mono ?_
  rintro e w4 ⟨rfl, b4⟩
  have B4 := Lib.hid (B3.out.trans (b4.mono B3.out.size))
  clear b4
  go_wp2_with fail
  refine (Hrd.out w4 B4.out).mono ?_
  rintro e w5 ⟨A5, c5, rfl, r5, b5⟩
  have B5 := Lib.hid (B4.out.trans (b5.mono B4.out.size)); have R5 := Lib.hid r5
  clear b5 r5
  go_wp2_with fail
  refine (Hrr.out w5).mono ?_
  rintro e w6 ⟨A6, c6, rfl, r6, b6⟩
  have B6 := Lib.hid (B5.out.trans (b6.mono B5.out.size)); have R6 := Lib.hid r6; have R56 := Lib.hid (R5.out.up b6)
  clear b6 r6
  go_wp2_with fail
  refine (alive_c w6 (HG.out.below' B6.out)).mono ?_
  rintro e w7 ⟨rfl, b7⟩
  have B7 := Lib.hid (B6.out.trans (b7.mono B6.out.size)); have R67 := Lib.hid (R6.out.up b7); have R57 := Lib.hid (R56.out.up b7)
  clear b7
  have Hs3 := Lib.hid (rsame_c A5 A6 _ c5 _ c6 _ P1 P1 w7 R57.out R67.out (by omega))
  rw [decide_eq_true (rfl : P1 = P1)] at Hs3
  go_wp2_with fail
  refine Hs3.out.mono ?_
  rintro e w8 ⟨rfl, k8, rfl⟩
  have B8 := Lib.hid (below_drewN B7.out k8)
  generalize hb : decide (p = q) = b at *
  have Hs4 := Lib.hid (same_c A D n c m d _ p q (w7.drewN k8) (Hp.out.up B8.out) (Hq.out.up B8.out) (by omega))
  have Hs5 := Lib.hid (fun j => rsame_c A D n c m d _ p q (w7.drewN (k8 + j)) (Hp.out.up (below_drewN B7.out (k8 + j))) (Hq.out.up (below_drewN B7.out (k8 + j))) (by omega))
  rw [hb] at Hs4
  simp only [hb] at Hs5
  clear hb
  go_wp2_with fail
  refine Hs4.out.mono ?_
  rintro e w9 ⟨rfl, k9, rfl⟩
  go_wp2_with fail
  refine (Hs5.out k9).mono ?_
  rintro e w10 ⟨rfl, k10, rfl⟩
  have f4 : (b == b) = true := by cases b <;> rfl
  go_wp2
  go_ret
  exact ⟨by first | rfl | simp, by first | exact below_drewN (below_drewN B8.out k9) k10 | exact below_drewN (below_drewN B7.out (k8 + k9)) k10 | exact below_drewN B7.out (k8 + k9 + k10)⟩
end Go.Proofs.YtpdapgbamlcjjaaGreatDoor
