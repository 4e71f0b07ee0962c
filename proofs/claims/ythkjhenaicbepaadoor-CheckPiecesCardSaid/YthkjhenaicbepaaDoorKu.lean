/-
  The walks of the laws CheckStacks and CheckWants.
-/
import Derived.Test.YthkjhenaicbepaaDoorKt
namespace Go.Proofs.YthkjhenaicbepaaDoor
open Go.RowKit Vl Cd Ck

set_option maxRecDepth 100000 in
set_option maxHeartbeats 4000000 in
theorem checkStacks_walk (A : Option Addr) (n c : Nat) (p : List Ins) (F : Option Addr) (m c' : Nat) (f : List Bool) (w : World) (hp : Rc 3 w w.heap.size A n c (ics p)) (hn : n ≤ maxLen) (hI : ∀ x ∈ p, I x.op ∧ I x.n) (hr : Rc 1 w w.heap.size F m c' (lvb f)) :
    Calls Tryd.prog 3 #[.slice A n c, .slice F m c'] w (RetV w (.bool true)) := by
  have Hs1 := Lib.hid (small_c A n c p w hp hn)
  have HP := Lib.hid hp; have HR := Lib.hid hr; have HI := Lib.hid (fun x hx => (hI x hx).1)
  clear hp hr hI hn
  go_enter Tryd.func3, Tryd.ntmps3
  go_wp2_with fail
  refine Hs1.out.mono ?_
  rintro e w1 ⟨b1, rfl, hb1, rfl⟩
  cases b1
  · clear hb1
    go_wp2_with fail
    refine (alive_c w1).mono ?_
    rintro e wf ⟨rfl, bf⟩
    go_wp2
    go_ret
    exact ⟨by first | rfl | simp, bf⟩
  have hn := hb1 rfl
  clear hb1
  by_cases h5 : (5 : Int) < (m : Int)
  · have d1 : decide ((5 : Int) < (m : Int)) = true := decide_eq_true h5
    clear h5
    go_wp2_with fail
    refine (alive_c w1).mono ?_
    rintro e wf ⟨rfl, bf⟩
    go_wp2
    go_ret
    exact ⟨by first | rfl | simp, bf⟩
  have d1 : decide ((5 : Int) < (m : Int)) = false := decide_eq_false h5
  have hm5 : m ≤ 5 := by omega
  clear h5
  have h30 := (sk_len p f).1
  have hst := fun W (hb : Below w1.heap.size w1 W) => stack_c A n c p F m c' f W ((HP.out.below hb).more hb.size) (by omega) HI.out ((HR.out.below hb).more hb.size) (by omega)
  have hrs := fun W (hb : Below w1.heap.size w1 W) => rstack_c A n c p F m c' f W ((HP.out.below hb).more hb.size) (by omega) ((HR.out.below hb).more hb.size) (by omega)
  have hde := fun W (hb : Below w1.heap.size w1 W) => depth_c A n c p F m c' f W ((HP.out.below hb).more hb.size) (by omega) HI.out ((HR.out.below hb).more hb.size) (by omega)
  have hrd := fun W (hb : Below w1.heap.size w1 W) => rdepth_c A n c p F m c' f W ((HP.out.below hb).more hb.size) (by omega) ((HR.out.below hb).more hb.size) (by omega)
  have hne := fun W (hb : Below w1.heap.size w1 W) => needs_c A n c p W ((HP.out.below hb).more hb.size) (by omega) HI.out
  have hrn := fun W (hb : Below w1.heap.size w1 W) => rneeds_c A n c p W ((HP.out.below hb).more hb.size) (by omega)
  have hco := fun W => cost_c A n c W (by omega)
  generalize sk p f = G at *
  generalize dp p f = D at *
  generalize nd p 0 = N at *
  obtain ⟨s, i, er⟩ := G
  have Hst := Lib.hid hst; have Hrs := Lib.hid hrs; have Hde := Lib.hid hde; have Hrd := Lib.hid hrd; have Hne := Lib.hid hne; have Hrn := Lib.hid hrn; have Hco := Lib.hid hco; have H30 := Lib.hid h30
  clear hst hrs hde hrd hne hrn hco h30
  go_wp2_with fail
  refine (Hst.out w1 (Below.refl _ _)).mono ?_
  rintro e w2 ⟨A2, c2, rfl, ho2, b2⟩
  have B2 := Lib.hid b2; have O2 := Lib.hid ho2
  clear b2 ho2
  go_wp2_with fail
  refine (Hrs.out w2 B2.out).mono ?_
  rintro e w3 ⟨A3, c3, rfl, ho3, b3⟩
  have B3 := Lib.hid (B2.out.trans (b3.mono B2.out.size)); have O3 := Lib.hid ho3; have O2' := Lib.hid (O2.out.keep b3)
  clear b3 ho3
  go_wp2_with fail
  refine (alive_c w3).mono ?_
  rintro e w4 ⟨rfl, b4⟩
  have B4 := Lib.hid (B3.out.trans (b4.mono B3.out.size)); have O3' := Lib.hid (O3.out.keep b4); have O2'' := Lib.hid (O2'.out.keep b4)
  clear b4
  have hsm := rsame_c A2 A3 s.length c2 s.length c3 w4.heap.size s s w4 O2''.out.rc O3'.out.rc (Nat.le_trans H30.out (by omega))
  rw [decide_eq_true rfl] at hsm
  have Hsm := Lib.hid hsm
  clear hsm
  dsimp only
  generalize s.length = z at *
  go_wp2_with fail
  refine Hsm.out.mono ?_
  rintro e w5 ⟨rfl, k5, rfl⟩
  have B5 := Lib.hid (below_drewN B4.out k5)
  go_wp2_with fail
  refine (Hde.out _ B5.out).mono ?_
  rintro e w6 ⟨rfl, b6⟩
  have B6 := Lib.hid (B5.out.trans (b6.mono B5.out.size))
  clear b6
  go_wp2_with fail
  refine (Hrd.out _ B6.out).mono ?_
  rintro e w7 ⟨rfl, b7⟩
  have B7 := Lib.hid (B6.out.trans (b7.mono B6.out.size))
  clear b7
  go_wp2_with fail
  refine (Hne.out _ B7.out).mono ?_
  rintro e w8 ⟨rfl, b8⟩
  have B8 := Lib.hid (B7.out.trans (b8.mono B7.out.size))
  clear b8
  go_wp2_with fail
  refine (Hrn.out _ B8.out).mono ?_
  rintro e w9 ⟨rfl, b9⟩
  have B9 := Lib.hid (B8.out.trans (b9.mono B8.out.size))
  clear b9
  go_wp2_with fail
  refine (Hco.out w9).mono ?_
  rintro e w10 ⟨rfl, rfl⟩
  have e1 : IntKind.i64.wrap (65 * (n : Int)) = 65 * (n : Int) := IntWalk.i64_in _ (by omega)
  go_wp2
  go_ret
  exact ⟨by first | rfl | simp, B9.out⟩

set_option maxRecDepth 100000 in
set_option maxHeartbeats 4000000 in
theorem checkWants_walk (A : Option Addr) (n c : Nat) (p : List Ins) (F : Option Addr) (m c' : Nat) (f : List Bool) (E : Option Addr) (l c'' : Nat) (want : List Bool) (w : World) (hp : Rc 3 w w.heap.size A n c (ics p)) (hn : n ≤ maxLen) (hI : ∀ x ∈ p, I x.op ∧ I x.n) (hr : Rc 1 w w.heap.size F m c' (lvb f)) (hw : Rc 1 w w.heap.size E l c'' (lvb want)) :
    Calls Tryd.prog 4 #[.slice A n c, .slice F m c', .slice E l c''] w (RetV w (.bool true)) := by
  have Hs1 := Lib.hid (small_c A n c p w hp hn)
  have HP := Lib.hid hp; have HR := Lib.hid hr; have HW := Lib.hid hw; have HI := Lib.hid (fun x hx => (hI x hx).1)
  clear hp hr hI hn hw
  go_enter Tryd.func4, Tryd.ntmps4
  go_wp2_with fail
  refine Hs1.out.mono ?_
  rintro e w1 ⟨b1, rfl, hb1, rfl⟩
  cases b1
  · clear hb1
    go_wp2_with fail
    refine (alive_c w1).mono ?_
    rintro e wf ⟨rfl, bf⟩
    go_wp2
    go_ret
    exact ⟨by first | rfl | simp, bf⟩
  have hn := hb1 rfl
  clear hb1
  by_cases h5 : (5 : Int) < (m : Int)
  · have d1 : decide ((5 : Int) < (m : Int)) = true := decide_eq_true h5
    clear h5
    go_wp2_with fail
    refine (alive_c w1).mono ?_
    rintro e wf ⟨rfl, bf⟩
    go_wp2
    go_ret
    exact ⟨by first | rfl | simp, bf⟩
  have d1 : decide ((5 : Int) < (m : Int)) = false := decide_eq_false h5
  have hm5 : m ≤ 5 := by omega
  clear h5
  by_cases h4 : (40 : Int) < (l : Int)
  · have d2 : decide ((40 : Int) < (l : Int)) = true := decide_eq_true h4
    clear h4
    go_wp2_with fail
    refine (alive_c w1).mono ?_
    rintro e wf ⟨rfl, bf⟩
    go_wp2
    go_ret
    exact ⟨by first | rfl | simp, bf⟩
  have d2 : decide ((40 : Int) < (l : Int)) = false := decide_eq_false h4
  clear h4
  have hch := fun W (hb : Below w1.heap.size w1 W) => check_c A n c p F m c' f E l c'' want W ((HP.out.below hb).more hb.size) (by omega) HI.out ((HR.out.below hb).more hb.size) (by omega) ((HW.out.below hb).more hb.size)
  have hrc := fun W (hb : Below w1.heap.size w1 W) => rcheck_c A n c p F m c' f E l c'' want W ((HP.out.below hb).more hb.size) (by omega) ((HR.out.below hb).more hb.size) (by omega) ((HW.out.below hb).more hb.size)
  generalize ckd p f want = K at *
  have Hch := Lib.hid hch; have Hrc := Lib.hid hrc
  clear hch hrc
  go_wp2_with fail
  refine (alive_c w1).mono ?_
  rintro e w2 ⟨rfl, b2⟩
  have B2 := Lib.hid b2
  clear b2
  go_wp2_with fail
  refine (Hch.out w2 B2.out).mono ?_
  rintro e w3 ⟨rfl, b3⟩
  have B3 := Lib.hid (B2.out.trans (b3.mono B2.out.size))
  clear b3
  go_wp2_with fail
  refine (Hrc.out w3 B3.out).mono ?_
  rintro e w4 ⟨rfl, b4⟩
  have B4 := Lib.hid (B3.out.trans (b4.mono B3.out.size))
  clear b4
  go_wp2
  go_ret
  exact ⟨by first | rfl | simp, B4.out⟩
end Go.Proofs.YthkjhenaicbepaaDoor
