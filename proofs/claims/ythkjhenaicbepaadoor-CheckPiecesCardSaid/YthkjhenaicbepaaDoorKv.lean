/-
  The walk of the law CheckPieces.
-/
import Derived.Test.YthkjhenaicbepaaDoorKu
namespace Go.Proofs.YthkjhenaicbepaaDoor
open Go.RowKit Vl Cd Ck

theorem sk_iff {p : List Ins} (hp : p.length ≤ 200) : (sk p []).2.1 ≤ p.length ∧ ((sk p []).2.2 = 0 ↔ (sk p []).2.1 = p.length) := by
  have b1 : bad p [] = 0 := by unfold bad; rw [if_neg (by simp), if_neg (by omega)]
  unfold sk
  rw [if_pos b1]
  have := rn_len (f := []) p [] 0 (by simp)
  rw [Nat.zero_add] at this
  exact ⟨this.2.2.1, this.2.2.2.2⟩
theorem sk_begin {p : List Ins} (hp : p.length ≤ 200) {i : Nat} (h : i ≤ (sk p []).2.1) : (sk (p.take i) []).2 = (i, 0) ∧ (i = (sk p []).2.1 → (sk (p.take i) []).1 = (sk p []).1) :=
  sk_take (by unfold bad; rw [if_neg (by simp), if_neg (by omega)]) h
theorem dpr_le {f : List Bool} : ∀ (p : List Ins) (s : List Bool) (m : Nat), s.length ≤ 30 → m ≤ 30 → dpr f s m p ≤ 30
  | [], _, _, _, h => h
  | x :: p, s, m, hs, h => by
    by_cases h0 : (stp f s x).2 = 0
    · rw [dpr_go m p h0]
      have := stp_len (f := f) (x := x) hs
      exact dpr_le p _ _ this (by omega)
    · rw [dpr_stop m p h0]; exact h
theorem dp_le (p : List Ins) (f : List Bool) : dp p f ≤ 30 := by
  unfold dp
  split
  · exact dpr_le p [] 0 (by simp) (by omega)
  · omega

set_option maxRecDepth 100000 in
set_option maxHeartbeats 8000000 in
theorem checkPieces_walk (A : Option Addr) (n c : Nat) (p : List Ins) (at_ : Int) (w : World) (hp : Rc 3 w w.heap.size A n c (ics p)) (hn : n ≤ maxLen) (hI : ∀ x ∈ p, I x.op ∧ I x.n) (_ : I at_) :
    Calls Tryd.prog 5 #[.slice A n c, .int .i64 at_] w (RetV w (.bool true)) := by
  have Hs1 := Lib.hid (small_c A n c p w hp hn)
  have Hpl := Lib.hid (ics_num hp)
  have HP := Lib.hid hp; have HI := Lib.hid (fun x hx => (hI x hx).1)
  clear hp hI hn
  go_enter Tryd.func5, Tryd.ntmps5
  go_wp2_with fail
  refine Hs1.out.mono ?_
  rintro e w1 ⟨b1, rfl, hb1, rfl⟩
  cases b1
  · clear hb1
    go_wp2_with fail
    refine (alive_c w1).mono ?_
    rintro e wf ⟨rfl, bf⟩
    go_wp2
    go_ret
    exact ⟨by first | rfl | simp, bf⟩
  clear hb1
  by_cases h5 : (100 : Int) < (n : Int)
  · have d1 : decide ((100 : Int) < (n : Int)) = true := decide_eq_true h5
    clear h5
    go_wp2_with fail
    refine (alive_c w1).mono ?_
    rintro e wf ⟨rfl, bf⟩
    go_wp2
    go_ret
    exact ⟨by first | rfl | simp, bf⟩
  have d1 : decide ((100 : Int) < (n : Int)) = false := decide_eq_false h5
  have hn : n ≤ 100 := by omega
  clear h5
  have hst := fun W (hb : Below w1.heap.size w1 W) => stack_c A n c p none 0 0 [] W ((HP.out.below hb).more hb.size) (by omega) HI.out (Rc.nil 1 W _) (by omega)
  have hde := fun W (hb : Below w1.heap.size w1 W) => depth_c A n c p none 0 0 [] W ((HP.out.below hb).more hb.size) (by omega) HI.out (Rc.nil 1 W _) (by omega)
  have hsN := fun (k : Nat) (W : World) (hb : Below w1.heap.size w1 W) (hk : k ≤ n) => stack_c A k c (p.take k) none 0 0 [] W (by
    have q := (HP.out.upto hk)
    rw [ics_take] at q
    exact (q.below hb).more hb.size) (by omega) (fun x hx => HI.out x (List.mem_of_mem_take hx)) (Rc.nil 1 W _) (by omega)
  have hs2 := fun (W : World) (E : Option Addr) (d : Nat) (h : Rc 3 W W.heap.size E (n + n) d (ics (p ++ p))) => stack_c E (n + n) d (p ++ p) none 0 0 [] W h (by omega) (fun x hx => (List.mem_append.1 hx).elim (HI.out x) (HI.out x)) (Rc.nil 1 W _) (by omega)
  have hpl2 : p.length ≤ 200 := by rw [Hpl.out]; omega
  have hsl := sk_len p []
  have hiff := sk_iff hpl2
  have hbeg := fun i => @sk_begin p hpl2 i
  have htw := @sk_twice p (by rw [Hpl.out]; exact hn)
  have hdl := dp_last p []
  have hD30 := dp_le p []
  obtain ⟨D, hD⟩ : ∃ D, D = dp p [] := ⟨_, rfl⟩
  simp only [← hD] at hde htw hdl hD30
  obtain ⟨G, hG⟩ : ∃ G, G = sk p [] := ⟨_, rfl⟩
  simp only [← hG] at hst hsl hiff hbeg htw hdl
  obtain ⟨s, i, er⟩ := G
  dsimp only at hsl hiff hbeg htw hdl
  rw [Hpl.out] at hiff
  have hin := hiff.1
  have hsi := hsN i
  obtain ⟨t2, ht1, ht2⟩ : ∃ t2, sk (p.take i) [] = (s, t2) ∧ t2 = (i, 0) := ⟨(sk (p.take i) []).2, by rw [← (hbeg i (Nat.le_refl _)).2 rfl], (hbeg i (Nat.le_refl _)).1⟩
  subst ht2
  rw [ht1] at hsi
  obtain ⟨b, hb⟩ : ∃ b : Bool, b = decide (er = 0) := ⟨_, rfl⟩
  have f1 : ((er : Int) == 0) = b := by rw [hb]; cases h : decide (er = 0) <;> simp at h ⊢ <;> omega
  have f2 : ((i : Int) == (n : Int)) = b := by
    have h2 := hiff.2
    rw [hb]; cases h : decide (er = 0) <;> simp at h ⊢ <;> omega
  have f3 : decide ((n : Int) < (i : Int)) = false := decide_eq_false (by omega)
  have f4 : decide (n < i) = false := decide_eq_false (by omega)
  have f5 : decide ((i : Int) < 0) = false := decide_eq_false (by omega)
  have hcut := Sl.upto ity A n c i hin HP.out.2.1 (i : Int) rfl
  obtain ⟨z, hz⟩ : ∃ z, z = s.length := ⟨_, rfl⟩
  have Hst := Lib.hid hst; have Hde := Lib.hid hde; have HsN := Lib.hid hsN; have Hs2 := Lib.hid hs2; have Hsi := Lib.hid hsi; have Hbeg := Lib.hid hbeg; have Htw := Lib.hid htw; have Hb := Lib.hid hb; have Hiff := Lib.hid hiff; have Hz := Lib.hid hz
  have hz30 : z ≤ 30 := by rw [hz]; exact hsl.1
  have hzD : z ≤ D := by rw [hz]; exact hdl
  have HzD := Lib.hid hzD
  have f6 : decide ((D : Int) < (z : Int)) = false := decide_eq_false (by omega)
  have f7 : decide (D < z) = false := decide_eq_false (by omega)
  clear hst hde hsN hs2 hsi hbeg htw hb hiff hsl hdl ht1 hG hD hpl2 hz hzD
  go_wp2_with fail
  refine (Hst.out w1 (Below.refl _ _)).mono ?_
  rintro e w2 ⟨A2, c2, rfl, ho2, b2⟩
  dsimp only at ho2 ⊢
  rw [← Hz.out] at ho2 ⊢
  have B2 := Lib.hid b2; have O2 := Lib.hid ho2
  clear b2 ho2
  go_wp2_with fail
  refine (Hsi.out w2 B2.out hin).mono ?_
  rintro e w3 ⟨A3, c3, rfl, ho3, b3⟩
  dsimp only at ho3 ⊢
  rw [← Hz.out] at ho3 ⊢
  have B3 := Lib.hid (B2.out.trans (b3.mono B2.out.size)); have O2' := Lib.hid (O2.out.keep b3)
  have hsm := rsame_c A2 A3 z c2 z c3 w3.heap.size s s w3 O2'.out.rc (ho3.rc) (by omega)
  rw [decide_eq_true rfl] at hsm
  have Hsm := Lib.hid hsm
  clear hsm b3 ho3 hcut
  go_wp2_with fail
  refine Hsm.out.mono ?_
  rintro e w4 ⟨rfl, k4, rfl⟩
  have B4 := Lib.hid (below_drewN B3.out k4); have O4 := Lib.hid (O2'.out.drewN k4)
  clear Hsm O2' O2
  go_wp2_with fail
  refine (Hde.out _ B4.out).mono ?_
  rintro e w5 ⟨rfl, b5⟩
  have B5 := Lib.hid (B4.out.trans (b5.mono B4.out.size)); have O5 := Lib.hid (O4.out.keep b5)
  clear b5 O4
  have hc3 : at_ < 0 ∨ (∃ k : Nat, at_ = (k : Int) ∧ i ≤ k) ∨ ∃ k : Nat, at_ = (k : Int) ∧ k < i := by
    by_cases h0 : at_ < 0
    · exact .inl h0
    · by_cases h1 : i ≤ at_.toNat
      · exact .inr (.inl ⟨at_.toNat, by omega, h1⟩)
      · exact .inr (.inr ⟨at_.toNat, by omega, by omega⟩)
  rcases hc3 with h | ⟨k, rfl, h⟩ | ⟨k, rfl, h⟩
  case' inl =>
    have g1 : decide ((0 : Int) ≤ at_) = false := decide_eq_false (by omega)
    have B6 := B5; have O6 := O5
    clear h B5 O5
    rename World => w6
  case' inr.inl =>
    have g1 : decide ((k : Int) < (i : Int)) = false := decide_eq_false (by omega)
    have g2 : decide (k < i) = false := decide_eq_false (by omega)
    have B6 := B5; have O6 := O5
    clear h B5 O5
    rename World => w6
  case' inr.inr =>
    have g1 : decide ((k : Int) < (i : Int)) = true := decide_eq_true (by omega)
    have g2 : decide (k < i) = true := decide_eq_true h
    have hkn : k ≤ n := by omega
    have hcut := Sl.upto ity A n c k hkn HP.out.2.1 (k : Int) rfl
    have h1 := HsN.out k w5 B5.out hkn
    have h2 := (Hbeg.out k (by omega)).1
    obtain ⟨T, hT⟩ : ∃ T, T = sk (p.take k) [] := ⟨_, rfl⟩
    rw [← hT] at h1 h2
    obtain ⟨u, t2⟩ := T
    dsimp only at h2
    subst h2
    have H1 := Lib.hid h1
    clear h1 hT h
    go_wp2_with fail
    refine H1.out.mono ?_
    rintro e w6 ⟨A6, c6, rfl, ho6, b6⟩
    have B6 := Lib.hid (B5.out.trans (b6.mono B5.out.size)); have O6 := Lib.hid (O5.out.keep b6)
    clear ho6 b6 hcut O5 B5
    dsimp only
  all_goals
    cases b
    · have f8 : ((er : Int) != 0) = true := by rw [bne, f1]; rfl
      go_wp2_with fail
      refine (alive_c w6).mono ?_
      rintro e wf ⟨rfl, bf⟩
      have BF := Lib.hid (B6.out.trans (bf.mono B6.out.size))
      clear bf
      go_wp2
      go_ret
      exact ⟨by first | rfl | simp, BF.out⟩
    · have h0 : er = 0 := by have := Hb.out; simpa using this.symm
      have htw := Htw.out h0
      obtain ⟨w7, h7⟩ : ∃ w7, w7 = w6.alloc (.cells #[] 37) := ⟨_, rfl⟩
      have b7 : Below w6.heap.size w6 w7 := by rw [h7]; exact (Below.refl _ _).alloc (Nat.le_refl _) _
      have ow7 : Oc 3 w7 37 w6.heap.size (some ⟨w6.heap.size, 0, none⟩) 0 0 [] := by rw [h7]; exact Oc.made0 3 _ _
      have B7 := Lib.hid (B6.out.trans (b7.mono B6.out.size)); have H7 := Lib.hid h7; have OW7 := Lib.hid ow7
      have z7 : w6.heap.size ≤ w7.heap.size := b7.size
      have HP7 := Lib.hid ((HP.out.below B7.out).more B7.out.size); have O7 := Lib.hid (O6.out.keep b7)
      have HA := Lib.hid (ics_app p p)
      subst h0
      clear h7 ow7 b7 Hb Htw f1 f2 Hiff HsN Hsi Hbeg Hst
      go_wp2_with (at_builtin; rw [← H7.out]; go_must (refine Sl.wpAppAt ity rfl (.tmp 104) (.tmp 105) rfl (n := 0) (m := n) (N := n) (ws := ics p) rfl rfl OW7.out HP7.out (ics_one _) (Nat.zero_add _) rfl ?hs4 ?hs5 z7 ?_))
      case hs4 => omega
      case hs5 => omega
      intro A8 c8 w8 ow8 hg8
      have k8 := hg8.belowC OW7.out z7
      have B8 := Lib.hid (B7.out.trans (k8.mono B6.out.size)); have OW8 := Lib.hid ow8
      have z8 : w6.heap.size ≤ w8.heap.size := Nat.le_trans z7 k8.size
      have HP8 := Lib.hid ((HP.out.below B8.out).more B8.out.size)
      have O8 := Lib.hid (O6.out.keep ((show Below w6.heap.size w6 w7 from by rw [H7.out]; exact (Below.refl _ _).alloc (Nat.le_refl _) _).trans k8))
      clear ow8 hg8
      go_wp2_with (at_builtin; go_must (refine Sl.wpAppAt ity rfl (.tmp 106) (.tmp 107) rfl (n := n) (m := n) (N := n + n) (ws := ics (p ++ p)) rfl rfl OW8.out HP8.out (ics_one _) rfl HA.out.symm ?hs4 ?hs5 z8 ?_))
      case hs4 => omega
      case hs5 => omega
      intro A9 c9 w9 ow9 hg9
      have k9 := hg9.belowC OW8.out z8
      have B9 := Lib.hid (B8.out.trans (k9.mono B6.out.size)); have R9 := Lib.hid ow9.rc
      have O9 := Lib.hid (O6.out.keep (((show Below w6.heap.size w6 w7 from by rw [H7.out]; exact (Below.refl _ _).alloc (Nat.le_refl _) _).trans k8).trans k9))
      have h2 := Hs2.out w9 A9 c9 R9.out
      clear ow9 hg9 k8 k9
      obtain ⟨G2, hG2⟩ : ∃ G2, G2 = sk (p ++ p) [] := ⟨_, rfl⟩
      rw [← hG2] at htw h2
      have hl2 : G2.1.length ≤ 30 := by rw [hG2]; exact (sk_len (p ++ p) []).1
      obtain ⟨t, j, h⟩ := G2
      dsimp only at htw hl2
      have HTW := Lib.hid htw; have H2 := Lib.hid h2; have HL2 := Lib.hid hl2
      clear htw h2 hl2 hG2
      obtain ⟨N2, hN2⟩ : ∃ N2, N2 = n + n := ⟨_, rfl⟩
      rw [← hN2] at H2 ⊢
      clear hN2 R9
      go_wp2_with fail
      refine H2.out.mono ?_
      rintro e w10 ⟨A10, c10, rfl, ho10, b10⟩
      dsimp only at ho10 ⊢
      have B10 := Lib.hid (B9.out.trans (b10.mono B9.out.size)); have O10 := Lib.hid (O9.out.keep b10); have T10 := Lib.hid ho10
      clear ho10 b10
      obtain ⟨zt, hzt⟩ : ∃ zt, zt = t.length := ⟨_, rfl⟩
      rw [← hzt] at T10 HL2 ⊢
      obtain ⟨w11, h11⟩ : ∃ w11, w11 = w10.alloc (.cells #[] 4) := ⟨_, rfl⟩
      have b11 : Below w10.heap.size w10 w11 := by rw [h11]; exact (Below.refl _ _).alloc (Nat.le_refl _) _
      have ow11 : Oc 1 w11 4 w10.heap.size (some ⟨w10.heap.size, 0, none⟩) 0 0 [] := by rw [h11]; exact Oc.made0 1 _ _
      have B11 := Lib.hid (B10.out.trans (b11.mono B10.out.size)); have H11 := Lib.hid h11; have OW11 := Lib.hid ow11
      have z11 : w10.heap.size ≤ w11.heap.size := b11.size
      have S11 := Lib.hid (O10.out.keep b11).rc; have BA := Lib.hid b11
      have HB := Lib.hid (lvb_app s s); have HZT := Lib.hid hzt
      clear h11 ow11 b11 hzt
      go_wp2_with (at_builtin; rw [← H11.out]; go_must (refine Sl.wpAppAt kty rfl (.tmp 113) (.tmp 114) rfl (n := 0) (m := z) (N := z) (ws := lvb s) rfl rfl OW11.out S11.out (lvb_one _) (Nat.zero_add _) rfl ?hs4 ?hs5 z11 ?_))
      case hs4 => omega
      case hs5 => omega
      intro A12 c12 w12 ow12 hg12
      have k12 := hg12.belowC OW11.out z11
      have BB := Lib.hid (BA.out.trans k12); have OW12 := Lib.hid ow12
      have z12 : w10.heap.size ≤ w12.heap.size := Nat.le_trans z11 k12.size
      have S12 := Lib.hid (O10.out.keep BB.out).rc
      clear ow12 hg12 k12
      go_wp2_with (at_builtin; go_must (refine Sl.wpAppAt kty rfl (.tmp 115) (.tmp 116) rfl (n := z) (m := z) (N := z + z) (ws := lvb (s ++ s)) rfl rfl OW12.out S12.out (lvb_one _) rfl HB.out.symm ?hs4 ?hs5 z12 ?_))
      case hs4 => omega
      case hs5 => omega
      intro A13 c13 w13 ow13 hg13
      have k13 := hg13.belowC OW12.out z12
      have BC := Lib.hid (BB.out.trans k13); have OW13 := Lib.hid ow13
      have B13 := Lib.hid (B10.out.trans (BC.out.mono B10.out.size)); have T13 := Lib.hid (T10.out.keep BC.out)
      obtain ⟨zz, hzz⟩ : ∃ zz, zz = z + z := ⟨_, rfl⟩
      rw [← hzz] at OW13 ⊢
      clear ow13 hg13 k13 hzz
      go_wp2_with fail
      refine (alive_c w13).mono ?_
      rintro e w14 ⟨rfl, b14⟩
      have B14 := Lib.hid (B13.out.trans (b14.mono B13.out.size)); have T14 := Lib.hid (T13.out.keep b14); have OW14 := Lib.hid (OW13.out.keep b14)
      clear b14
      rcases HTW.out with ⟨he, hts⟩ | ⟨he, hbig⟩
      · subst he hts
        have hsm := rsame_c A10 A13 zt c10 zz c13 w14.heap.size (s ++ s) (s ++ s) w14 T14.out.rc OW14.out.rc (Nat.le_trans HL2.out (by omega))
        rw [decide_eq_true rfl] at hsm
        have Hsm := Lib.hid hsm
        clear hsm
        go_wp2_with fail
        refine Hsm.out.mono ?_
        rintro e w15 ⟨rfl, k15, rfl⟩
        go_wp2
        go_ret
        exact ⟨by first | rfl | simp, below_drewN B14.out k15⟩
      · subst he
        rw [← Hz.out] at hbig
        have e1 : IntKind.i64.wrap ((z : Int) + (D : Int)) = (z : Int) + (D : Int) := IntWalk.i64_in _ (by omega)
        have e2 : decide ((30 : Int) < (z : Int) + (D : Int)) = true := decide_eq_true (by omega)
        clear hbig
        go_wp2_with fail
        refine (Hde.out w14 B14.out).mono ?_
        rintro e w15 ⟨rfl, b15⟩
        have B15 := Lib.hid (B14.out.trans (b15.mono B14.out.size))
        clear b15
        go_wp2
        go_ret
        exact ⟨by first | rfl | simp, B15.out⟩
end Go.Proofs.YthkjhenaicbepaaDoor
