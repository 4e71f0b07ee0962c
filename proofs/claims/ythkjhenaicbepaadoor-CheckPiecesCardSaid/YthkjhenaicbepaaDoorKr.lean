/-
  The document's Stack, Same, Check.
-/
import Derived.Test.YthkjhenaicbepaaDoorKq
namespace Go.Proofs.YthkjhenaicbepaaDoor
open Go.RowKit Vl Cd Ck

def RsRel2 (w : World) (n : Nat) (f : List Bool) (p : List Ins) (G : List Bool × Nat × Nat) (v i : Value) (wr : World) : Prop :=
  ∃ (k : Nat) (s : List Bool) (z : Nat) (A : Option Addr) (c : Nat), k ≤ n ∧ i = .int .i64 (k : Int) ∧ v = .slice A z c ∧ Hid (z = s.length) ∧ Hid (rn f s k (p.drop k) = G) ∧ Hid (Oc 1 wr 4 w.heap.size A z c (lvb s)) ∧ Hid (Below w.heap.size w wr) ∧ Hid (z ≤ 30)
section
variable (A : Option Addr) (n c : Nat) (p : List Ins) (F : Option Addr) (m c' : Nat) (f : List Bool) (w : World)
set_option maxRecDepth 100000 in
set_option maxHeartbeats 2000000 in
theorem rstack_c (hp : Rc 3 w w.heap.size A n c (ics p)) (hn : n ≤ 1000000) (hr : Rc 1 w w.heap.size F m c' (lvb f)) (hm : m ≤ 1000000) :
    Calls Tryd.prog 9 #[.slice A n c, .slice F m c'] w (RetStk w (sk p f)) := by
  have hfl := lvb_len1 hr
  have hpl := ics_num hp
  obtain ⟨G, hG⟩ : ∃ G, G = sk p f := ⟨_, rfl⟩
  rw [← hG]
  unfold sk at hG
  by_cases h2 : m = 0 ∨ m = 2
  · by_cases h3 : n ≤ 200
    · have hbad : bad p f = 0 := by unfold bad; rw [if_neg (by omega), if_neg (by omega)]
      rw [if_pos hbad] at hG
      have HG := Lib.hid (show rn f [] 0 (p.drop 0) = G from hG.symm)
      have d0 : decide ((200 : Int) < (n : Int)) = false := decide_eq_false (by omega)
      obtain ⟨w1, hw1⟩ : ∃ w1, w1 = w.alloc (.cells #[] 4) := ⟨_, rfl⟩
      have b1 : Below w.heap.size w w1 := by rw [hw1]; exact (Below.refl _ _).alloc (Nat.le_refl _) _
      have o1 : Oc 1 w1 4 w.heap.size (some ⟨w.heap.size, 0, none⟩) 0 0 [] := by rw [hw1]; exact Oc.made0 1 _ _
      have HP := Lib.hid hp; have HR := Lib.hid hr; have Hpl := Lib.hid hpl; have W1 := Lib.hid hw1; have B1 := Lib.hid b1; have O1 := Lib.hid o1
      clear hp hr hpl hfl hbad hG hn hm hw1 b1 o1
      rcases h2 with rfl | rfl
      all_goals
        go_enter Tryd.func9, Tryd.ntmps9
        go_wp2_with (rw [← W1.out])
        go_loopw [7, 8] (fun v i wr => RsRel2 w n f p G v i wr) (fun _ i _ => n - (intOf i).toNat)
        case atStart => exact ⟨0, [], 0, _, 0, Nat.zero_le _, rfl, rfl, Lib.hid rfl, HG, O1, B1, Lib.hid (by omega)⟩
        case round =>
          obtain ⟨k, s, z, A1, c1, hk, rfl, rfl, Hz, Hg, Ho, Hb, Hle⟩ := hrel
          by_cases hlt : k < n
          · obtain ⟨b, o, x, rfl, hb, a0, a1, a2, hx⟩ := ics_at (HP.out.below Hb.out) hlt
            have hg := Hg.out
            rw [drop_cons' Hpl.out hlt hx] at hg
            have hst := rstep_c A1 z c1 s x F _ c' f wr Ho.out.rc Hle.out ((HR.out.below Hb.out).more Hb.out.size) (by simp)
            have hsl := stp_len (f := f) (s := s) (x := x) (by rw [← Hz.out]; exact Hle.out)
            have hgo := fun h => (rn_go (f := f) (s := s) (x := x) k (p.drop (k + 1)) h).symm.trans hg
            have hgs := fun h => (rn_stop (f := f) (s := s) (x := x) k (p.drop (k + 1)) h).symm.trans hg
            obtain ⟨op, nn, t⟩ := x
            obtain ⟨X, hX, -, -, -⟩ := hide_st t
            dsimp only at a0 a1 a2
            simp only [iv, st, ← hX] at hst
            unfold st at a2
            rw [← hX] at a2
            generalize stp f s ⟨op, nn, t⟩ = T at *
            obtain ⟨u, er⟩ := T
            have HT := Lib.hid hst; have Hgo := Lib.hid hgo; have Hgs := Lib.hid hgs; have Hsl := Lib.hid hsl
            clear hst hgo hgs hsl hg hx hX
            by_cases h0 : er = 0
            · subst h0
              have h1 := Lib.hid (Hgo.out rfl)
              go_wp2_with fail
              refine HT.out.mono ?_
              rintro e w8 ⟨b8, h⟩
              rw [if_pos rfl] at h
              obtain ⟨A8, c8, rfl, ho8⟩ := h
              have B8 := Lib.hid (Hb.out.trans (b8.mono Hb.out.size)); have O8 := Lib.hid (ho8.mono Hb.out.size)
              obtain ⟨z8, hz8⟩ : ∃ z8, z8 = u.length := ⟨_, rfl⟩
              have hsl8 := Hsl.out
              simp only [← hz8] at O8 hsl8 ⊢
              have Z8 := Lib.hid hz8; have L8 := Lib.hid hsl8
              clear b8 ho8 a0 a1 a2 hz8 hsl8
              go_wp2
              go_roundw
              case rel => exact ⟨k + 1, u, z8, A8, c8, hlt, by go_num, rfl, Z8, h1, O8, B8, L8⟩
              case measure => simp [intOf]; omega
            · have e3 : ((er : Int) != 0) = true := by simp; omega
              have e4 : ((er : Int) == 0) = false := by simp; omega
              have h1 := Hgs.out h0
              have H0 := Lib.hid h0
              have H1 := Lib.hid h1
              clear h0 h1
              go_wp2_with fail
              refine HT.out.mono ?_
              rintro e w8 ⟨b8, h⟩
              rw [if_neg H0.out] at h
              subst h
              have HF := Lib.hid (show RetStk w G (.returned (.tuple #[.slice A1 z c1, .int .i64 (k : Int), .int .i64 (er : Int)])) w8 from by
                rw [← H1.out]
                refine ⟨A1, c1, ?_, ?_, Hb.out.trans (b8.mono Hb.out.size)⟩
                · show _ = Ending.returned (.tuple #[.slice A1 s.length c1, _, _]); rw [Hz.out]
                · have q := Ho.out.keep b8; rw [Hz.out] at q; exact q)
              clear b8 a0 a1 a2
              go_wp2
              go_ret3
              exact HF.out
          · obtain rfl : k = n := by omega
            have hg := Hg.out
            rw [List.drop_of_length_le (by rw [Hpl.out]; exact Nat.le_refl _), rn_nil] at hg
            have HF := Lib.hid (show RetStk w G (.returned (.tuple #[.slice A1 z c1, .int .i64 (k : Int), .int .i64 0])) wr from by
              rw [← hg]
              refine ⟨A1, c1, ?_, ?_, Hb.out⟩
              · show _ = Ending.returned (.tuple #[.slice A1 s.length c1, _, _]); rw [Hz.out]; rfl
              · have q := Ho.out; rw [Hz.out] at q; exact q)
            clear hg
            go_wp2
            go_ret3
            exact HF.out
    · have d0 : decide ((200 : Int) < (n : Int)) = true := decide_eq_true (by omega)
      have hbad : bad p f = 5 := by unfold bad; rw [if_neg (by omega), if_pos (by omega)]
      rw [if_neg (by omega), hbad] at hG
      have HF := Lib.hid (show RetStk w G (.returned (.tuple #[.slice none 0 0, .int .i64 0, .int .i64 5])) w from by rw [hG]; exact ⟨none, 0, rfl, Oc.nil 1 w _ _, Below.refl _ _⟩)
      clear h3 hbad hG hp hr hfl hpl
      rcases h2 with rfl | rfl
      all_goals
        go_enter Tryd.func9, Tryd.ntmps9
        go_wp2
        go_ret3
        exact HF.out
  · have d0 : ((m : Int) != 0) = true := by simp; omega
    have d1 : ((m : Int) != 2) = true := by simp; omega
    have d0' : ((m : Int) == 0) = false := by simp; omega
    have d1' : ((m : Int) == 2) = false := by simp; omega
    have hbad : bad p f = 1 := by unfold bad; rw [if_pos (by omega)]
    rw [if_neg (by omega), hbad] at hG
    have HF := Lib.hid (show RetStk w G (.returned (.tuple #[.slice none 0 0, .int .i64 0, .int .i64 1])) w from by rw [hG]; exact ⟨none, 0, rfl, Oc.nil 1 w _ _, Below.refl _ _⟩)
    clear h2 hbad hG hp hr hfl hpl
    go_enter Tryd.func9, Tryd.ntmps9
    go_wp2
    go_ret3
    exact HF.out
end
set_option maxRecDepth 100000 in
set_option maxHeartbeats 1000000 in
theorem rsame_c (A D : Option Addr) (n c m d B : Nat) (p q : List Bool) (w : World) (hp : Rc 1 w B A n c (lvb p)) (hq : Rc 1 w B D m d (lvb q)) (hn : n ≤ 1000000) :
    Calls Tryd.prog 10 #[.slice A n c, .slice D m d] w fun e w' => e = .returned (.bool (decide (p = q))) ∧ ∃ k, w' = w.drewN k := by
  have Hl := Lib.hid (And.intro (lvb_len1 hp) (lvb_len1 hq))
  have Hp := Lib.hid hp; have Hq := Lib.hid hq
  clear hp hq
  by_cases hnm : n = m
  · subst hnm
    go_enter Tryd.func10, Tryd.ntmps10
    go_wp2
    go_loopw [5] (fun t wr => EqRel w n p q t wr) (fun t _ => n - (intOf t).toNat)
    case atStart => exact ⟨0, 0, by omega, rfl, fun j h => by omega, rfl⟩
    case round =>
      obtain ⟨k, qq, hk, rfl, hno, rfl⟩ := hrel
      by_cases hlt : k < n
      · obtain ⟨b, o, x, rfl, hb, a0, hx⟩ := lvb_at Hp.out hlt
        obtain ⟨b', o', y, rfl, hb', e0, hy⟩ := lvb_at Hq.out hlt
        have HNo := Lib.hid hno; have Hx := Lib.hid hx; have Hy := Lib.hid hy
        clear hno hx hy
        by_cases he : x = y
        · subst he
          cases x
          all_goals
            go_wp2
            go_quiet (fail)
            go_wp2
            go_roundw
            case rel => exact ⟨k + 1, qq + nq, hlt, by go_num, fun j hj => by
              by_cases hjk : j = k
              · rw [hjk]; exact Hx.out.trans Hy.out.symm
              · exact HNo.out j (by omega), rfl⟩
            case measure => simp [intOf]; omega
        · have hne : p ≠ q := fun e => he (by have h1 := Hx.out; rw [e, Hy.out] at h1; exact (Option.some.inj h1).symm)
          have HE := Lib.hid hne
          clear hne
          cases x <;> cases y <;> first | (exact absurd rfl he) | skip
          all_goals
            clear he
            go_wp2
            go_quiet (fail)
            go_wp2
            go_ret
            refine ⟨?_, qq + nq, by first | rfl | simp | exact World.drewN_drewN _ _ _⟩
            show Ending.returned (.bool false) = Ending.returned (.bool (decide (p = q)))
            rw [decide_eq_false HE.out]
      · obtain rfl : k = n := by omega
        have HNo := Lib.hid hno
        clear hno
        go_wp2
        go_ret
        refine ⟨?_, qq, rfl⟩
        have : p = q := List.ext_getElem? fun j => by
          by_cases hj : j < k
          · exact HNo.out j hj
          · rw [List.getElem?_eq_none (by have := Hl.out; omega), List.getElem?_eq_none (by have := Hl.out; omega)]
        show Ending.returned (.bool true) = Ending.returned (.bool (decide (p = q)))
        rw [decide_eq_true this]
  · have d1 : decide ((n : Int) = (m : Int)) = false := decide_eq_false (by omega)
    have d2 : ((n : Int) == (m : Int)) = false := beq_eq_false_iff_ne.2 (by omega)
    have d3 : ((n : Int) != (m : Int)) = true := by rw [bne, d2]; rfl
    go_enter Tryd.func10, Tryd.ntmps10
    go_wp2
    go_ret
    refine ⟨?_, 0, rfl⟩
    show Ending.returned (.bool false) = Ending.returned (.bool (decide (p = q)))
    rw [decide_eq_false]
    rintro rfl
    have := Hl.out
    omega

section
variable (A : Option Addr) (n c : Nat) (p : List Ins) (F : Option Addr) (m c' : Nat) (f : List Bool) (E : Option Addr) (l c'' : Nat) (want : List Bool) (w : World)
set_option maxRecDepth 100000 in
set_option maxHeartbeats 1000000 in
theorem rcheck_c (hp : Rc 3 w w.heap.size A n c (ics p)) (hn : n ≤ 1000000) (hr : Rc 1 w w.heap.size F m c' (lvb f)) (hm : m ≤ 1000000) (hw : Rc 1 w w.heap.size E l c'' (lvb want)) :
    Calls Tryd.prog 17 #[.slice A n c, .slice F m c', .slice E l c''] w (RetV w (.int .i64 (ckd p f want : Int))) := by
  have hs := rstack_c A n c p F m c' f w hp hn hr hm
  have hs30 := (sk_len p f).1
  obtain ⟨K, hK⟩ : ∃ K, K = ckd p f want := ⟨_, rfl⟩
  rw [← hK]
  unfold ckd at hK
  obtain ⟨G, hG⟩ : ∃ G, G = sk p f := ⟨_, rfl⟩
  rw [← hG] at hs hK hs30
  obtain ⟨s, i, er⟩ := G
  dsimp only at hK hs30
  have Hs := Lib.hid hs; have HW := Lib.hid hw; have HK := Lib.hid hK; have H30 := Lib.hid hs30
  clear hs hw hK hG hp hn hr hm hs30
  go_enter Tryd.func17, Tryd.ntmps17
  go_wp2_with fail
  refine Hs.out.mono ?_
  rintro e w1 ⟨A1, c1, rfl, ho, b1⟩
  have heq := fun W (hb : Below w1.heap.size w1 W) => rsame_c A1 E s.length c1 l c'' W.heap.size s want W ((ho.rc.below hb).more hb.size) (((HW.out.below b1).more b1.size).below hb |>.more hb.size) (by have := H30.out; omega)
  have B1 := Lib.hid b1; have Heq := Lib.hid (heq w1 (Below.refl _ _))
  clear ho b1 heq
  by_cases h0 : er = 0
  · subst h0
    by_cases h1 : s = want
    · obtain rfl : K = 0 := HK.out.trans ((if_neg (by simp)).trans (if_pos h1))
      have heq := Heq.out
      rw [decide_eq_true h1] at heq
      have Heq2 := Lib.hid heq
      clear h1 heq Heq
      go_wp2_with fail
      refine Heq2.out.mono ?_
      rintro e w2 ⟨rfl, k, rfl⟩
      go_wp2
      go_ret
      exact ⟨rfl, below_drewN B1.out _⟩
    · obtain rfl : K = 11 := HK.out.trans ((if_neg (by simp)).trans (if_neg h1))
      have heq := Heq.out
      rw [decide_eq_false h1] at heq
      have Heq2 := Lib.hid heq
      clear h1 heq Heq
      go_wp2_with fail
      refine Heq2.out.mono ?_
      rintro e w2 ⟨rfl, k, rfl⟩
      go_wp2
      go_ret
      exact ⟨rfl, below_drewN B1.out _⟩
  · obtain rfl : K = er := HK.out.trans (if_pos h0)
    have e3 : ((K : Int) != 0) = true := by simp; omega
    have e4 : ((K : Int) == 0) = false := by simp; omega
    clear h0
    go_wp2
    go_ret
    exact ⟨rfl, B1.out⟩
end
end Go.Proofs.YthkjhenaicbepaaDoor
