/-
  The program's Stack, Depth, slices.Equal of kinds, Check, Cost.
-/
import Derived.Test.YthkjhenaicbepaaDoorKn
namespace Go.Proofs.YthkjhenaicbepaaDoor
open Go.RowKit Vl Cd Ck

/-- What Stack hands over. -/
def RetStk (w : World) (G : List Bool × Nat × Nat) (e : Ending) (w' : World) : Prop :=
  ∃ A c, e = .returned (.tuple #[.slice A G.1.length c, .int .i64 (G.2.1 : Int), .int .i64 (G.2.2 : Int)]) ∧ Oc 1 w' 4 w.heap.size A G.1.length c (lvb G.1) ∧ Below w.heap.size w w'
section
variable (A : Option Addr) (n c : Nat) (p : List Ins) (F : Option Addr) (m c' : Nat) (f : List Bool) (w : World)
set_option maxRecDepth 100000 in
set_option maxHeartbeats 1000000 in
theorem stack_c (hp : Rc 3 w w.heap.size A n c (ics p)) (hn : n ≤ 1000000) (hI : ∀ x ∈ p, I x.op) (hr : Rc 1 w w.heap.size F m c' (lvb f)) (hm : m ≤ 1000000) :
    Calls Tryd.prog 8 #[.slice A n c, .slice F m c'] w (RetStk w (sk p f)) := by
  obtain ⟨w1, hw1⟩ : ∃ w1, w1 = w.alloc (.cells #[.slice none 0 0, .int .i64 0] 39) := ⟨_, rfl⟩
  have b1 : Below w.heap.size w w1 := by rw [hw1]; exact (Below.refl _ _).alloc (Nat.le_refl _) _
  have k1 : Bk w1 w.heap.size (.slice none 0 0) (.int .i64 0) := by rw [hw1]; exact Bk.made _ _ _ _
  have he := exec_c A n c p F m c' f w.heap.size w1 (hp.below b1) hn hI (hr.below b1) hm ⟨none, 0, k1, Oc.nil 1 w1 _ _⟩
  obtain ⟨G, hG⟩ : ∃ G, G = sk p f := ⟨_, rfl⟩
  rw [← hG] at he ⊢
  have W1 := Lib.hid hw1; have B1 := Lib.hid b1; have He := Lib.hid he
  clear hw1 b1 k1 he hp hn hI hr hm hG
  go_enter Tryd.func8, Tryd.ntmps8
  go_wp2_with (rw [← W1.out])
  refine He.out.mono ?_
  rintro e w2 ⟨rfl, hs, b2⟩
  obtain ⟨A2, c2, hb, ho⟩ := hs
  have HF := Lib.hid (show RetStk w G (.returned (.tuple #[.slice A2 G.1.length c2, .int .i64 (G.2.1 : Int), .int .i64 (G.2.2 : Int)])) w2 from ⟨A2, c2, rfl, ho.mono (Nat.le_succ _), B1.out.trans b2⟩)
  obtain ⟨c0, c1, f0, f1, hlt⟩ := hb
  clear ho b2
  go_wp2
  go_ret3
  exact HF.out
set_option maxRecDepth 100000 in
set_option maxHeartbeats 1000000 in
theorem depth_c (hp : Rc 3 w w.heap.size A n c (ics p)) (hn : n ≤ 1000000) (hI : ∀ x ∈ p, I x.op) (hr : Rc 1 w w.heap.size F m c' (lvb f)) (hm : m ≤ 1000000) :
    Calls Tryd.prog 11 #[.slice A n c, .slice F m c'] w (RetV w (.int .i64 (dp p f : Int))) := by
  obtain ⟨w1, hw1⟩ : ∃ w1, w1 = w.alloc (.cells #[.slice none 0 0, .int .i64 0] 39) := ⟨_, rfl⟩
  have b1 : Below w.heap.size w w1 := by rw [hw1]; exact (Below.refl _ _).alloc (Nat.le_refl _) _
  have k1 : Bk w1 w.heap.size (.slice none 0 0) (.int .i64 0) := by rw [hw1]; exact Bk.made _ _ _ _
  have he := exec_c A n c p F m c' f w.heap.size w1 (hp.below b1) hn hI (hr.below b1) hm ⟨none, 0, k1, Oc.nil 1 w1 _ _⟩
  obtain ⟨G, hG⟩ : ∃ G, G = sk p f := ⟨_, rfl⟩
  obtain ⟨D, hD⟩ : ∃ D, D = dp p f := ⟨_, rfl⟩
  rw [← hG, ← hD] at he
  rw [← hD]
  have W1 := Lib.hid hw1; have B1 := Lib.hid b1; have He := Lib.hid he
  clear hw1 b1 k1 he hp hn hI hr hm hG hD
  go_enter Tryd.func11, Tryd.ntmps11
  go_wp2_with (rw [← W1.out])
  refine He.out.mono ?_
  rintro e w2 ⟨rfl, hs, b2⟩
  obtain ⟨A2, c2, hb, ho⟩ := hs
  have HF := Lib.hid (show RetV w (.int .i64 (D : Int)) (.returned (.int .i64 (D : Int))) w2 from ⟨rfl, B1.out.trans b2⟩)
  obtain ⟨c0, c1, f0, f1, hlt⟩ := hb
  clear ho b2
  go_wp2
  go_ret
  exact HF.out
end

def EqRel (w : World) (n : Nat) (p q : List Bool) (t : Value) (wr : World) : Prop := ∃ k j : Nat, k ≤ n ∧ t = .int .i64 (k : Int) ∧ (∀ j, j < k → p[j]? = q[j]?) ∧ wr = w.drewN j
set_option maxRecDepth 100000 in
set_option maxHeartbeats 1000000 in
theorem equal_c (A D : Option Addr) (n c m d B : Nat) (p q : List Bool) (w : World) (hp : Rc 1 w B A n c (lvb p)) (hq : Rc 1 w B D m d (lvb q)) (hn : n ≤ 1000000) :
    Calls Tryd.prog 22 #[.slice A n c, .slice D m d] w fun e w' => e = .returned (.bool (decide (p = q))) ∧ ∃ k, w' = w.drewN k := by
  have Hl := Lib.hid (And.intro (lvb_len1 hp) (lvb_len1 hq))
  have Hp := Lib.hid hp; have Hq := Lib.hid hq
  clear hp hq
  by_cases hnm : n = m
  · subst hnm
    go_enter Tryd.func22, Tryd.ntmps22
    go_wp2
    go_loopw [13] (fun t wr => EqRel w n p q t wr) (fun t _ => n - (intOf t).toNat)
    case atStart => exact ⟨0, 0, by omega, rfl, fun j h => by omega, rfl⟩
    case round =>
      obtain ⟨k, qq, hk, rfl, hno, rfl⟩ := hrel
      by_cases hlt : k < n
      · obtain ⟨b, o, x, rfl, hb, a0, hx⟩ := lvb_at Hp.out hlt
        obtain ⟨b', o', y, rfl, hb', e0, hy⟩ := lvb_at Hq.out hlt
        have HNo := Lib.hid hno; have Hx := Lib.hid hx; have Hy := Lib.hid hy
        clear hno hx hy
        by_cases he : x = y
        · subst he
          cases x
          all_goals
            go_wp2
            go_quiet (fail)
            go_wp2
            go_roundw
            case rel => exact ⟨k + 1, qq + nq, hlt, by go_num, fun j hj => by
              by_cases hjk : j = k
              · rw [hjk]; exact Hx.out.trans Hy.out.symm
              · exact HNo.out j (by omega), rfl⟩
            case measure => simp [intOf]; omega
        · have hne : p ≠ q := fun e => he (by have h1 := Hx.out; rw [e, Hy.out] at h1; exact (Option.some.inj h1).symm)
          have HE := Lib.hid hne
          clear hne
          cases x <;> cases y <;> first | (exact absurd rfl he) | skip
          all_goals
            clear he
            go_wp2
            go_quiet (fail)
            go_wp2
            go_ret
            refine ⟨?_, qq + nq, by first | rfl | simp | exact World.drewN_drewN _ _ _⟩
            show Ending.returned (.bool false) = Ending.returned (.bool (decide (p = q)))
            rw [decide_eq_false HE.out]
      · obtain rfl : k = n := by omega
        have HNo := Lib.hid hno
        clear hno
        go_wp2
        go_ret
        refine ⟨?_, qq, rfl⟩
        have : p = q := List.ext_getElem? fun j => by
          by_cases hj : j < k
          · exact HNo.out j hj
          · rw [List.getElem?_eq_none (by have := Hl.out; omega), List.getElem?_eq_none (by have := Hl.out; omega)]
        show Ending.returned (.bool true) = Ending.returned (.bool (decide (p = q)))
        rw [decide_eq_true this]
  · have d1 : decide ((n : Int) = (m : Int)) = false := decide_eq_false (by omega)
    have d2 : ((n : Int) == (m : Int)) = false := beq_eq_false_iff_ne.2 (by omega)
    have d3 : ((n : Int) != (m : Int)) = true := by rw [bne, d2]; rfl
    go_enter Tryd.func22, Tryd.ntmps22
    go_wp2
    go_ret
    refine ⟨?_, 0, rfl⟩
    show Ending.returned (.bool false) = Ending.returned (.bool (decide (p = q)))
    rw [decide_eq_false]
    rintro rfl
    have := Hl.out
    omega

/-- What Check says. -/
def ckd (p : List Ins) (f want : List Bool) : Nat := if (sk p f).2.2 ≠ 0 then (sk p f).2.2 else if (sk p f).1 = want then 0 else 11
section
variable (A : Option Addr) (n c : Nat) (p : List Ins) (F : Option Addr) (m c' : Nat) (f : List Bool) (E : Option Addr) (l c'' : Nat) (want : List Bool) (w : World)
set_option maxRecDepth 100000 in
set_option maxHeartbeats 1000000 in
theorem check_c (hp : Rc 3 w w.heap.size A n c (ics p)) (hn : n ≤ 1000000) (hI : ∀ x ∈ p, I x.op) (hr : Rc 1 w w.heap.size F m c' (lvb f)) (hm : m ≤ 1000000) (hw : Rc 1 w w.heap.size E l c'' (lvb want)) :
    Calls Tryd.prog 16 #[.slice A n c, .slice F m c', .slice E l c''] w (RetV w (.int .i64 (ckd p f want : Int))) := by
  have hs := stack_c A n c p F m c' f w hp hn hI hr hm
  have hs30 := (sk_len p f).1
  obtain ⟨K, hK⟩ : ∃ K, K = ckd p f want := ⟨_, rfl⟩
  rw [← hK]
  unfold ckd at hK
  obtain ⟨G, hG⟩ : ∃ G, G = sk p f := ⟨_, rfl⟩
  rw [← hG] at hs hK hs30
  obtain ⟨s, i, er⟩ := G
  dsimp only at hK hs30
  have Hs := Lib.hid hs; have HW := Lib.hid hw; have HK := Lib.hid hK; have H30 := Lib.hid hs30
  clear hs hw hK hG hp hn hI hr hm hs30
  go_enter Tryd.func16, Tryd.ntmps16
  go_wp2_with fail
  refine Hs.out.mono ?_
  rintro e w1 ⟨A1, c1, rfl, ho, b1⟩
  have heq := fun W (hb : Below w1.heap.size w1 W) => equal_c A1 E s.length c1 l c'' W.heap.size s want W ((ho.rc.below hb).more hb.size) (((HW.out.below b1).more b1.size).below hb |>.more hb.size) (by have := H30.out; omega)
  have B1 := Lib.hid b1; have Heq := Lib.hid (heq w1 (Below.refl _ _))
  clear ho b1 heq
  by_cases h0 : er = 0
  · subst h0
    by_cases h1 : s = want
    · obtain rfl : K = 0 := HK.out.trans ((if_neg (by simp)).trans (if_pos h1))
      have heq := Heq.out
      rw [decide_eq_true h1] at heq
      have Heq2 := Lib.hid heq
      clear h1 heq Heq
      go_wp2_with fail
      refine Heq2.out.mono ?_
      rintro e w2 ⟨rfl, k, rfl⟩
      go_wp2
      go_ret
      exact ⟨rfl, below_drewN B1.out _⟩
    · obtain rfl : K = 11 := HK.out.trans ((if_neg (by simp)).trans (if_neg h1))
      have heq := Heq.out
      rw [decide_eq_false h1] at heq
      have Heq2 := Lib.hid heq
      clear h1 heq Heq
      go_wp2_with fail
      refine Heq2.out.mono ?_
      rintro e w2 ⟨rfl, k, rfl⟩
      go_wp2
      go_ret
      exact ⟨rfl, below_drewN B1.out _⟩
  · obtain rfl : K = er := HK.out.trans (if_pos h0)
    have e3 : ((K : Int) != 0) = true := by simp; omega
    have e4 : ((K : Int) == 0) = false := by simp; omega
    clear h0
    go_wp2
    go_ret
    exact ⟨rfl, B1.out⟩
end
set_option maxRecDepth 100000 in
theorem cost_c (A : Option Addr) (n c : Nat) (w : World) (hn : n ≤ 1000000) : Calls Tryd.prog 15 #[.slice A n c] w fun e w' => e = .returned (.int .i64 (65 * (n : Int))) ∧ w' = w := by
  have e1 : IntKind.i64.wrap (65 * (n : Int)) = 65 * (n : Int) := IntWalk.i64_in _ (by omega)
  go_enter Tryd.func15, Tryd.ntmps15
  go_wp2
  go_ret
  exact ⟨rfl, rfl⟩
end Go.Proofs.YthkjhenaicbepaaDoor
