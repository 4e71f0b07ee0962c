/-
  The walk of the law CodePieces.
-/
import Derived.Test.YtpdapgbamlcjjaaGreatDoorL3
namespace Go.Proofs.YtpdapgbamlcjjaaGreatDoor
open Go.RowKit Vl Cd

theorem Sl.sz {P : Program} {t e : TypeId} {zv : Value} {z y : Nat} (u : Sl P t e zv z y) (W : World) : (sizeOf (P.elem t)).run P W = .ok z W := by
  obtain ⟨i, hi, hz0, hz1, hz2⟩ := info_parts u.inf
  have he : P.elem t = e := by simp [Program.elem, u.sl]
  simp [sizeOf, typeInfo, he, hi, hz1]
theorem Sl.sl' {P : Program} {t e : TypeId} {zv : Value} {z y : Nat} (u : Sl P t e zv z y) : P.underlying t = some (.slice (P.elem t)) := by
  have he : P.elem t = e := by simp [Program.elem, u.sl]
  rw [he]; exact u.sl
/-- 's[k:]' -/
theorem Sl.from_ {P : Program} {t e : TypeId} {zv : Value} {z y : Nat} (u : Sl P t e zv z y) (A : Option Addr) (n c k : Nat) (hk : k ≤ n) (K : Int) (hK : K = (k : Int)) :
    ∀ W kd, (Instr.slice t (.slice A n c) (some (.int kd K)) none none).run P W = .ok (.slice (if c = k then A else A.map (·.add (k * z))) (n - k) (c - k)) W := fun W kd => by
  subst hK
  rw [run_slice_l W t _ _ _ u.sl' kd (k : Int) (by omega) (by omega), u.sz]
  simp [Result.andThen, sliced]
/-- 's[:k]' -/
theorem Sl.upto {P : Program} {t e : TypeId} {zv : Value} {z y : Nat} (u : Sl P t e zv z y) (A : Option Addr) (n c k : Nat) (hk : k ≤ n) (hn : n ≤ c) (K : Int) (hK : K = (k : Int)) :
    ∀ W kd, (Instr.slice t (.slice A n c) none (some (.int kd K)) none).run P W = .ok (.slice A k c) W := fun W kd => by
  subst hK
  rw [run_slice_h W t _ _ _ u.sl' kd (k : Int) (by omega) (by omega), u.sz]
  by_cases h0 : c = 0
  · subst h0
    obtain rfl : k = 0 := by omega
    simp [Result.andThen, sliced]
  · simp [Result.andThen, sliced, h0]
    cases A <;> simp [Addr.add]
theorem Rc.upto {z : Nat} {w : World} {B n c k : Nat} {A : Option Addr} {vs : List Value} (h : Rc z w B A n c vs) (hk : k ≤ n) : Rc z w B A k c (vs.take (k * z)) := by
  obtain ⟨h1, h2, h3, h4⟩ := h
  refine ⟨by rw [List.length_take, h1]; exact Nat.min_eq_left (Nat.mul_le_mul_right z hk), by omega, h3, fun hn => ?_⟩
  obtain ⟨b, off, rfl, hb, hc⟩ := h4 (by omega)
  refine ⟨b, off, rfl, hb, fun j x hx => ?_⟩
  rw [List.getElem?_take] at hx
  split at hx
  · exact hc _ x hx
  · cases hx
theorem Rc.from_ {z : Nat} {w : World} {B n c k : Nat} {A : Option Addr} {vs : List Value} (h : Rc z w B A n c vs) (hk : k ≤ n) : Rc z w B (if c = k then A else A.map (·.add (k * z))) (n - k) (c - k) (vs.drop (k * z)) := by
  obtain ⟨h1, h2, h3, h4⟩ := h
  refine ⟨by rw [List.length_drop, h1, Nat.sub_mul], by omega, by omega, fun hn => ?_⟩
  obtain ⟨b, off, rfl, hb, hc⟩ := h4 (by omega)
  rw [if_neg (by omega)]
  refine ⟨b, off + k * z, ?_, hb, fun j x hx => ?_⟩
  · by_cases h0 : k * z = 0
    · simp [Addr.add, h0]
    · simp [Addr.add, h0]
  · rw [List.getElem?_drop] at hx
    rw [Nat.add_assoc]
    exact hc _ x hx
theorem Sl.opAppAt {P : Program} {t e : TypeId} {zv : Value} {z y : Nat} (u : Sl P t e zv z y) {w : World} {o : Oper} {a : Act} {K : Act → World → Prop} {Q : Exit → Act → World → Prop} (p q : Operand)
    (ho : o.op = .call { callee := .builtin .append, args := #[p, q], argTypes := #[t, t] })
    {base n c B m d N : Nat} {A D : Option Addr} {vs us ws : List Value} (hx : a.eval p = .slice A n c) (hy : a.eval q = .slice D m d) (hown : Oc z w e base A n c vs) (hr : Rc z w B D m d us) (h1 : ∀ v ∈ us, v.oneCell' = true)
    (hN : n + m = N) (hvs : vs ++ us = ws) (hsm : N * y ≤ 140737488355328) (hnm : N ≤ 140737488355328) (hbase : base ≤ w.heap.size)
    (h : ∀ A' c' w', Oc z w' e base A' N c' ws → Grows w w' A A' → K (a.put o.dst (.slice A' N c')) w') : o.wp P a w K Q := by
  subst hN hvs
  obtain ⟨A', c', w', hrun, h2, h3⟩ := u.appendAt o.type hown hr h1 hsm hnm hbase
  unfold Oper.wp execOp
  simp only [ho, resolve, invoke, builtin, Sem.run_bind, Sem.run_pure, Result.andThen_ok, List.map_toArray, List.map_cons, List.map_nil, hx, hy, hrun]
  exact h A' c' w' h2 h3
theorem ics_take : ∀ (l : List Ins) (k : Nat), (ics l).take (k * 3) = ics (l.take k)
  | [], k => by simp [ics]
  | x :: l, 0 => by simp [ics]
  | x :: l, k + 1 => by
    have e : ics (x :: l) = .int .i64 x.op :: .int .i64 x.n :: st x.s :: ics l := rfl
    have e2 : ics ((x :: l).take (k + 1)) = .int .i64 x.op :: .int .i64 x.n :: st x.s :: ics (l.take k) := rfl
    rw [e, e2, show (k + 1) * 3 = k * 3 + 3 by omega, List.take_succ_cons, List.take_succ_cons, List.take_succ_cons, ics_take l k]
theorem ics_drop : ∀ (l : List Ins) (k : Nat), (ics l).drop (k * 3) = ics (l.drop k)
  | [], k => by simp [ics]
  | x :: l, 0 => by simp [ics]
  | x :: l, k + 1 => by
    have e : ics (x :: l) = .int .i64 x.op :: .int .i64 x.n :: st x.s :: ics l := rfl
    rw [e, show (k + 1) * 3 = k * 3 + 3 by omega, List.drop_succ_cons, List.drop_succ_cons, List.drop_succ_cons, ics_drop l k, List.drop_succ_cons]
theorem pP_ok {l : List Ins} (h : l.length ≤ 200) (hm : l.all may = true) : pP l = (pb l, 0) := by unfold pP; rw [if_neg (by omega), if_pos hm]
theorem pP_no {l : List Ins} (h : l.length ≤ 200) (hm : l.all may = false) : pP l = ([], 1) := by unfold pP; rw [if_neg (by omega), if_neg (by simp [hm])]
/-- What the three printings come to: all is well, or the third one and one of the others tell an error. -/
theorem pP_both {p q : List Ins} (hp : p.length ≤ 100) (hq : q.length ≤ 100) :
    ((p ++ q).all may = true ∧ pP p = (pb p, 0) ∧ pP q = (pb q, 0) ∧ pP (p ++ q) = (pb p ++ pb q, 0)) ∨
    ((pP (p ++ q)).2 = 1 ∧ ((pP p).2 = 0 ∧ (pP q).2 = 1 ∨ (pP p).2 = 1 ∧ (pP q).2 = 0 ∨ (pP p).2 = 1 ∧ (pP q).2 = 1)) := by
  have hl : (p ++ q).length ≤ 200 := by rw [List.length_append]; omega
  cases h1 : p.all may <;> cases h2 : q.all may
  · exact .inr ⟨by rw [pP_no hl (by rw [List.all_append, h1, h2]; rfl)], .inr (.inr ⟨by rw [pP_no (by omega) h1], by rw [pP_no (by omega) h2]⟩)⟩
  · exact .inr ⟨by rw [pP_no hl (by rw [List.all_append, h1, h2]; rfl)], .inr (.inl ⟨by rw [pP_no (by omega) h1], by rw [pP_ok (by omega) h2]⟩)⟩
  · exact .inr ⟨by rw [pP_no hl (by rw [List.all_append, h1, h2]; rfl)], .inl ⟨by rw [pP_ok (by omega) h1], by rw [pP_no (by omega) h2]⟩⟩
  · exact .inl ⟨by rw [List.all_append, h1, h2]; rfl, pP_ok (by omega) h1, pP_ok (by omega) h2, by rw [pP_ok hl (by rw [List.all_append, h1, h2]; rfl), pb_app]⟩

set_option maxRecDepth 100000 in
set_option maxHeartbeats 8000000 in
theorem codePieces_walk (A : Option Addr) (n c : Nat) (p : List Ins) (D : Option Addr) (m d : Nat) (q : List Ins) (at_ : Int) (w : World) (hp : Rc 3 w w.heap.size A n c (ics p)) (hn : n ≤ maxLen) (hIp : ∀ x ∈ p, I x.op ∧ I x.n) (hq : Rc 3 w w.heap.size D m d (ics q)) (hm : m ≤ maxLen) (hIq : ∀ x ∈ q, I x.op ∧ I x.n) (hat : I at_) (hG : Gl w) :
    Calls Tryz.prog 7 #[.slice A n c, .slice D m d, .int .i64 at_] w (RetV w (.bool true)) := by
  have B0 := Lib.hid (Below.refl w.heap.size w)
  have Hs1 := Lib.hid (small_c A n c p w hp hn); have Hs2 := Lib.hid (small_c D m d q w hq hm)
  have Hpl := Lib.hid (ics_num hp); have Hql := Lib.hid (ics_num hq)
  have Hp := Lib.hid hp; have Hq := Lib.hid hq; have HI := Lib.hid hIp; have HJ := Lib.hid hIq; have HG := Lib.hid hG; have Hat := Lib.hid hat
  clear hp hq hIp hIq hG hn hm hat
  go_enter Tryz.func7, Tryz.ntmps7
  go_wp2_with fail
  refine Hs1.out.mono ?_
  rintro e w1 ⟨b1, rfl, -, rfl⟩
  cases b1
  · go_wp2_with fail
    refine (alive_c w1 (HG.out.below' B0.out)).mono ?_
    rintro e wf ⟨rfl, bf⟩
    have BF := Lib.hid (B0.out.trans (bf.mono B0.out.size))
    clear bf
    go_wp2
    go_ret
    exact ⟨by first | rfl | simp, BF.out⟩
  go_wp2_with fail
  refine Hs2.out.mono ?_
  rintro e w2 ⟨b2, rfl, -, rfl⟩
  cases b2
  · go_wp2_with fail
    refine (alive_c w2 (HG.out.below' B0.out)).mono ?_
    rintro e wf ⟨rfl, bf⟩
    have BF := Lib.hid (B0.out.trans (bf.mono B0.out.size))
    clear bf
    go_wp2
    go_ret
    exact ⟨by first | rfl | simp, BF.out⟩
  by_cases h3 : (100 : Int) < (n : Int)
  · have d1 : decide ((100 : Int) < (n : Int)) = true := decide_eq_true h3
    clear h3
    go_wp2_with fail
    refine (alive_c w2 (HG.out.below' B0.out)).mono ?_
    rintro e wf ⟨rfl, bf⟩
    have BF := Lib.hid (B0.out.trans (bf.mono B0.out.size))
    clear bf
    go_wp2
    go_ret
    exact ⟨by first | rfl | simp, BF.out⟩
  have d1 : decide ((100 : Int) < (n : Int)) = false := decide_eq_false h3
  by_cases h4 : (100 : Int) < (m : Int)
  · have d2 : decide ((100 : Int) < (m : Int)) = true := decide_eq_true h4
    clear h3 h4
    go_wp2_with fail
    refine (alive_c w2 (HG.out.below' B0.out)).mono ?_
    rintro e wf ⟨rfl, bf⟩
    have BF := Lib.hid (B0.out.trans (bf.mono B0.out.size))
    clear bf
    go_wp2
    go_ret
    exact ⟨by first | rfl | simp, BF.out⟩
  have d2 : decide ((100 : Int) < (m : Int)) = false := decide_eq_false h4
  have hn1 : n ≤ 100 := by omega
  have hm1 : m ≤ 100 := by omega
  clear h3 h4
  have hcase := pP_both (p := p) (q := q) (by rw [Hpl.out]; exact hn1) (by rw [Hql.out]; exact hm1)
  have Hpr := fun W (b : Below w2.heap.size w2 W) => print_c A n c p W (Hp.out.up b) (by omega) HI.out (HG.out.below' b)
  have Hqr := fun W (b : Below w2.heap.size w2 W) => print_c D m d q W (Hq.out.up b) (by omega) HJ.out (HG.out.below' b)
  have Hbr := fun W (b : Below w2.heap.size w2 W) E f (h : Rc 3 W W.heap.size E (n + m) f (ics (p ++ q))) => print_c E (n + m) f (p ++ q) W h (by omega) (fun x hx => (List.mem_append.1 hx).elim (HI.out x) (HJ.out x)) (HG.out.below' b)
  obtain ⟨X1, hX1, hX1s, -, -⟩ := hide_st (pP p).1
  obtain ⟨X2, hX2, hX2s, -, -⟩ := hide_st (pP q).1
  obtain ⟨X3, hX3, -, -, -⟩ := hide_st (pP (p ++ q)).1
  unfold st at Hpr Hqr Hbr
  simp only [← hX1] at Hpr
  simp only [← hX2] at Hqr
  simp only [← hX3] at Hbr
  obtain ⟨E1, hE1⟩ : ∃ E1, E1 = (pP p).2 := ⟨_, rfl⟩
  obtain ⟨E2, hE2⟩ : ∃ E2, E2 = (pP q).2 := ⟨_, rfl⟩
  obtain ⟨E3, hE3⟩ : ∃ E3, E3 = (pP (p ++ q)).2 := ⟨_, rfl⟩
  rw [← hE1, ← hE2, ← hE3] at hcase
  simp only [← hE1] at Hpr
  simp only [← hE2] at Hqr
  simp only [← hE3] at Hbr
  have hcase : ((p ++ q).all may = true ∧ X1 = ⟨(pb p).toArray⟩ ∧ X2 = ⟨(pb q).toArray⟩ ∧ X3 = X1 ++ X2 ∧ X1.size ≤ 500000 ∧ X2.size ≤ 500000 ∧ E1 = 0 ∧ E2 = 0 ∧ E3 = 0) ∨ (E3 = 1 ∧ (E1 = 0 ∧ E2 = 1 ∨ E1 = 1 ∧ E2 = 0 ∨ E1 = 1 ∧ E2 = 1)) := by
    rcases hcase with ⟨ha, e1, e2, e3⟩ | h
    · refine .inl ⟨ha, ?_, ?_, ?_, ?_, ?_, ?_, ?_, ?_⟩
      · rw [hX1, e1]
      · rw [hX2, e2]
      · rw [hX3, hX1, hX2, e1, e2, e3, ba_app]
      · have hb := pb_len p (fun x hx => (HI.out x hx).2) (by rw [List.all_append, Bool.and_eq_true] at ha; exact ha.1)
        rw [Hpl.out] at hb
        rw [hX1s, e1]; show (pb p).length ≤ _; omega
      · have hb := pb_len q (fun x hx => (HJ.out x hx).2) (by rw [List.all_append, Bool.and_eq_true] at ha; exact ha.2)
        rw [Hql.out] at hb
        rw [hX2s, e2]; show (pb q).length ≤ _; omega
      · rw [hE1, e1]
      · rw [hE2, e2]
      · rw [hE3, e3]
    · exact .inr h
  have HC := Lib.hid hcase; have HPR := Lib.hid Hpr; have HQR := Lib.hid Hqr; have HBR := Lib.hid Hbr
  clear hcase Hpr Hqr Hbr hX1 hX1s hX2 hX2s hX3 hE1 hE2 hE3
  go_wp2_with fail
  refine (HPR.out w2 B0.out).mono ?_
  rintro e w3 ⟨rfl, b3⟩
  have B3 := Lib.hid b3
  clear b3
  go_wp2_with fail
  refine (HQR.out w3 B3.out).mono ?_
  rintro e w4 ⟨rfl, b4⟩
  have B4 := Lib.hid (B3.out.trans (b4.mono B3.out.size))
  clear b4
  obtain ⟨w5, h5⟩ : ∃ w5, w5 = w4.alloc (.cells #[] 23) := ⟨_, rfl⟩
  have b5 : Below w4.heap.size w4 w5 := by rw [h5]; exact (Below.refl _ _).alloc (Nat.le_refl _) _
  have ow5 : Oc 3 w5 23 w4.heap.size (some ⟨w4.heap.size, 0, none⟩) 0 0 [] := by rw [h5]; exact Oc.made0 3 _ _
  have B5 := Lib.hid (B4.out.trans (b5.mono B4.out.size)); have H5 := Lib.hid h5; have OW5 := Lib.hid ow5
  have z5 : w4.heap.size ≤ w5.heap.size := b5.size
  have Hp5 := Lib.hid (Hp.out.up B5.out)
  clear h5 ow5 b5
  go_wp2_with (at_builtin; rw [← H5.out]; go_must (refine Sl.wpAppAt ity rfl (.tmp 49) (.tmp 50) rfl (n := 0) (m := n) (N := n) (ws := ics p) rfl rfl OW5.out Hp5.out (ics_one _) ?hs2 rfl ?hs4 ?hs5 ?hs6 ?_))
  case hs2 => omega
  case hs4 => omega
  case hs5 => omega
  case hs6 => omega
  intro A6 c6 w6 ow6 hg6
  have k6 := hg6.belowC OW5.out z5
  have B6 := Lib.hid (B5.out.trans (k6.mono B4.out.size)); have OW6 := Lib.hid ow6
  have z6 : w4.heap.size ≤ w6.heap.size := Nat.le_trans z5 k6.size
  have Hq6 := Lib.hid (Hq.out.up B6.out); have HA := Lib.hid (ics_app p q)
  clear ow6 hg6 k6
  go_wp2_with (at_builtin; go_must (refine Sl.wpAppAt ity rfl (.tmp 51) (.tmp 52) rfl (n := n) (m := m) (N := n + m) (ws := ics (p ++ q)) rfl rfl OW6.out Hq6.out (ics_one _) rfl HA.out.symm ?hs4 ?hs5 ?hs6 ?_))
  case hs4 => omega
  case hs5 => omega
  case hs6 => omega
  intro A8 c8 w7 ow7 hg7
  have k7 := hg7.belowC OW6.out z6
  have B7 := Lib.hid (B6.out.trans (k7.mono B4.out.size)); have R7 := Lib.hid ow7.rc
  have Hbr := Lib.hid (HBR.out w7 B7.out A8 c8 R7.out)
  obtain ⟨N, hN⟩ : ∃ N, N = n + m := ⟨_, rfl⟩
  rw [← hN] at R7 Hbr ⊢
  have HN := Lib.hid hN
  have hN2 : N ≤ 200 := by omega
  clear ow7 hg7 k7 hN
  go_wp2_with fail
  refine Hbr.out.mono ?_
  rintro e w8 ⟨rfl, b8⟩
  have B8 := Lib.hid (B7.out.trans (b8.mono B7.out.size)); have R8 := Lib.hid (R7.out.up b8)
  clear b8
  rcases HC.out.symm with ⟨he3, hor⟩ | ⟨hall, hx1, hx2, hx3, hs1, hs2, he1, he2, he3⟩
  · subst he3
    rcases hor with ⟨he1, he2⟩ | ⟨he1, he2⟩ | ⟨he1, he2⟩
    all_goals
      subst he1 he2
      go_wp2_with fail
      refine (alive_c w8 (HG.out.below' B8.out)).mono ?_
      rintro e wf ⟨rfl, bf⟩
      have BF := Lib.hid (B8.out.trans (bf.mono B8.out.size))
      clear bf
      go_wp2
      go_ret
      exact ⟨by first | rfl | simp, BF.out⟩
  subst he1 he2 he3 hx3
  have HX1 := Lib.hid hx1; have HX2 := Lib.hid hx2; have HAL := Lib.hid hall
  have f1 : ((X1 ++ X2).toList == (X1 ++ X2).toList) = true := beq_iff_eq.2 rfl
  clear hx1 hx2 hall
  by_cases h0 : at_ < 0
  · have d3 : decide (at_ < 0) = true := decide_eq_true h0
    clear h0
    go_wp2_with fail
    refine (alive_c w8 (HG.out.below' B8.out)).mono ?_
    rintro e wf ⟨rfl, bf⟩
    have BF := Lib.hid (B8.out.trans (bf.mono B8.out.size))
    clear bf
    go_wp2
    go_ret
    exact ⟨by first | rfl | simp, BF.out⟩
  have d3 : decide (at_ < 0) = false := decide_eq_false h0
  by_cases h9 : (N : Int) ≤ at_
  · have d4 : decide ((N : Int) ≤ at_) = true := decide_eq_true h9
    clear h0 h9
    go_wp2_with fail
    refine (alive_c w8 (HG.out.below' B8.out)).mono ?_
    rintro e wf ⟨rfl, bf⟩
    have BF := Lib.hid (B8.out.trans (bf.mono B8.out.size))
    clear bf
    go_wp2
    go_ret
    exact ⟨by first | rfl | simp, BF.out⟩
  have d4 : decide ((N : Int) ≤ at_) = false := decide_eq_false h9
  obtain ⟨k, rfl⟩ : ∃ k : Nat, at_ = (k : Int) := ⟨at_.toNat, by omega⟩
  have hk : k < N := by omega
  obtain ⟨M, hM⟩ : ∃ M, M = N - (k + 1) := ⟨_, rfl⟩
  obtain ⟨d2', hd2'⟩ : ∃ d2, d2 = c8 - (k + 1) := ⟨_, rfl⟩
  obtain ⟨D2, hD2⟩ : ∃ D2, D2 = (if c8 = k + 1 then A8 else A8.map (·.add ((k + 1) * 3))) := ⟨_, rfl⟩
  have hcut := Sl.from_ ity A8 N c8 (k + 1) (by omega) ((k : Int) + 1) (by omega)
  have hcut2 := Sl.upto ity A8 N c8 k (by omega) R8.out.2.1 (k : Int) rfl
  rw [← hM, ← hd2', ← hD2] at hcut
  obtain ⟨Lt, hLt⟩ : ∃ L, L = (p ++ q).take k := ⟨_, rfl⟩
  obtain ⟨Ld, hLd⟩ : ∃ L, L = (p ++ q).drop (k + 1) := ⟨_, rfl⟩
  obtain ⟨Lb, hLb⟩ : ∃ L, L = Lt ++ Ld := ⟨_, rfl⟩
  have hlen : (p ++ q).length = N := by rw [List.length_append, Hpl.out, Hql.out, HN.out]
  have r8t := R8.out.upto (k := k) (by omega)
  have r8d := R8.out.from_ (k := k + 1) (by omega)
  rw [ics_take, ← hLt] at r8t
  rw [ics_drop, ← hLd, ← hM, ← hd2', ← hD2] at r8d
  have hat := HAL.out
  have hall : ∀ x ∈ p ++ q, may x = true := List.all_eq_true.1 hat
  have hIpq : ∀ x ∈ p ++ q, I x.op ∧ I x.n := fun x hx => (List.mem_append.1 hx).elim (HI.out x) (HJ.out x)
  have hLtm : ∀ x ∈ Lt, x ∈ p ++ q := fun x hx => by rw [hLt] at hx; exact List.mem_of_mem_take hx
  have hLdm : ∀ x ∈ Ld, x ∈ p ++ q := fun x hx => by rw [hLd] at hx; exact List.mem_of_mem_drop hx
  have hLbm : ∀ x ∈ Lb, x ∈ p ++ q := fun x hx => by rw [hLb] at hx; exact (List.mem_append.1 hx).elim (hLtm x) (hLdm x)
  have hLtl : Lt.length = k := by rw [hLt, List.length_take, hlen]; omega
  have hLdl : Ld.length = M := by rw [hLd, List.length_drop, hlen, hM]
  obtain ⟨K, hK⟩ : ∃ K, K = Lb.length := ⟨_, rfl⟩
  have hKM : k + M = K := by rw [hK, hLb, List.length_append, hLtl, hLdl]
  have hLta : Lt.all may = true := List.all_eq_true.2 fun x hx => hall x (hLtm x hx)
  have hLda : Ld.all may = true := List.all_eq_true.2 fun x hx => hall x (hLdm x hx)
  have hLba : Lb.all may = true := List.all_eq_true.2 fun x hx => hall x (hLbm x hx)
  obtain ⟨X4, hX4, hX4s, -, -⟩ := hide_st (pb Lt)
  obtain ⟨X5, hX5, hX5s, -, -⟩ := hide_st (pb Ld)
  have hb4 := pb_len Lt (fun x hx => (hIpq x (hLtm x hx)).2) hLta
  have hb5 := pb_len Ld (fun x hx => (hIpq x (hLdm x hx)).2) hLda
  have hbb := pb_len Lb (fun x hx => (hIpq x (hLbm x hx)).2) hLba
  have hx4 : X4.size ≤ 500000 := by omega
  have hx5 : X5.size ≤ 500000 := by omega
  have hKN : K ≤ 200 := by omega
  have Hpt := Lib.hid (fun W (b : Below w8.heap.size w8 W) => (show Calls Tryz.prog 18 #[.slice A8 k c8] W (RetV W (.tuple #[.string X4, .int .i64 0])) from by
    have h := print_c A8 k c8 Lt W (r8t.up b) (by omega) (fun x hx => hIpq x (hLtm x hx)) (HG.out.below' (B8.out.trans (b.mono B8.out.size)))
    rw [pP_ok (by omega) hLta] at h
    rw [hX4]; exact h))
  have Hpd := Lib.hid (fun W (b : Below w8.heap.size w8 W) => (show Calls Tryz.prog 18 #[.slice D2 M d2'] W (RetV W (.tuple #[.string X5, .int .i64 0])) from by
    have h := print_c D2 M d2' Ld W (r8d.up b) (by omega) (fun x hx => hIpq x (hLdm x hx)) (HG.out.below' (B8.out.trans (b.mono B8.out.size)))
    rw [pP_ok (by omega) hLda] at h
    rw [hX5]; exact h))
  have Hrd := Lib.hid (fun W (b : Below w8.heap.size w8 W) => (show Calls Tryz.prog 20 #[.string (X4 ++ X5)] W (fun e w' => ∃ A c, e = .returned (.tuple #[.slice A K c, .int .i64 0]) ∧ Rc 3 w' w'.heap.size A K c (ics Lb) ∧ Below W.heap.size W w') from by
    rw [hX4, hX5, ba_app, ← pb_app, ← hLb]
    refine (read_c (pb Lb) (Lb.map ln) [] (by omega) seg_pb W (HG.out.below' (B8.out.trans (b.mono B8.out.size)))).mono fun _ _ h => ?_
    have := h.parts
    rw [back_p (fun x hx => hIpq x (hLbm x hx)) (by omega) hLba] at this
    rw [hK]; exact this))
  have HKM := Lib.hid hKM; have HLb := Lib.hid (show ics Lt ++ ics Ld = ics Lb by rw [hLb, ics_app])
  have R8t := Lib.hid r8t; have R8d := Lib.hid r8d
  have Hcut := Lib.hid hcut
  have hkM : k + 1 ≤ 200 := by omega
  have hM2 : M ≤ 200 := by omega
  clear h0 h9 hM hd2' hD2 hcut hLt hLd hLb hlen r8t r8d hat hall hIpq hLtm hLdm hLbm hLtl hLdl hK hKM hLta hLda hLba hX4 hX4s hX5 hX5s hb4 hb5 hbb
  go_wp2_with fail
  refine (Hpt.out w8 (Below.refl _ _)).mono ?_
  rintro e w9 ⟨rfl, b9⟩
  have C9 := Lib.hid b9
  clear b9 hcut2
  have hcut := Hcut.out
  go_wp2_with fail
  refine (Hpd.out w9 C9.out).mono ?_
  rintro e w10 ⟨rfl, b10⟩
  have C10 := Lib.hid (C9.out.trans (b10.mono C9.out.size))
  clear b10 hcut
  go_wp2_with fail
  refine (Hrd.out w10 C10.out).mono ?_
  rintro e w12 ⟨R, rc, rfl, r12, b12⟩
  have C12 := Lib.hid (C10.out.trans (b12.mono C10.out.size))
  have B12 := Lib.hid (B8.out.trans (C12.out.mono B8.out.size))
  have R12r := Lib.hid r12; have R12t := Lib.hid (R8t.out.up C12.out); have R12d := Lib.hid (R8d.out.up C12.out)
  have hcut := Hcut.out
  have hcut2 := Sl.upto ity A8 N c8 k (by omega) R8.out.2.1 (k : Int) rfl
  clear r12 b12
  go_wp2_with fail
  refine wp_region_schedG (w12.heap.size) [(true, 0), (false, 1), (false, 2), (false, 3), (false, 4), (false, 5), (false, 6), (false, 7), (false, 8), (false, 9), (false, 10), (false, 11), (false, 12), (false, 13), (false, 15), (false, 16), (false, 17), (false, 19), (false, 20), (false, 21), (false, 22), (true, 14), (true, 18), (true, 23), (true, 24), (false, 25), (false, 26)] (by kernel_rfl) (by kernel_rfl) (by kernel_rfl) (by kernel_rfl) (fun _ _ d _ _ h => by cases d <;> exact h) ?_
  have cz0 : Below w12.heap.size w12 w12.drew := below_drewN (Below.refl _ _) 1
  refine wpG_call (o := { dst := some 114, op := Go.Op.call { callee := Go.Callee.value (Go.Operand.func 8), args := #[], argTypes := #[] }, type := 4, pos := "law.go:109", after := #[], guard := none }) rfl (by rfl) (fun KK hK => ?_)
  go_simp
  go_at_call 8
  with_reducible refine (alive_c _ (HG.out.below' (B12.out.trans (cz0.mono B12.out.size)))).mono ?_
  rintro e u1 ⟨rfl, bq⟩
  have cz1 : Below w12.heap.size w12 u1 := cz0.trans (bq.mono cz0.size)
  have k1 : Below w12.heap.size w12.drew u1 := bq.mono cz0.size
  refine hK.out _ _ k1 ?_
  clear hK KK bq
  try simp only [Act.put, List.setIfInBounds_toArray, List.set_cons_zero, List.set_cons_succ]
  refine wpG_read (o := { dst := some 115, op := Go.Op.move (Go.Operand.tmp 114), type := 4, pos := "law.go:109", after := #[{ on := 0, ground := Go.Ground.data }, { on := 0, ground := Go.Ground.chain }], guard := none }) (v := .bool true) rfl (by rfl) ?_ ?_
  · intro w' hg; go_simp; try first | rfl | omega | (rw [IntKind.wrap_i64]; omega)
  try simp only [Act.put, List.setIfInBounds_toArray, List.set_cons_zero, List.set_cons_succ]
  refine wpG_read (o := { dst := some 116, op := Go.Op.move (Go.Operand.tmp 12), type := 9, pos := "law.go:109", after := #[{ on := 1, ground := Go.Ground.guard }], guard := some (1, true) }) (v := .string (X1 ++ X2)) rfl (by rfl) ?_ ?_
  · intro w' hg; go_simp; try first | rfl | omega | (rw [IntKind.wrap_i64]; omega)
  try simp only [Act.put, List.setIfInBounds_toArray, List.set_cons_zero, List.set_cons_succ]
  refine wpG_read (o := { dst := some 117, op := Go.Op.move (Go.Operand.tmp 7), type := 9, pos := "law.go:109", after := #[{ on := 1, ground := Go.Ground.guard }], guard := some (1, true) }) (v := .string X1) rfl (by rfl) ?_ ?_
  · intro w' hg; go_simp; try first | rfl | omega | (rw [IntKind.wrap_i64]; omega)
  try simp only [Act.put, List.setIfInBounds_toArray, List.set_cons_zero, List.set_cons_succ]
  refine wpG_read (o := { dst := some 118, op := Go.Op.move (Go.Operand.tmp 9), type := 9, pos := "law.go:109", after := #[{ on := 1, ground := Go.Ground.guard }], guard := some (1, true) }) (v := .string X2) rfl (by rfl) ?_ ?_
  · intro w' hg; go_simp; try first | rfl | omega | (rw [IntKind.wrap_i64]; omega)
  try simp only [Act.put, List.setIfInBounds_toArray, List.set_cons_zero, List.set_cons_succ]
  refine wpG_read (o := { dst := some 119, op := Go.Op.binOp Go.BinOp.add 9 (Go.Operand.tmp 117) (Go.Operand.tmp 118) 9, type := 9, pos := "law.go:109", after := #[{ on := 3, ground := Go.Ground.data }, { on := 4, ground := Go.Ground.data }, { on := 1, ground := Go.Ground.guard }], guard := some (1, true) }) (v := .string (X1 ++ X2)) rfl (by rfl) ?_ ?_
  · intro w' hg; go_simp; try first | rfl | omega | (rw [IntKind.wrap_i64]; omega)
  try simp only [Act.put, List.setIfInBounds_toArray, List.set_cons_zero, List.set_cons_succ]
  refine wpG_read (o := { dst := some 120, op := Go.Op.binOp Go.BinOp.eql 9 (Go.Operand.tmp 116) (Go.Operand.tmp 119) 9, type := 4, pos := "law.go:109", after := #[{ on := 2, ground := Go.Ground.data }, { on := 5, ground := Go.Ground.data }, { on := 1, ground := Go.Ground.guard }], guard := some (1, true) }) (v := .bool true) rfl (by rfl) ?_ ?_
  · intro w' hg; go_simp; try first | rfl | omega | (rw [IntKind.wrap_i64]; omega)
  try simp only [Act.put, List.setIfInBounds_toArray, List.set_cons_zero, List.set_cons_succ]
  refine wpG_read (o := { dst := some 121, op := Go.Op.pick (Go.Operand.tmp 115) (Go.Operand.tmp 120) (Go.Operand.const (Go.Value.bool false)), type := 4, pos := "law.go:109", after := #[{ on := 1, ground := Go.Ground.data }, { on := 6, ground := Go.Ground.data }], guard := none }) (v := .bool true) rfl (by rfl) ?_ ?_
  · intro w' hg; go_simp; try first | rfl | omega | (rw [IntKind.wrap_i64]; omega)
  try simp only [Act.put, List.setIfInBounds_toArray, List.set_cons_zero, List.set_cons_succ]
  refine wpG_read (o := { dst := some 122, op := Go.Op.move (Go.Operand.tmp 121), type := 4, pos := "law.go:109", after := #[{ on := 7, ground := Go.Ground.data }, { on := 1, ground := Go.Ground.chain }], guard := none }) (v := .bool true) rfl (by rfl) ?_ ?_
  · intro w' hg; go_simp; try first | rfl | omega | (rw [IntKind.wrap_i64]; omega)
  try simp only [Act.put, List.setIfInBounds_toArray, List.set_cons_zero, List.set_cons_succ]
  refine wpG_read (o := { dst := some 123, op := Go.Op.move (Go.Operand.tmp 19), type := 25, pos := "law.go:109", after := #[{ on := 8, ground := Go.Ground.guard }], guard := some (8, true) }) (v := .int .i64 0) rfl (by rfl) ?_ ?_
  · intro w' hg; go_simp; try first | rfl | omega | (rw [IntKind.wrap_i64]; omega)
  try simp only [Act.put, List.setIfInBounds_toArray, List.set_cons_zero, List.set_cons_succ]
  refine wpG_read (o := { dst := some 124, op := Go.Op.binOp Go.BinOp.eql 25 (Go.Operand.tmp 123) (Go.Operand.const (Go.Value.int Go.IntKind.i64 0)) 25, type := 4, pos := "law.go:109", after := #[{ on := 9, ground := Go.Ground.data }, { on := 8, ground := Go.Ground.guard }], guard := some (8, true) }) (v := .bool true) rfl (by rfl) ?_ ?_
  · intro w' hg; go_simp; try first | rfl | omega | (rw [IntKind.wrap_i64]; omega)
  try simp only [Act.put, List.setIfInBounds_toArray, List.set_cons_zero, List.set_cons_succ]
  refine wpG_read (o := { dst := some 125, op := Go.Op.pick (Go.Operand.tmp 122) (Go.Operand.tmp 124) (Go.Operand.const (Go.Value.bool false)), type := 4, pos := "law.go:109", after := #[{ on := 8, ground := Go.Ground.data }, { on := 10, ground := Go.Ground.data }], guard := none }) (v := .bool true) rfl (by rfl) ?_ ?_
  · intro w' hg; go_simp; try first | rfl | omega | (rw [IntKind.wrap_i64]; omega)
  try simp only [Act.put, List.setIfInBounds_toArray, List.set_cons_zero, List.set_cons_succ]
  refine wpG_read (o := { dst := some 126, op := Go.Op.move (Go.Operand.tmp 125), type := 4, pos := "law.go:109", after := #[{ on := 11, ground := Go.Ground.data }, { on := 8, ground := Go.Ground.chain }], guard := none }) (v := .bool true) rfl (by rfl) ?_ ?_
  · intro w' hg; go_simp; try first | rfl | omega | (rw [IntKind.wrap_i64]; omega)
  try simp only [Act.put, List.setIfInBounds_toArray, List.set_cons_zero, List.set_cons_succ]
  refine wpG_read (o := { dst := some 127, op := Go.Op.move (Go.Operand.tmp 18), type := 33, pos := "law.go:109", after := #[{ on := 12, ground := Go.Ground.guard }], guard := some (12, true) }) (v := .slice R K rc) rfl (by rfl) ?_ ?_
  · intro w' hg; go_simp; try first | rfl | omega | (rw [IntKind.wrap_i64]; omega)
  try simp only [Act.put, List.setIfInBounds_toArray, List.set_cons_zero, List.set_cons_succ]
  refine wpG_read (o := { dst := some 129, op := Go.Op.move (Go.Operand.tmp 11), type := 33, pos := "law.go:109", after := #[{ on := 12, ground := Go.Ground.guard }], guard := some (12, true) }) (v := .slice A8 N c8) rfl (by rfl) ?_ ?_
  · intro w' hg; go_simp; try first | rfl | omega | (rw [IntKind.wrap_i64]; omega)
  try simp only [Act.put, List.setIfInBounds_toArray, List.set_cons_zero, List.set_cons_succ]
  refine wpG_read (o := { dst := some 130, op := Go.Op.move (Go.Operand.tmp 2), type := 3, pos := "law.go:109", after := #[{ on := 12, ground := Go.Ground.guard }], guard := some (12, true) }) (v := .int .i64 (k : Int)) rfl (by rfl) ?_ ?_
  · intro w' hg; go_simp; try first | rfl | omega | (rw [IntKind.wrap_i64]; omega)
  try simp only [Act.put, List.setIfInBounds_toArray, List.set_cons_zero, List.set_cons_succ]
  refine wpG_read (o := { dst := some 131, op := Go.Op.slice 33 (Go.Operand.tmp 129) none (some (Go.Operand.tmp 130)) none, type := 33, pos := "law.go:109", after := #[{ on := 15, ground := Go.Ground.data }, { on := 16, ground := Go.Ground.data }, { on := 12, ground := Go.Ground.guard }], guard := some (12, true) }) (v := .slice A8 k c8) rfl (by rfl) ?_ ?_
  · intro w' hg; go_simp; try first | rfl | omega | (rw [IntKind.wrap_i64]; omega)
  try simp only [Act.put, List.setIfInBounds_toArray, List.set_cons_zero, List.set_cons_succ]
  refine wpG_read (o := { dst := some 133, op := Go.Op.move (Go.Operand.tmp 11), type := 33, pos := "law.go:109", after := #[{ on := 12, ground := Go.Ground.guard }], guard := some (12, true) }) (v := .slice A8 N c8) rfl (by rfl) ?_ ?_
  · intro w' hg; go_simp; try first | rfl | omega | (rw [IntKind.wrap_i64]; omega)
  try simp only [Act.put, List.setIfInBounds_toArray, List.set_cons_zero, List.set_cons_succ]
  refine wpG_read (o := { dst := some 134, op := Go.Op.move (Go.Operand.tmp 2), type := 3, pos := "law.go:109", after := #[{ on := 12, ground := Go.Ground.guard }], guard := some (12, true) }) (v := .int .i64 (k : Int)) rfl (by rfl) ?_ ?_
  · intro w' hg; go_simp; try first | rfl | omega | (rw [IntKind.wrap_i64]; omega)
  try simp only [Act.put, List.setIfInBounds_toArray, List.set_cons_zero, List.set_cons_succ]
  refine wpG_read (o := { dst := some 135, op := Go.Op.binOp Go.BinOp.add 3 (Go.Operand.tmp 134) (Go.Operand.const (Go.Value.int Go.IntKind.i64 1)) 3, type := 3, pos := "law.go:109", after := #[{ on := 20, ground := Go.Ground.data }, { on := 12, ground := Go.Ground.guard }], guard := some (12, true) }) (v := .int .i64 ((k : Int) + 1)) rfl (by rfl) ?_ ?_
  · intro w' hg; go_simp; try first | rfl | omega | (rw [IntKind.wrap_i64]; omega)
  try simp only [Act.put, List.setIfInBounds_toArray, List.set_cons_zero, List.set_cons_succ]
  refine wpG_read (o := { dst := some 136, op := Go.Op.slice 33 (Go.Operand.tmp 133) (some (Go.Operand.tmp 135)) none none, type := 33, pos := "law.go:109", after := #[{ on := 19, ground := Go.Ground.data }, { on := 21, ground := Go.Ground.data }, { on := 12, ground := Go.Ground.guard }], guard := some (12, true) }) (v := .slice D2 M d2') rfl (by rfl) ?_ ?_
  · intro w' hg; go_simp; try first | rfl | omega | (rw [IntKind.wrap_i64]; omega)
  try simp only [Act.put, List.setIfInBounds_toArray, List.set_cons_zero, List.set_cons_succ]
  obtain ⟨u2, hu2⟩ : ∃ z, z = u1.alloc (.cells #[] 23) := ⟨_, rfl⟩
  have bq : Below u1.heap.size u1 u2 := by rw [hu2]; exact (Below.refl _ _).alloc (Nat.le_refl _) _
  have ow2 : Oc 3 u2 23 u1.heap.size (some ⟨u1.heap.size, 0, none⟩) 0 0 [] := by rw [hu2]; exact Oc.made0 3 _ _
  have cz2 : Below w12.heap.size w12 u2 := cz1.trans (bq.mono cz1.size)
  have k2 : Below w12.heap.size u1 u2 := bq.mono cz1.size
  have U2 := Lib.hid hu2; have OW2 := Lib.hid ow2; have CZ2 := Lib.hid cz2
  have z2 : u1.heap.size ≤ u2.heap.size := bq.size
  clear hu2 ow2 bq
  refine wpG_make (o := { dst := some 128, op := Go.Op.buildSlice 33 0 #[], type := 33, pos := "law.go:109", after := #[{ on := 12, ground := Go.Ground.guard }], guard := some (12, true) }) (v := .slice (some ⟨u1.heap.size, 0, none⟩) 0 0) (w1 := u2) rfl (by rfl) ?_ ?_ ?_
  · rw [U2.out]; go_simp; try rfl
  · exact k2
  try simp only [Act.put, List.setIfInBounds_toArray, List.set_cons_zero, List.set_cons_succ]
  refine wpG_call (o := { dst := some 132, op := Go.Op.call { callee := Go.Callee.builtin Go.Builtin.append, args := #[Go.Operand.tmp 128, Go.Operand.tmp 131], argTypes := #[33, 33] }, type := 33, pos := "law.go:109", after := #[{ on := 14, ground := Go.Ground.data }, { on := 17, ground := Go.Ground.data }, { on := 12, ground := Go.Ground.chain }, { on := 12, ground := Go.Ground.guard }], guard := some (12, true) }) rfl (by rfl) (fun KK hK => ?_)
  refine Sl.opAppAt ity (.tmp 128) (.tmp 131) rfl (n := 0) (m := k) (N := k) (ws := ics Lt) rfl rfl OW2.out (R12t.out.up CZ2.out) (ics_one _) (by omega) rfl (by omega) (by omega) z2 ?_
  intro A6 c6 u3 ow3 hg3
  have k3 := hg3.belowC OW2.out z2
  have cz3 : Below w12.heap.size w12 u3 := CZ2.out.trans (k3.mono cz1.size)
  have OW3 := Lib.hid ow3; have CZ3 := Lib.hid cz3
  have z3 : u1.heap.size ≤ u3.heap.size := Nat.le_trans z2 k3.size
  refine hK.out _ _ (k3.mono cz1.size) ?_
  clear hK KK ow3 hg3
  try simp only [Act.put, List.setIfInBounds_toArray, List.set_cons_zero, List.set_cons_succ]
  refine wpG_call (o := { dst := some 137, op := Go.Op.call { callee := Go.Callee.builtin Go.Builtin.append, args := #[Go.Operand.tmp 132, Go.Operand.tmp 136], argTypes := #[33, 33] }, type := 33, pos := "law.go:109", after := #[{ on := 18, ground := Go.Ground.data }, { on := 22, ground := Go.Ground.data }, { on := 18, ground := Go.Ground.chain }, { on := 12, ground := Go.Ground.guard }], guard := some (12, true) }) rfl (by rfl) (fun KK hK => ?_)
  refine Sl.opAppAt ity (.tmp 132) (.tmp 136) rfl (n := k) (m := M) (N := K) (ws := ics Lb) rfl rfl OW3.out (R12d.out.up CZ3.out) (ics_one _) HKM.out HLb.out (by omega) (by omega) z3 ?_
  intro A7 c7 u4 ow4 hg4
  have k4 := hg4.belowC OW3.out z3
  have cz4 : Below w12.heap.size w12 u4 := CZ3.out.trans (k4.mono cz1.size)
  have OW4 := Lib.hid ow4; have CZ4 := Lib.hid cz4
  refine hK.out _ _ (k4.mono cz1.size) ?_
  clear hK KK ow4 hg4
  try simp only [Act.put, List.setIfInBounds_toArray, List.set_cons_zero, List.set_cons_succ]
  refine wpG_call (o := { dst := some 138, op := Go.Op.call { callee := Go.Callee.value (Go.Operand.func 23), args := #[Go.Operand.tmp 127, Go.Operand.tmp 137], argTypes := #[33, 33] }, type := 4, pos := "law.go:109", after := #[{ on := 13, ground := Go.Ground.data }, { on := 23, ground := Go.Ground.data }, { on := 23, ground := Go.Ground.chain }, { on := 12, ground := Go.Ground.guard }], guard := some (12, true) }) rfl (by rfl) (fun KK hK => ?_)
  go_simp
  go_at_call 23
  have hsm := same_c R A7 _ rc _ c7 _ Lb Lb u4 (R12r.out.up CZ4.out) OW4.out.rc (by omega)
  rw [decide_eq_true (rfl : Lb = Lb)] at hsm
  with_reducible refine hsm.mono ?_
  rintro e u5 ⟨rfl, j5, rfl⟩
  have cz5 := below_drewN CZ4.out j5
  refine hK.out _ _ (below_drewN (Below.refl _ _) j5) ?_
  clear hK KK hsm
  try simp only [Act.put, List.setIfInBounds_toArray, List.set_cons_zero, List.set_cons_succ]
  refine wpG_read (o := { dst := some 139, op := Go.Op.pick (Go.Operand.tmp 126) (Go.Operand.tmp 138) (Go.Operand.const (Go.Value.bool false)), type := 4, pos := "law.go:109", after := #[{ on := 12, ground := Go.Ground.data }, { on := 24, ground := Go.Ground.data }], guard := none }) (v := .bool true) rfl (by rfl) ?_ ?_
  · intro w' hg; go_simp; try first | rfl | omega | (rw [IntKind.wrap_i64]; omega)
  try simp only [Act.put, List.setIfInBounds_toArray, List.set_cons_zero, List.set_cons_succ]
  refine wpG_read (o := { dst := some 6, op := Go.Op.assign (Go.Operand.tmp 139), type := 4, pos := "law.go:109", after := #[{ on := 25, ground := Go.Ground.data }, { on := 24, ground := Go.Ground.chain }, { on := 0, ground := Go.Ground.phase }, { on := 1, ground := Go.Ground.phase }, { on := 2, ground := Go.Ground.phase }, { on := 3, ground := Go.Ground.phase }, { on := 4, ground := Go.Ground.phase }, { on := 5, ground := Go.Ground.phase }, { on := 6, ground := Go.Ground.phase }, { on := 7, ground := Go.Ground.phase }, { on := 8, ground := Go.Ground.phase }, { on := 9, ground := Go.Ground.phase }, { on := 10, ground := Go.Ground.phase }, { on := 11, ground := Go.Ground.phase }, { on := 12, ground := Go.Ground.phase }, { on := 13, ground := Go.Ground.phase }, { on := 14, ground := Go.Ground.phase }, { on := 15, ground := Go.Ground.phase }, { on := 16, ground := Go.Ground.phase }, { on := 17, ground := Go.Ground.phase }, { on := 18, ground := Go.Ground.phase }, { on := 19, ground := Go.Ground.phase }, { on := 20, ground := Go.Ground.phase }, { on := 21, ground := Go.Ground.phase }, { on := 22, ground := Go.Ground.phase }, { on := 23, ground := Go.Ground.phase }, { on := 24, ground := Go.Ground.phase }, { on := 25, ground := Go.Ground.phase }], guard := none }) (v := .bool true) rfl (by rfl) ?_ ?_
  · intro w' hg; go_simp; try first | rfl | omega | (rw [IntKind.wrap_i64]; omega)
  try simp only [Act.put, List.setIfInBounds_toArray, List.set_cons_zero, List.set_cons_succ]
  refine wpG_done ?_
  have BZ := Lib.hid (B12.out.trans (cz5.mono B12.out.size))
  go_wp2
  go_ret
  exact ⟨by first | rfl | simp, BZ.out⟩
end Go.Proofs.YtpdapgbamlcjjaaGreatDoor
