/-
  Joined: U9 D8 UA D9.
-/
import Derived.Test.YtpdapgbamlcjjaaGreatDoorJ18
import Derived.Test.YtpdapgbamlcjjaaGreatDoorJ16
import Derived.Test.YtpdapgbamlcjjaaGreatDoorJ2
/-
  code.Print.
-/
namespace Go.Proofs.YtpdapgbamlcjjaaGreatDoor
open Go.RowKit Vl Cd

theorem pb_len (p : List Ins) (hI : ∀ x ∈ p, I x.n) (h : p.all may = true) : (pb p).length ≤ 2011 * p.length := by
  induction p with
  | nil => exact Nat.le_refl _
  | cons x p ih =>
    simp only [List.all_cons, Bool.and_eq_true] at h
    have h1 := ln_len (hI x (by simp)) h.1
    have h2 := ih (fun y hy => hI y (List.mem_cons_of_mem _ hy)) h.2
    have e : pb (x :: p) = (ln x ++ [10]) ++ pb p := by simp [pb]
    rw [e]; simp only [List.length_append, List.length_cons, List.length_nil]
    omega
theorem pb_take {p : List Ins} {k : Nat} {x : Ins} (h : p[k]? = some x) : pb (p.take (k + 1)) = (pb (p.take k) ++ ln x) ++ [10] := by
  rw [List.take_add_one, h, pb_app]
  simp [pb]
theorem all_take {p : List Ins} {k : Nat} {x : Ins} (h : p[k]? = some x) (ha : (p.take k).all may = true) (hx : may x = true) : (p.take (k + 1)).all may = true := by
  rw [List.take_add_one, h, List.all_append, ha]; simp [hx]
def PrRel (w : World) (n : Nat) (p : List Ins) (t : Value) (wr : World) : Prop :=
  ∃ (k : Nat) (pv : Value), k ≤ n ∧ t = .int .i64 (k : Int) ∧ (p.take k).all may = true ∧ (pv = .pointer none ∨ pv = pt w.heap.size) ∧ Bd wr w.heap.size w.heap.size pv (pb (p.take k)) ∧ Below w.heap.size w wr

set_option maxRecDepth 100000 in
set_option maxHeartbeats 4000000 in
theorem print_c (A : Option Addr) (n c : Nat) (p : List Ins) (w : World) (hr : Rc 3 w w.heap.size A n c (ics p)) (hn : n ≤ 1000000) (hI : ∀ x ∈ p, I x.op ∧ I x.n) (hg : Gl w) :
    Calls Tryz.prog 18 #[.slice A n c] w (RetV w (.tuple #[st (pP p).1, .int .i64 (pP p).2])) := by
  have hl := ics_num hr
  by_cases h200 : 200 < n
  · have e : pP p = ([], 5) := by unfold pP; rw [if_pos (by omega)]
    have d1 : decide ((200 : Int) < (n : Int)) = true := decide_eq_true (by omega)
    rw [e]
    go_enter Tryz.func18, Tryz.ntmps18
    go_wp2
    go_ret2
    exact ⟨rfl, Below.refl _ _⟩
  · have d1 : decide ((200 : Int) < (n : Int)) = false := decide_eq_false (by omega)
    obtain ⟨R, hR⟩ : ∃ R, R = Ending.returned (.tuple #[st (pP p).1, .int .i64 (pP p).2]) := ⟨_, rfl⟩
    have hbad : ∀ x ∈ p, may x = false → Ending.returned (.tuple #[st [], .int .i64 1]) = R := fun x hx hm => by
      have : pP p = ([], 1) := by
        unfold pP
        rw [if_neg (by omega), if_neg]
        intro q
        rw [List.all_eq_true] at q
        rw [q x hx] at hm; cases hm
      rw [hR, this]
    have hgood : p.all may = true → Ending.returned (.tuple #[st (pb p), .int .i64 0]) = R := fun hm => by
      have : pP p = (pb p, 0) := by unfold pP; rw [if_neg (by omega), if_pos hm]
      rw [hR, this]
    show Calls Tryz.prog 18 #[.slice A n c] w (fun e w' => e = Ending.returned (.tuple #[st (pP p).1, .int .i64 (pP p).2]) ∧ Below w.heap.size w w')
    rw [← hR]
    obtain ⟨w1, hw1⟩ : ∃ w1, w1 = w.alloc (.cells #[.pointer none, .slice none 0 0] 56) := ⟨_, rfl⟩
    have b1 : Below w.heap.size w w1 := by rw [hw1]; exact (Below.refl _ _).alloc (Nat.le_refl _) _
    have bd1 : Bd w1 w.heap.size w.heap.size (.pointer none) [] := by
      rw [hw1]; exact ⟨⟨none, 0, by exact heap_alloc_last _ _, Oc.nil 1 _ _ _⟩, Nat.le_refl _⟩
    have W1 := Lib.hid hw1; have Hr := Lib.hid hr; have HI := Lib.hid hI; have Hl := Lib.hid hl; have HG := Lib.hid hg; have Hbad := Lib.hid hbad; have Hgood := Lib.hid hgood; have B1 := Lib.hid b1; have BD1 := Lib.hid bd1; have H200 := Lib.hid h200
    clear hw1 hr hI hl hg hbad hgood hR b1 bd1 h200
    go_enter Tryz.func18, Tryz.ntmps18
    go_wp2_with (rw [← W1.out])
    go_loopw [14] (fun t wr => PrRel w n p t wr) (fun t _ => n - (intOf t).toNat)
    case atStart => exact ⟨0, _, Nat.zero_le _, rfl, rfl, .inl rfl, BD1.out, B1.out⟩
    case round =>
      obtain ⟨k, pv, hk, rfl, hall, hpv, hbd, bel⟩ := hrel
      have HAll := Lib.hid hall; have HPv := Lib.hid hpv; have HBd := Lib.hid hbd; have HBel := Lib.hid bel
      clear hall hpv hbd bel
      by_cases hlt : k < n
      · obtain ⟨b, o, x, rfl, hb, a0, a1, a2, hx⟩ := ics_at (Hr.out.below HBel.out) hlt
        have hmem : x ∈ p := List.mem_of_getElem? hx
        have hIx := HI.out x hmem
        obtain ⟨w2, hw2⟩ : ∃ w2, w2 = wr.alloc (.cells #[.int .i64 x.op, .int .i64 x.n, .string ⟨x.s.toArray⟩] 23) := ⟨_, rfl⟩
        have b2 : Below wr.heap.size wr w2 := by rw [hw2]; exact (Below.refl _ _).alloc (Nat.le_refl _) _
        have x2 : Bx w2 wr.heap.size (.int .i64 x.op) (.int .i64 x.n) (.string ⟨x.s.toArray⟩) := by rw [hw2]; exact Bx.made _ _ _ _ _
        have B2 := Lib.hid (HBel.out.trans (b2.mono HBel.out.size))
        have BD2 := Lib.hid (HBd.out.keep b2)
        have Hli := Lib.hid (line_c x hIx.1 hIx.2 w2 (HG.out.below' B2.out))
        have W2 := Lib.hid hw2
        obtain ⟨c0, c1, c2, -, -, -, -⟩ := x2
        clear hw2 b2
        cases hm : may x
        · have hli := Hli.out
          unfold lnV at hli
          rw [hm, if_neg (by simp)] at hli
          have HL := Lib.hid hli
          have HB := Lib.hid (Hbad.out x hmem hm)
          clear hli hm hIx hmem hx
          go_wp2_with (rw [← W2.out])
          refine HL.out.mono ?_
          rintro e w3 ⟨rfl, b3⟩
          have B3 := Lib.hid (B2.out.trans (b3.mono B2.out.size))
          clear b3
          go_wp2
          go_ret2
          exact ⟨HB.out, B3.out⟩
        · have hli := Hli.out
          unfold lnV at hli
          rw [hm, if_pos rfl] at hli
          have hlen := ln_len hIx.2 hm
          have hpl := pb_len (p.take k) (fun y hy => (HI.out y (List.mem_of_mem_take hy)).2) HAll.out
          have hkl : (p.take k).length ≤ 200 := by rw [List.length_take]; have := H200.out; omega
          have hM1 := pb_take hx
          have hA1 := all_take hx HAll.out hm
          obtain ⟨Q, hQ⟩ : ∃ Q, Q = ln x := ⟨_, rfl⟩
          obtain ⟨M0, hM0⟩ : ∃ M0, M0 = pb (p.take k) := ⟨_, rfl⟩
          rw [← hQ] at hli hlen hM1
          rw [← hM0] at hpl hM1
          have bd2 := BD2.out
          rw [← hM0] at bd2
          have HL := Lib.hid hli; have BD2 := Lib.hid bd2; have HM1 := Lib.hid hM1; have HA1 := Lib.hid hA1; have HPL := Lib.hid (show M0.length + Q.length ≤ 500000 by omega)
          clear hli hm hIx hmem hx hQ hM0 bd2 hM1 hA1 hpl hkl hlen
          go_wp2_with (rw [← W2.out])
          refine HL.out.mono ?_
          rintro e w3 ⟨rfl, b3⟩
          have B3 := Lib.hid (B2.out.trans (b3.mono B2.out.size))
          have BD3 := Lib.hid (BD2.out.keep b3)
          clear b3
          go_wp2_with fail
          refine (bws_c w.heap.size w.heap.size pv ⟨Q.toArray⟩ M0 (M0 ++ Q) w3 BD3.out HPv.out (by simp) (by have := HPL.out; show M0.length + Q.length ≤ _; omega)).mono ?_
          rintro e w4 ⟨rfl, bd4, b4⟩
          have B4 := Lib.hid (B3.out.trans b4); have BD4 := Lib.hid bd4
          clear bd4 b4
          go_wp2_with fail
          refine (bws_c w.heap.size w.heap.size _ ⟨#[10]⟩ (M0 ++ Q) ((M0 ++ Q) ++ [10]) w4 BD4.out (.inr rfl) rfl (by have := HPL.out; show (M0 ++ Q).length + 1 ≤ _; rw [List.length_append]; omega)).mono ?_
          rintro e w5 ⟨rfl, bd5, b5⟩
          have B5 := Lib.hid (B4.out.trans b5)
          rw [← HM1.out] at bd5
          have BD5 := Lib.hid bd5
          clear bd5 b5 c0 c1 c2 a0 a1 a2
          go_wp2
          go_roundw
          case rel => exact ⟨k + 1, _, hlt, by go_num, HA1.out, .inr rfl, BD5.out, B5.out⟩
          case measure => simp [intOf]; omega
      · obtain rfl : k = n := by omega
        have htk : p.take k = p := List.take_of_length_le (by have := Hl.out; omega)
        have hall := HAll.out
        have hbd := HBd.out
        rw [htk] at hall hbd
        have HB := Lib.hid (Hgood.out hall); have HBd := Lib.hid hbd
        clear htk hall hbd
        go_wp2_with fail
        refine (bstr_c w.heap.size w.heap.size pv (pb p) _ HBd.out HPv.out HBel.out.size).mono ?_
        rintro e w3 ⟨rfl, b3⟩
        have B3 := Lib.hid (HBel.out.trans b3)
        clear b3
        go_wp2
        go_ret2
        exact ⟨HB.out, B3.out⟩
end Go.Proofs.YtpdapgbamlcjjaaGreatDoor

/-
  The document's Same, Print.
-/
namespace Go.Proofs.YtpdapgbamlcjjaaGreatDoor
open Go.RowKit Vl Cd

set_option maxRecDepth 100000 in
set_option maxHeartbeats 1000000 in
theorem rsame_c (A D : Option Addr) (n c m d B : Nat) (p q : List Ins) (w : World) (hp : Rc 3 w B A n c (ics p)) (hq : Rc 3 w B D m d (ics q)) (hn : n ≤ 1000000) :
    Calls Tryz.prog 22 #[.slice A n c, .slice D m d] w fun e w' => e = .returned (.bool (decide (p = q))) ∧ ∃ k, w' = w.drewN k := by
  have Hl := Lib.hid (And.intro (ics_num hp) (ics_num hq))
  have Hp := Lib.hid hp; have Hq := Lib.hid hq
  clear hp hq
  by_cases hnm : n = m
  · subst hnm
    go_enter Tryz.func22, Tryz.ntmps22
    go_wp2
    go_loopw [5] (fun t wr => EqRel w n p q t wr) (fun t _ => n - (intOf t).toNat)
    case atStart => exact ⟨0, 0, by omega, rfl, fun j h => by omega, rfl⟩
    case round =>
      obtain ⟨k, qq, hk, rfl, hno, rfl⟩ := hrel
      by_cases hlt : k < n
      · obtain ⟨b, o, x, rfl, hb, a0, a1, a2, hx⟩ := ics_at Hp.out hlt
        obtain ⟨b', o', y, rfl, hb', e0, e1, e2, hy⟩ := ics_at Hq.out hlt
        by_cases he : x = y
        · subst he
          have HNo := Lib.hid hno; have Hx := Lib.hid (hx.trans hy.symm)
          clear hno hx hy
          go_wp2
          go_quiet (fail)
          go_wp2
          go_roundw
          case rel => exact ⟨k + 1, qq + nq, hlt, by go_num, fun j hj => by
            by_cases hjk : j = k
            · rw [hjk]; exact Hx.out
            · exact HNo.out j (by omega), rfl⟩
          case measure => simp [intOf]; omega
        · have hne : p ≠ q := fun e => he (by rw [e, hy] at hx; exact (Option.some.inj hx).symm)
          have HE := Lib.hid hne
          obtain ⟨x1, x2, x3⟩ := x
          obtain ⟨y1, y2, y3⟩ := y
          dsimp only at a0 a1 a2 e0 e1 e2
          clear hno hx hy hne
          by_cases h1 : x1 = y1
          · subst h1
            by_cases h2 : x2 = y2
            · subst h2
              have d3 : (x3 == y3) = false := beq_eq_false_iff_ne.2 (fun e => he (by rw [e]))
              clear he
              go_wp2
              go_quiet (fail)
              go_wp2
              go_ret
              refine ⟨?_, qq + nq, by first | rfl | simp | exact World.drewN_drewN _ _ _⟩
              show Ending.returned (.bool false) = Ending.returned (.bool (decide (p = q)))
              rw [decide_eq_false HE.out]
            · have d2 : (x2 == y2) = false := beq_eq_false_iff_ne.2 h2
              clear he h2
              go_wp2
              go_quiet (fail)
              go_wp2
              go_ret
              refine ⟨?_, qq + nq, by first | rfl | simp | exact World.drewN_drewN _ _ _⟩
              show Ending.returned (.bool false) = Ending.returned (.bool (decide (p = q)))
              rw [decide_eq_false HE.out]
          · have d1 : (x1 == y1) = false := beq_eq_false_iff_ne.2 h1
            clear he h1
            go_wp2
            go_quiet (fail)
            go_wp2
            go_ret
            refine ⟨?_, qq + nq, by first | rfl | simp | exact World.drewN_drewN _ _ _⟩
            show Ending.returned (.bool false) = Ending.returned (.bool (decide (p = q)))
            rw [decide_eq_false HE.out]
      · obtain rfl : k = n := by omega
        have HNo := Lib.hid hno
        clear hno
        go_wp2
        go_ret
        refine ⟨?_, qq, rfl⟩
        have : p = q := List.ext_getElem? fun j => by
          by_cases hj : j < k
          · exact HNo.out j hj
          · rw [List.getElem?_eq_none (by have := Hl.out; omega), List.getElem?_eq_none (by have := Hl.out; omega)]
        show Ending.returned (.bool true) = Ending.returned (.bool (decide (p = q)))
        rw [decide_eq_true this]
  · have d1 : decide ((n : Int) = (m : Int)) = false := decide_eq_false (by omega)
    have d2 : ((n : Int) == (m : Int)) = false := beq_eq_false_iff_ne.2 (by omega)
    have d3 : ((n : Int) != (m : Int)) = true := by rw [bne, d2]; rfl
    go_enter Tryz.func22, Tryz.ntmps22
    go_wp2
    go_ret
    refine ⟨?_, 0, rfl⟩
    show Ending.returned (.bool false) = Ending.returned (.bool (decide (p = q)))
    rw [decide_eq_false]
    rintro rfl
    have := Hl.out
    omega

def RpRel (w : World) (n : Nat) (p : List Ins) (t4 t5 : Value) (wr : World) : Prop :=
  ∃ k : Nat, k ≤ n ∧ t4 = st (pb (p.take k)) ∧ t5 = .int .i64 (k : Int) ∧ (p.take k).all may = true ∧ Below w.heap.size w wr
set_option maxRecDepth 100000 in
set_option maxHeartbeats 4000000 in
theorem rprint_c (A : Option Addr) (n c : Nat) (p : List Ins) (w : World) (hr : Rc 3 w w.heap.size A n c (ics p)) (hn : n ≤ 1000000) (hI : ∀ x ∈ p, I x.op ∧ I x.n) :
    Calls Tryz.prog 19 #[.slice A n c] w (RetV w (.tuple #[st (pP p).1, .int .i64 (pP p).2])) := by
  have hl := ics_num hr
  by_cases h200 : 200 < n
  · have e : pP p = ([], 5) := by unfold pP; rw [if_pos (by omega)]
    have d1 : decide ((200 : Int) < (n : Int)) = true := decide_eq_true (by omega)
    rw [e]
    go_enter Tryz.func19, Tryz.ntmps19
    go_wp2
    go_ret2
    exact ⟨rfl, Below.refl _ _⟩
  · have d1 : decide ((200 : Int) < (n : Int)) = false := decide_eq_false (by omega)
    obtain ⟨R, hR⟩ : ∃ R, R = Ending.returned (.tuple #[st (pP p).1, .int .i64 (pP p).2]) := ⟨_, rfl⟩
    have hbad : ∀ x ∈ p, may x = false → Ending.returned (.tuple #[st [], .int .i64 1]) = R := fun x hx hm => by
      have : pP p = ([], 1) := by
        unfold pP
        rw [if_neg (by omega), if_neg]
        intro q
        rw [List.all_eq_true] at q
        rw [q x hx] at hm; cases hm
      rw [hR, this]
    have hgood : p.all may = true → Ending.returned (.tuple #[st (pb p), .int .i64 0]) = R := fun hm => by
      have : pP p = (pb p, 0) := by unfold pP; rw [if_neg (by omega), if_pos hm]
      rw [hR, this]
    show Calls Tryz.prog 19 #[.slice A n c] w (fun e w' => e = Ending.returned (.tuple #[st (pP p).1, .int .i64 (pP p).2]) ∧ Below w.heap.size w w')
    rw [← hR]
    have Hr := Lib.hid hr; have HI := Lib.hid hI; have Hl := Lib.hid hl; have Hbad := Lib.hid hbad; have Hgood := Lib.hid hgood; have H200 := Lib.hid h200
    clear hr hI hl hbad hgood hR h200
    go_enter Tryz.func19, Tryz.ntmps19
    go_wp2
    go_loopw [4, 5] (fun t4 t5 wr => RpRel w n p t4 t5 wr) (fun _ t5 _ => n - (intOf t5).toNat)
    case atStart => exact ⟨0, Nat.zero_le _, rfl, rfl, rfl, Below.refl _ _⟩
    case round =>
      obtain ⟨k, hk, rfl, rfl, hall, bel⟩ := hrel
      have HAll := Lib.hid hall; have HBel := Lib.hid bel
      clear hall bel
      by_cases hlt : k < n
      · obtain ⟨b, o, x, rfl, hb, a0, a1, a2, hx⟩ := ics_at (Hr.out.below HBel.out) hlt
        have hmem : x ∈ p := List.mem_of_getElem? hx
        have hIx := HI.out x hmem
        have hli := rline_c x hIx.1 hIx.2 wr
        cases hm : may x
        · unfold lnV at hli
          rw [hm, if_neg (by simp)] at hli
          have HL := Lib.hid hli
          have HB := Lib.hid (Hbad.out x hmem hm)
          clear hli hm hIx hmem hx
          go_wp2_with fail
          refine HL.out.mono ?_
          rintro e w3 ⟨rfl, b3⟩
          have B3 := Lib.hid (HBel.out.trans (b3.mono HBel.out.size))
          clear b3
          go_wp2
          go_ret2
          exact ⟨HB.out, B3.out⟩
        · unfold lnV at hli
          rw [hm, if_pos rfl] at hli
          have hlen := ln_len hIx.2 hm
          have hpl := pb_len (p.take k) (fun y hy => (HI.out y (List.mem_of_mem_take hy)).2) HAll.out
          have hkl : (p.take k).length ≤ 200 := by rw [List.length_take]; have := H200.out; omega
          have hM1 := pb_take hx
          have hA1 := all_take hx HAll.out hm
          obtain ⟨Q, hQ⟩ : ∃ Q, Q = ln x := ⟨_, rfl⟩
          obtain ⟨M0, hM0⟩ : ∃ M0, M0 = pb (p.take k) := ⟨_, rfl⟩
          rw [← hQ] at hli hlen hM1
          rw [← hM0] at hpl hM1 ⊢
          have HL := Lib.hid hli; have HM1 := Lib.hid hM1; have HA1 := Lib.hid hA1
          have k1 : ¬ 9223372036854775807 < M0.length + Q.length := by omega
          have k2 : ¬ 9223372036854775807 < M0.length + Q.length + 1 := by omega
          clear hli hm hIx hmem hx hQ hM0 hM1 hA1 hpl hkl hlen
          go_wp2_with fail
          refine HL.out.mono ?_
          rintro e w3 ⟨rfl, b3⟩
          have B3 := Lib.hid (HBel.out.trans (b3.mono HBel.out.size))
          clear b3 a0 a1 a2
          go_wp2
          go_roundw
          case rel => exact ⟨k + 1, hlt, by rw [HM1.out]; first | rfl | exact congrArg Value.string (by rw [show (ByteArray.mk #[10]) = ⟨[(10 : UInt8)].toArray⟩ from rfl, ba_app, ba_app]), by go_num, HA1.out, B3.out⟩
          case measure => simp [intOf]; omega
      · obtain rfl : k = n := by omega
        have htk : p.take k = p := List.take_of_length_le (by have := Hl.out; omega)
        have hall := HAll.out
        rw [htk] at hall ⊢
        have HB := Lib.hid (Hgood.out hall)
        clear htk hall
        go_wp2
        go_ret2
        exact ⟨HB.out, HBel.out⟩
end Go.Proofs.YtpdapgbamlcjjaaGreatDoor

/-
  code.Read.
-/
namespace Go.Proofs.YtpdapgbamlcjjaaGreatDoor
open Go.RowKit Vl Cd

/-- What 'Read' hands over. -/
def RdV (w : World) (r : List Ins × Int) (e : Ending) (w' : World) : Prop :=
  ∃ A n c, e = .returned (.tuple #[.slice A n c, .int .i64 r.2]) ∧ Rc 3 w' w'.heap.size A n c (ics r.1) ∧ Below w.heap.size w w'
def tl (v : Value) : Nat := match v with | .string s => s.size | _ => 0
def RdRel (w : World) (L : List (List UInt8)) (t : List UInt8) (t0 t4 : Value) (wr : World) : Prop :=
  ∃ (L1 L2 : List (List UInt8)) (q : List Ins) (A : Option Addr) (c : Nat), L = L1 ++ L2 ∧ L1.map pr = q.map some ∧ t0 = st (cat L2 ++ t) ∧ (cat L2 ++ t).length ≤ 1000000 ∧ t4 = .slice A q.length c ∧ Oc 3 wr 23 w.heap.size A q.length c (ics q) ∧ Below w.heap.size w wr
set_option maxRecDepth 100000 in
set_option maxHeartbeats 4000000 in
theorem read_c (s : List UInt8) (L : List (List UInt8)) (t : List UInt8) (hs : s.length ≤ 1000000) (h : Seg s L t) (w : World) (hg : Gl w) :
    Calls Tryz.prog 20 #[st s] w (RdV w (rd L t)) := by
  have hcount := Tryz.strings_Count_one ⟨s.toArray⟩ 10 w
  rw [show (ByteArray.mk s.toArray).data.toList = s by simp, show Lib.countByte s 10 = L.length from h.count] at hcount
  have Hcount := Lib.hid hcount
  clear hcount
  by_cases h200 : 200 < L.length
  · have e : rd L t = ([], 5) := rd_long h200
    have d1 : decide ((200 : Int) < (L.length : Int)) = true := decide_eq_true (by omega)
    rw [e]
    go_enter Tryz.func20, Tryz.ntmps20
    go_wp2_with fail
    refine Hcount.out.mono ?_
    rintro e w1 ⟨rfl, rfl⟩
    go_wp2
    go_ret2
    exact ⟨none, 0, 0, rfl, Rc.nil 3 _ _, Below.refl _ _⟩
  · have d1 : decide ((200 : Int) < (L.length : Int)) = false := decide_eq_false (by omega)
    obtain ⟨R, hR⟩ : ∃ R, R = rd L t := ⟨_, rfl⟩
    have hrest : t ≠ [] → R = ([], 3) := fun q => hR.trans (rd_rest h200 q)
    have hline : ∀ l ∈ L, pr l = none → R = ([], 3) := fun l hl q => hR.trans (rd_line h200 hl q)
    have hok : ∀ q : List Ins, t = [] → L.map pr = q.map some → R = (q, 0) := fun q h1 h2 => hR.trans (rd_ok h200 h1 h2)
    have hlen : ∀ (L1 L2 : List (List UInt8)) (q : List Ins), L = L1 ++ L2 → L1.map pr = q.map some → q.length ≤ 200 := fun L1 L2 q e1 e2 => by
      have a := congrArg List.length e1
      have b := congrArg List.length e2
      simp at a b
      omega
    have hpl := h.pl; have hpt := h.pt
    have hseq := h.eq
    rw [← hR]
    have HG := Lib.hid hg; have Hrest := Lib.hid hrest; have Hline := Lib.hid hline; have Hok := Lib.hid hok; have Hlen := Lib.hid hlen; have Hpl := Lib.hid hpl; have Hpt := Lib.hid hpt
    have Hs := Lib.hid (show RdRel w L t (st s) (.slice none 0 0) w from ⟨[], L, [], none, 0, rfl, rfl, by rw [hseq], by rw [← hseq]; exact hs, rfl, Oc.nil 3 _ _ _, Below.refl _ _⟩)
    clear h h200 hg hrest hline hok hlen hpl hpt hseq hR hs
    go_enter Tryz.func20, Tryz.ntmps20
    go_wp2_with fail
    refine Hcount.out.mono ?_
    rintro e w1 ⟨rfl, rfl⟩
    go_wp2_with fail
    go_loopw [0, 4] (fun t0 t4 wr => RdRel w1 L t t0 t4 wr) (fun t0 _ _ => tl t0)
    case atStart => exact Hs.out
    case round =>
      obtain ⟨L1, L2, q, A, c, hL, hq, rfl, hS, rfl, own, bel⟩ := hrel
      have hql := Hlen.out L1 L2 q hL hq
      have Own1 := Lib.hid own; have Bel := Lib.hid bel; have Hq := Lib.hid hq; have HL := Lib.hid hL
      cases L2 with
      | nil =>
        by_cases ht : t = []
        · have hr := Hok.out q ht (by rw [hL, List.append_nil]; exact hq)
          have HR := Lib.hid hr
          have e0 : cat [] ++ t = [] := by rw [ht]; rfl
          rw [e0]
          clear hr hL hq own bel hS e0 ht
          go_wp2
          go_ret2
          exact ⟨A, q.length, c, by rw [HR.out]; rfl, by rw [HR.out]; exact Own1.out.rc, Bel.out⟩
        · have hr := Hrest.out ht
          have HR := Lib.hid hr
          have e0 : cat [] ++ t = t := rfl
          rw [e0] at hS ⊢
          have hct := cut_c t 10 hS wr (HG.out.below' Bel.out)
          rw [(cut_none Hpt.out).1, (cut_none Hpt.out).2, show decide ((10 : UInt8) ∈ t) = false from decide_eq_false (fun m => Hpt.out 10 m rfl)] at hct
          obtain ⟨X, hX, hXs, hXe, -⟩ := hide_st t
          rw [show (t == []) = false from beq_eq_false_iff_ne.2 ht] at hXe
          have Hct := Lib.hid (show Calls Tryz.prog 28 #[.string X, .string ⟨#[10]⟩] wr fun e w' => e = .returned (.tuple #[.string X, st [], .bool false]) ∧ ∃ k, w' = wr.drewN k by rw [hX]; exact hct)
          show Code.wp _ _ _ { tmps := _, defers := _ } _
          rw [show st t = .string X by rw [hX]]
          clear hr hL hq own bel hS e0 ht hct hX
          go_wp2_with fail
          refine Hct.out.mono ?_
          rintro e w2 ⟨rfl, k, rfl⟩
          go_wp2
          go_ret2
          exact ⟨none, 0, 0, by rw [HR.out]; rfl, by rw [HR.out]; exact Rc.nil 3 _ _, below_drewN Bel.out k⟩
      | cons l L2 =>
        have hmem : l ∈ L := by rw [hL]; simp
        have hl10 := Hpl.out l hmem
        obtain ⟨S2, hS2e⟩ : ∃ S2, S2 = cat L2 ++ t := ⟨_, rfl⟩
        have e0 : cat (l :: L2) ++ t = l ++ 10 :: S2 := by rw [cat_cons, hS2e, List.append_assoc]; rfl
        rw [e0] at hS ⊢
        obtain ⟨X, hX, hXs, hXe, -⟩ := hide_st (l ++ 10 :: S2)
        rw [show (l ++ 10 :: S2 == []) = false from by cases l <;> rfl] at hXe
        have hct := cut_c (l ++ 10 :: S2) 10 hS wr (HG.out.below' Bel.out)
        rw [(cut_at S2 hl10).1, (cut_at S2 hl10).2, show decide ((10 : UInt8) ∈ l ++ 10 :: S2) = true from decide_eq_true (List.mem_append_right _ (List.mem_cons_self ..))] at hct
        rw [List.length_append, List.length_cons] at hS hXs
        have hls : l.length ≤ 1000000 := by omega
        have hS2 : S2.length ≤ 1000000 := by omega
        have hlt : S2.length < X.size := by omega
        have Hct := Lib.hid (show Calls Tryz.prog 28 #[.string X, .string ⟨#[10]⟩] wr fun e w' => e = .returned (.tuple #[st l, st S2, .bool true]) ∧ ∃ k, w' = wr.drewN k by rw [hX]; exact hct)
        have Hpa := fun W hG => parse_c l hls W hG
        have Hpa := Lib.hid Hpa; have HS2 := Lib.hid hS2; have HS2e := Lib.hid hS2e; have HLT := Lib.hid hlt; have Hmem := Lib.hid hmem; have HXS := Lib.hid hXs
        rw [show st (l ++ 10 :: S2) = .string X by rw [hX]]
        clear hL hq own bel hS e0 hct hX hls hS2 hlt hS2e hmem hl10 hXs
        go_wp2_with fail
        refine Hct.out.mono ?_
        rintro e w2 ⟨rfl, k, rfl⟩
        have Bel2 := Lib.hid (below_drewN Bel.out k)
        have Own2 := Lib.hid (Own1.out.drewN k)
        cases hp : pr l with
        | none =>
          have HR := Lib.hid (Hline.out l Hmem.out hp)
          have hpa := Hpa.out (wr.drewN k) (HG.out.below' Bel2.out)
          rw [prV_none hp] at hpa
          have Hpa := Lib.hid hpa
          clear hpa hp
          go_wp2_with fail
          refine Hpa.out.mono ?_
          rintro e w3 ⟨rfl, b3⟩
          have B3 := Lib.hid (Bel2.out.trans (b3.mono Bel2.out.size))
          clear b3
          go_wp2
          go_ret2
          exact ⟨none, 0, 0, by rw [HR.out]; rfl, by rw [HR.out]; exact Rc.nil 3 _ _, B3.out.trans ((Below.refl _ _).alloc B3.out.size _)⟩
        | some x =>
          have hpa := Hpa.out (wr.drewN k) (HG.out.below' Bel2.out)
          rw [prV_some hp] at hpa
          have hq2 : (L1 ++ [l]).map pr = (q ++ [x]).map some := by rw [List.map_append, List.map_append, Hq.out]; simp [hp]
          have HQ2 := Lib.hid hq2
          have Hpa := Lib.hid hpa
          clear hpa hp hq2
          go_wp2_with fail
          refine Hpa.out.mono ?_
          rintro e w3 ⟨rfl, b3⟩
          obtain ⟨w4, hw4⟩ : ∃ w4, w4 = w3.alloc (.cells #[.int .i64 x.op, .int .i64 x.n, .string ⟨x.s.toArray⟩] 23) := ⟨_, rfl⟩
          have b4 : Below w3.heap.size w3 w4 := by rw [hw4]; exact (Below.refl _ _).alloc (Nat.le_refl _) _
          have x4 : Bx w4 w3.heap.size (.int .i64 x.op) (.int .i64 x.n) (.string ⟨x.s.toArray⟩) := by rw [hw4]; exact Bx.made _ _ _ _ _
          have B3 := Bel2.out.trans (b3.mono Bel2.out.size)
          have B4 := Lib.hid (B3.trans (b4.mono B3.size))
          have own4 := (Own2.out.keep b3).keep b4
          obtain ⟨w5, hw5⟩ : ∃ w5, w5 = w4.alloc (.cells #[.int .i64 x.op, .int .i64 x.n, .string ⟨x.s.toArray⟩] 23) := ⟨_, rfl⟩
          have b5 : Below w4.heap.size w4 w5 := by rw [hw5]; exact (Below.refl _ _).alloc (Nat.le_refl _) _
          have hlit : Rc 3 w5 (w4.heap.size + 1) (some ⟨w4.heap.size, 0, none⟩) 1 1 (ics [x]) := by
            rw [hw5]; exact Rc.lit (z := 3) w4 _ #[.int .i64 x.op, .int .i64 x.n, .string ⟨x.s.toArray⟩] 1 rfl (by simp [maxLen])
          have B5 := Lib.hid (B4.out.trans (b5.mono B4.out.size))
          have Own5 := Lib.hid (own4.keep b5); have Hlit := Lib.hid hlit
          have W4 := Lib.hid hw4; have W5 := Lib.hid hw5
          have Hbase := Lib.hid B5.out.size
          obtain ⟨c0, c1, c2, -, -, -, -⟩ := x4
          clear hw4 hw5 b4 b5 b3 B3 own4 hlit
          go_wp2_with (first | rw [← W4.out] | (at_builtin; rw [← W5.out]; go_must (refine Sl.wpAppAt ity rfl (.tmp 31) (.tmp 33) rfl (n := q.length) (m := 1) (N := q.length + 1) (base := w1.heap.size) (ws := ics q ++ ics [x]) rfl rfl Own5.out Hlit.out ?hs1 rfl rfl ?hs4 ?hs5 ?hs6 ?_)))
          case hs1 => exact ics_one _
          case hs4 => omega
          case hs5 => omega
          case hs6 => exact Hbase.out
          intro A6 c6 w6 own6 g6
          have B6 := Lib.hid (B5.out.trans ((g6.belowC Own5.out Hbase.out)))
          rw [← ics_app, show q.length + 1 = (q ++ [x]).length by simp] at own6
          have Own6 := Lib.hid own6
          clear own6 g6 c0 c1 c2
          go_wp2
          go_roundw
          case rel => exact ⟨L1 ++ [l], L2, q ++ [x], A6, c6, by rw [HL.out]; simp, HQ2.out, by rw [← HS2e.out], by rw [← HS2e.out]; exact HS2.out, by simp, Own6.out, B6.out⟩
          case measure => exact HLT.out
end Go.Proofs.YtpdapgbamlcjjaaGreatDoor

/-
  The document's Read.
-/
namespace Go.Proofs.YtpdapgbamlcjjaaGreatDoor
open Go.RowKit Vl Cd

theorem Cd.Seg.more {s : List UInt8} {L : List (List UInt8)} {t : List UInt8} (h : Seg s L t) : Seg (s ++ [10]) (L ++ [t]) [] := ⟨by rw [h.eq, cat_app, cat_cons]; simp [cat], fun l hl => by
  rcases List.mem_append.1 hl with q | q
  · exact h.pl l q
  · rw [List.mem_singleton.1 q]; exact h.pt, by simp⟩
theorem Cd.Seg.char {s : List UInt8} {L : List (List UInt8)} {t : List UInt8} {c : UInt8} (h : Seg s L t) (hc : c ≠ 10) : Seg (s ++ [c]) L (t ++ [c]) := ⟨by rw [h.eq]; simp, h.pl, fun d hd => by
  rcases List.mem_append.1 hd with q | q
  · exact h.pt d q
  · rw [List.mem_singleton.1 q]; exact hc⟩
theorem cat_len : ∀ L : List (List UInt8), L.length ≤ (cat L).length
  | [] => Nat.le_refl _
  | l :: L => by have := cat_len L; rw [cat_cons, List.length_append, List.length_cons, List.length_cons]; omega
def LiRel (w : World) (s : List UInt8) (t4 t5 t6 : Value) (wr : World) : Prop :=
  ∃ (k : Nat) (L : List (List UInt8)) (t : List UInt8) (A : Option Addr) (c : Nat), k ≤ s.length ∧ Seg (s.take k) L t ∧ t4 = .slice A L.length c ∧ t5 = .int .i64 ((cat L).length : Int) ∧ t6 = .int .i64 (k : Int) ∧ Oc 1 wr 9 w.heap.size A L.length c (lvs L) ∧ Below w.heap.size w wr
def LpRel (w w1 : World) (L : List (List UInt8)) (t7 t8 : Value) (wr : World) : Prop :=
  ∃ (k : Nat) (q : List Ins) (A : Option Addr) (c : Nat), k ≤ L.length ∧ (L.take k).map pr = q.map some ∧ t7 = .slice A q.length c ∧ t8 = .int .i64 (k : Int) ∧ Oc 3 wr 23 w1.heap.size A q.length c (ics q) ∧ Below w.heap.size w wr ∧ Below w1.heap.size w1 wr
set_option maxRecDepth 100000 in
set_option maxHeartbeats 8000000 in
theorem rread_c (s : List UInt8) (L : List (List UInt8)) (t : List UInt8) (hs : s.length ≤ 1000000) (h : Seg s L t) (w : World) :
    Calls Tryz.prog 21 #[st s] w (RdV w (rd L t)) := by
  obtain ⟨X, hX, hXs, -, hXl⟩ := hide_st s
  show Calls _ _ #[.string ⟨s.toArray⟩] _ _
  rw [← hX]
  have hz : X.size ≤ 1000000 := by omega
  have HXL := Lib.hid hXs.symm
  have HX := Lib.hid hX
  have HXl := Lib.hid hXl
  have HSeg := Lib.hid h
  obtain ⟨R, hR⟩ : ∃ R, R = rd L t := ⟨_, rfl⟩
  rw [← hR]
  have HR := Lib.hid hR
  clear hX hXs hXl h hR
  obtain ⟨w1, hw1⟩ : ∃ w1, w1 = w.alloc (.cells #[] 9) := ⟨_, rfl⟩
  have b1 : Below w.heap.size w w1 := by rw [hw1]; exact (Below.refl _ _).alloc (Nat.le_refl _) _
  have own1 : Oc 1 w1 9 w.heap.size (some ⟨w.heap.size, 0, none⟩) 0 0 (lvs []) := by rw [hw1]; exact Oc.made0 1 _ _
  have W1 := Lib.hid hw1; have B1 := Lib.hid b1; have Own1 := Lib.hid own1
  clear hw1 b1 own1
  go_enter Tryz.func21, Tryz.ntmps21
  go_wp2_with (rw [← W1.out])
  go_loopw [4, 5, 6] (fun t4 t5 t6 wr => LiRel w s t4 t5 t6 wr) (fun _ _ t6 _ => X.size - (intOf t6).toNat)
  case atStart => exact ⟨0, [], [], _, _, Nat.zero_le _, ⟨by simp [cat], by simp, by simp⟩, rfl, rfl, rfl, Own1.out, B1.out⟩
  case round =>
    obtain ⟨k, M, tt, A, c, hk, hseg, rfl, rfl, rfl, own, bel⟩ := hrel
    have HSg := Lib.hid hseg; have Own0 := Lib.hid own; have Bel0 := Lib.hid bel
    clear hseg own bel
    by_cases hlt : k < X.size
    · have htk := str_take X k hlt
      rw [HXl.out] at htk
      have hcl : (cat M).length + tt.length = k := by
        have := congrArg List.length HSg.out.eq
        rw [List.length_take, List.length_append, HXL.out] at this
        omega
      have hml := cat_len M
      by_cases h1 : X[k] = 10
      · have hx : (X[k]).toNat = 10 := by rw [h1]; rfl
        have d1 : ((X[k]).toNat == 10) = true := beq_iff_eq.2 hx
        have d2 : (((X[k]).toNat : Int) == 10) = true := beq_iff_eq.2 (by omega)
        have HS2 := Lib.hid (show Seg (s.take (k + 1)) (M ++ [tt]) [] by rw [htk, h1]; exact HSg.out.more)
        have HCL := Lib.hid (show (cat (M ++ [tt])).length = k + 1 by rw [cat_app, List.length_append, cat_cons, List.length_append, List.length_cons, show (cat []).length = 0 from rfl]; omega)
        have e1 : X.extract (cat M).length k = ⟨tt.toArray⟩ := by
          rw [HX.out, ext_eq, HSg.out.eq, List.drop_left]
        have e3 : (cat M).length ≤ k := by omega
        have e4 : k ≤ X.size := by omega
        have HML := Lib.hid (show M.length ≤ 1000000 by omega)
        obtain ⟨f, hf⟩ : ∃ f, f = (cat M).length := ⟨_, rfl⟩
        rw [← hf] at e1 e3 ⊢
        obtain ⟨w5, hw5⟩ : ∃ w5, w5 = wr.alloc (.cells #[.string ⟨tt.toArray⟩] 9) := ⟨_, rfl⟩
        have b5 : Below wr.heap.size wr w5 := by rw [hw5]; exact (Below.refl _ _).alloc (Nat.le_refl _) _
        have Hlit := Lib.hid (show Rc 1 w5 (wr.heap.size + 1) (some ⟨wr.heap.size, 0, none⟩) 1 1 (lvs [tt]) by
          rw [hw5]; exact Rc.lit (z := 1) wr _ #[.string ⟨tt.toArray⟩] 1 rfl (by simp [maxLen]))
        have B5 := Lib.hid (Bel0.out.trans (b5.mono Bel0.out.size))
        have Own5 := Lib.hid (Own0.out.keep b5)
        have W5 := Lib.hid hw5; have Z5 := Lib.hid B5.out.size
        clear hw5 b5 hf h1 hx htk hcl hml
        go_wp2_with (at_builtin; rw [← W5.out]; go_must (refine Sl.wpAppAt sty rfl (.tmp 22) (.tmp 27) rfl (n := M.length) (m := 1) (N := M.length + 1) (base := w.heap.size) (ws := lvs M ++ lvs [tt]) rfl rfl Own5.out Hlit.out ?hs1 rfl rfl ?hs4 ?hs5 ?hs6 ?_))
        case hs1 => exact lvs_one _
        case hs4 => have := HML.out; omega
        case hs5 => have := HML.out; omega
        case hs6 => exact Z5.out
        intro A6 c6 w6 own6 g6
        have B6 := Lib.hid (B5.out.trans (g6.belowC Own5.out Z5.out))
        rw [← lvs_append, show M.length + 1 = (M ++ [tt]).length by simp] at own6
        have Own6 := Lib.hid own6
        clear own6 g6 e1
        go_wp2
        go_roundw
        case rel => exact ⟨k + 1, M ++ [tt], [], A6, c6, by rw [HXL.out]; exact hlt, HS2.out, by simp, by rw [HCL.out]; go_num, by go_num, Own6.out, B6.out⟩
        case measure => simp [intOf]; omega
      · have hx : (X[k]).toNat ≠ 10 := fun q => h1 (UInt8.toNat_inj.1 q)
        have d1 : ((X[k]).toNat == 10) = false := beq_eq_false_iff_ne.2 hx
        have d2 : (((X[k]).toNat : Int) == 10) = false := beq_eq_false_iff_ne.2 (fun q => hx (by omega))
        have HS2 := Lib.hid (show Seg (s.take (k + 1)) M (tt ++ [X[k]]) by rw [htk]; exact HSg.out.char h1)
        clear h1 hx htk hcl hml
        go_wp2
        go_roundw
        case rel => exact ⟨k + 1, M, _, A, c, by rw [HXL.out]; exact hlt, HS2.out, rfl, rfl, by go_num, Own0.out, Bel0.out⟩
        case measure => simp [intOf]; omega
    · have hkk : k = X.size := by have := HXL.out; omega
      have hsg := HSg.out
      rw [List.take_of_length_le (by rw [HXL.out]; omega)] at hsg
      obtain ⟨rfl, rfl⟩ := hsg.unique HSeg.out
      have hct : (cat M).length + tt.length = X.size := by
        have := congrArg List.length hsg.eq
        rw [List.length_append, HXL.out] at this
        omega
      have hml := cat_len M
      have HML := Lib.hid (show M.length ≤ 1000000 by omega)
      obtain ⟨f, hf⟩ : ∃ f, f = (cat M).length := ⟨_, rfl⟩
      rw [← hf] at hct ⊢
      subst hkk
      clear hsg hf hml hlt
      by_cases h200 : 200 < M.length
      · have d1 : decide ((200 : Int) < (M.length : Int)) = true := decide_eq_true (by omega)
        have HR := Lib.hid (HR.out.trans (rd_long h200))
        clear h200 hct
        go_wp2
        go_ret2
        exact ⟨none, 0, 0, by rw [HR.out]; rfl, by rw [HR.out]; exact Rc.nil 3 _ _, Bel0.out⟩
      · have d1 : decide ((200 : Int) < (M.length : Int)) = false := decide_eq_false (by omega)
        by_cases ht : tt = []
        · have d2 : decide ((f : Int) < (X.size : Int)) = false := decide_eq_false (by rw [ht] at hct; simp at hct; omega)
          have d3 : decide (f < X.size) = false := decide_eq_false (by rw [ht] at hct; simp at hct; omega)
          have hline : ∀ l ∈ M, pr l = none → R = ([], 3) := fun l hl q => HR.out.trans (rd_line h200 hl q)
          have hok : ∀ q : List Ins, M.map pr = q.map some → R = (q, 0) := fun q h2 => HR.out.trans (rd_ok h200 ht h2)
          have Hline := Lib.hid hline; have Hok := Lib.hid hok; have H200 := Lib.hid h200
          have hMl : ∀ l ∈ M, l.length ≤ 1000000 := fun l hl => by
            have h1 : ∀ (K : List (List UInt8)), l ∈ K → l.length ≤ (cat K).length := by
              intro K
              induction K with
              | nil => intro q; simp at q
              | cons m K ih =>
                intro q
                rw [cat_cons, List.length_append, List.length_cons]
                rcases List.mem_cons.1 q with e | e
                · rw [e]; omega
                · have := ih e; omega
            have h2 := h1 M hl
            have h3 := congrArg List.length HSeg.out.eq
            rw [List.length_append, HXL.out] at h3
            omega
          have HMl := Lib.hid hMl
          rename World => w4
          have hrow := Own0.out.rc
          obtain ⟨w5, hw5⟩ : ∃ w5, w5 = w4.alloc (.cells #[] 23) := ⟨_, rfl⟩
          have b5 : Below w4.heap.size w4 w5 := by rw [hw5]; exact (Below.refl _ _).alloc (Nat.le_refl _) _
          have own5 : Oc 3 w5 23 w4.heap.size (some ⟨w4.heap.size, 0, none⟩) 0 0 (ics []) := by rw [hw5]; exact Oc.made0 3 _ _
          have B5 := Lib.hid (Bel0.out.trans (b5.mono Bel0.out.size))
          have Hrow := Lib.hid hrow; have W5 := Lib.hid hw5; have B5' := Lib.hid b5; have Own5 := Lib.hid own5
          clear hct ht hline hok h200 hMl hrow hw5 b5 own5
          go_wp2_with (rw [← W5.out])
          go_loopw [7, 8] (fun t7 t8 wr => LpRel w w4 M t7 t8 wr) (fun _ t8 _ => M.length - (intOf t8).toNat)
          case atStart => exact ⟨0, [], _, _, Nat.zero_le _, rfl, rfl, rfl, Own5.out, B5.out, B5'.out⟩
          case round =>
            obtain ⟨j, q, D, d, hj, hq, rfl, rfl, own, bel, bel2⟩ := hrel
            have HOwn := Lib.hid own; have HBel := Lib.hid bel; have HBel2 := Lib.hid bel2; have HQ := Lib.hid hq
            clear own bel bel2 hq
            by_cases hjl : j < M.length
            · obtain ⟨b, o, l, rfl, hb, hc, hl, -⟩ := lvs_at (Hrow.out.below HBel2.out) hjl
              have hmem : l ∈ M := List.mem_of_getElem? hl
              have hpa := rparse_c l (HMl.out l hmem) wr
              cases hp : pr l with
              | none =>
                rw [prV_none hp] at hpa
                have HR3 := Lib.hid (Hline.out l hmem hp)
                have Hpa := Lib.hid hpa
                clear hpa hp hmem hl
                go_wp2_with fail
                refine Hpa.out.mono ?_
                rintro e w7 ⟨rfl, b7⟩
                have B7 := Lib.hid (HBel.out.trans (b7.mono HBel.out.size))
                clear b7
                go_wp2
                go_ret2
                exact ⟨none, 0, 0, by rw [HR3.out]; rfl, by rw [HR3.out]; exact Rc.nil 3 _ _, B7.out.trans ((Below.refl _ _).alloc B7.out.size _)⟩
              | some x =>
                rw [prV_some hp] at hpa
                have hq2 : (M.take (j + 1)).map pr = (q ++ [x]).map some := by rw [List.take_add_one, hl, List.map_append, List.map_append, HQ.out]; simp [hp]
                have hqj : q.length = j := by have := congrArg List.length HQ.out; simp at this; omega
                have HQ2 := Lib.hid hq2; have HQJ := Lib.hid hqj
                have Hpa := Lib.hid hpa
                clear hpa hp hmem hl hq2 hqj
                go_wp2_with fail
                refine Hpa.out.mono ?_
                rintro e w7 ⟨rfl, b7⟩
                obtain ⟨w8, hw8⟩ : ∃ w8, w8 = w7.alloc (.cells #[.int .i64 x.op, .int .i64 x.n, .string ⟨x.s.toArray⟩] 23) := ⟨_, rfl⟩
                have b8 : Below w7.heap.size w7 w8 := by rw [hw8]; exact (Below.refl _ _).alloc (Nat.le_refl _) _
                have x8 : Bx w8 w7.heap.size (.int .i64 x.op) (.int .i64 x.n) (.string ⟨x.s.toArray⟩) := by rw [hw8]; exact Bx.made _ _ _ _ _
                obtain ⟨w9, hw9⟩ : ∃ w9, w9 = w8.alloc (.cells #[.int .i64 x.op, .int .i64 x.n, .string ⟨x.s.toArray⟩] 23) := ⟨_, rfl⟩
                have b9 : Below w8.heap.size w8 w9 := by rw [hw9]; exact (Below.refl _ _).alloc (Nat.le_refl _) _
                have Hlit := Lib.hid (show Rc 3 w9 (w8.heap.size + 1) (some ⟨w8.heap.size, 0, none⟩) 1 1 (ics [x]) by
                  rw [hw9]; exact Rc.lit (z := 3) w8 _ #[.int .i64 x.op, .int .i64 x.n, .string ⟨x.s.toArray⟩] 1 rfl (by simp [maxLen]))
                have b79 := b7.trans ((b8.trans (b9.mono b8.size)).mono b7.size)
                have B9 := Lib.hid (HBel.out.trans (b79.mono HBel.out.size))
                have B9' := Lib.hid (HBel2.out.trans (b79.mono HBel2.out.size))
                have Own9 := Lib.hid (HOwn.out.keep b79)
                have W8 := Lib.hid hw8; have W9 := Lib.hid hw9; have Z9 := Lib.hid B9'.out.size
                obtain ⟨c0, c1, c2, -, -, -, -⟩ := x8
                have hq200 : q.length ≤ 200 := by have := HQJ.out; have := H200.out; omega
                have hj200 : j ≤ 200 := by have := H200.out; omega
                clear hw8 hw9 b7 b8 b9 b79 hc
                go_wp2_with (first | rw [← W8.out] | (at_builtin; rw [← W9.out]; go_must (refine Sl.wpAppAt ity rfl (.tmp 56) (.tmp 58) rfl (n := q.length) (m := 1) (N := q.length + 1) (base := w4.heap.size) (ws := ics q ++ ics [x]) rfl rfl Own9.out Hlit.out ?ht1 rfl rfl ?ht4 ?ht5 ?ht6 ?_)))
                case ht1 => exact ics_one _
                case ht4 => omega
                case ht5 => omega
                case ht6 => exact Z9.out
                intro A6 c6 w6 own6 g6
                have gb := g6.belowC Own9.out Z9.out
                have B6 := Lib.hid (B9.out.trans (gb.mono Bel0.out.size))
                have B6' := Lib.hid (B9'.out.trans gb)
                rw [← ics_app, show q.length + 1 = (q ++ [x]).length by simp] at own6
                have Own6 := Lib.hid own6
                clear own6 g6 c0 c1 c2 gb
                go_wp2
                go_roundw
                case rel => exact ⟨j + 1, q ++ [x], A6, c6, hjl, HQ2.out, by simp, by go_num, Own6.out, B6.out, B6'.out⟩
                case measure => simp [intOf]; omega
            · obtain rfl : j = M.length := by omega
              have hq := HQ.out
              rw [List.take_of_length_le (Nat.le_refl _)] at hq
              have HR0 := Lib.hid (Hok.out q hq)
              clear hq
              go_wp2
              go_ret2
              exact ⟨D, q.length, d, by rw [HR0.out]; rfl, by rw [HR0.out]; exact HOwn.out.rc, HBel.out⟩
        · have d2 : decide ((f : Int) < (X.size : Int)) = true := decide_eq_true (by
            have : 0 < tt.length := by cases tt with
              | nil => exact absurd rfl ht
              | cons a b => simp
            omega)
          have d3 : decide (f < X.size) = true := decide_eq_true (by
            have : 0 < tt.length := by cases tt with
              | nil => exact absurd rfl ht
              | cons a b => simp
            omega)
          have HR := Lib.hid (HR.out.trans (rd_rest h200 ht))
          clear h200 hct ht
          go_wp2
          go_ret2
          exact ⟨none, 0, 0, by rw [HR.out]; rfl, by rw [HR.out]; exact Rc.nil 3 _ _, Bel0.out⟩
end Go.Proofs.YtpdapgbamlcjjaaGreatDoor
