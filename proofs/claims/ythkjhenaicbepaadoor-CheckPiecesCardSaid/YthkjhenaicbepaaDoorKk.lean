/-
  The program's effectOf. (Printed by genkk.py.)
-/
import Derived.Test.YthkjhenaicbepaaDoorKj
namespace Go.Proofs.YthkjhenaicbepaaDoor
open Go.RowKit Vl Cd Ck

abbrev pushV (b : Bool) : Value := .func (.func 30) #[.bool b] #[]
abbrev operV (op : Int) : Value := .func (.func 31) #[.int .i64 op] #[]
/-- What effectOf hands over. -/
def effV (f : List Bool) (x : Ins) : Value :=
  if may x = false ∨ 22 ≤ x.op ∧ f.length = 0 then .tuple #[.nilFunc, .int .i64 1]
  else if ar x.op = 0 then .tuple #[pushV (pk f x.op), .int .i64 0]
  else .tuple #[operV x.op, .int .i64 0]
theorem ar_zero {op : Int} (h : ar op = 0) : ¬ (4 ≤ op ∧ op ≤ 21) := by
  intro q
  obtain ⟨m, rfl⟩ : ∃ m : Nat, op = m := ⟨op.toNat, by omega⟩
  rw [ar_nz m (by omega) (by omega)] at h
  rcases op_cases (m := m) (by omega) (by omega) with rfl | rfl | rfl | rfl | rfl | rfl | rfl | rfl | rfl | rfl | rfl | rfl | rfl | rfl | rfl | rfl | rfl | rfl
  all_goals (exact absurd h (by decide))
theorem ar_nonzero {op : Int} (h : 4 ≤ op ∧ op ≤ 21) : ar op ≠ 0 := fun e => ar_zero e h

set_option maxRecDepth 100000 in
set_option maxHeartbeats 2000000 in
theorem eff_c (x : Ins) (hop : I x.op) (F : Option Addr) (m c : Nat) (f : List Bool) (w : World) (hr : Rc 1 w w.heap.size F m c (lvb f)) (hm : m = 0 ∨ m = 2) :
    Calls Tryd.prog 27 #[iv x, .slice F m c] w (RetV w (effV f x)) := by
  have hfl := lvb_len1 hr
  have hrange := @may_op x
  obtain ⟨E, hE⟩ : ∃ E, E = effV f x := ⟨_, rfl⟩
  rw [← hE]
  unfold effV at hE
  obtain ⟨op, n, s⟩ := x
  dsimp only at hE hrange hop
  obtain ⟨X, hX, -, -, -⟩ := hide_st s
  show Calls Tryd.prog _ #[.agg #[.int .i64 op, .int .i64 n, .string ⟨s.toArray⟩], _] w _
  simp only [← hX]
  obtain ⟨M, hM⟩ : ∃ M, M = may ⟨op, n, s⟩ := ⟨_, rfl⟩
  have hmay : ∀ W, Calls Tryd.prog 20 #[.agg #[.int .i64 op, .int .i64 n, .string X]] W (RetV W (.bool M)) := fun W => by rw [hX, hM]; exact may_c ⟨op, n, s⟩ hop W
  rw [← hM] at hE hrange
  obtain ⟨w0, hw0⟩ : ∃ w0, w0 = w.alloc (.cells #[.int .i64 op, .int .i64 n, .string X] 37) := ⟨_, rfl⟩
  have b0 : Below w.heap.size w w0 := by rw [hw0]; exact (Below.refl _ _).alloc (Nat.le_refl _) _
  have x0 : Bx w0 w.heap.size (.int .i64 op) (.int .i64 n) (.string X) := by rw [hw0]; exact Bx.made _ _ _ _ _
  have W0 := Lib.hid hw0; have B0 := Lib.hid b0; have X0 := Lib.hid x0; have HE := Lib.hid hE; have Hmay := Lib.hid hmay; have Hfl := Lib.hid hfl; have Hr := Lib.hid hr
  clear hw0 b0 x0 hE hmay hM hX hop hfl hr
  obtain ⟨c0, c1, c2, -, -, -, hlt⟩ := X0.out
  cases M
  · obtain rfl := HE.out.trans (if_pos (.inl rfl))
    clear hrange
    go_enter Tryd.func27, Tryd.ntmps27
    go_wp2_with (rw [← W0.out])
    refine (Hmay.out w0).mono ?_
    rintro e w1 ⟨rfl, b1⟩
    have B1 := Lib.hid (B0.out.trans (b1.mono B0.out.size))
    clear b1 c0 c1 c2
    go_wp2
    go_ret2
    exact ⟨rfl, B1.out⟩
  · have hra := hrange rfl
    clear hrange
    by_cases h0 : op = 0
    · subst h0
      obtain rfl : E = .tuple #[pushV false, .int .i64 0] := HE.out.trans ((if_neg (by simp)).trans ((if_pos (by decide)).trans rfl))
      clear hra HE
      go_enter Tryd.func27, Tryd.ntmps27
      go_wp2_with (rw [← W0.out])
      refine (Hmay.out w0).mono ?_
      rintro e w1 ⟨rfl, b1⟩
      have x1 := X0.out.below b1 hlt
      have B1 := Lib.hid (B0.out.trans (b1.mono B0.out.size))
      clear b1 c0 c1 c2
      obtain ⟨c0, c1, c2, -, -, -, -⟩ := x1
      go_wp2
      go_ret2
      exact ⟨rfl, B1.out⟩
    have d0 : (op == 0) = false := beq_eq_false_iff_ne.2 h0
    by_cases h1 : op = 1
    · subst h1
      obtain rfl : E = .tuple #[pushV true, .int .i64 0] := HE.out.trans ((if_neg (by simp)).trans ((if_pos (by decide)).trans rfl))
      clear hra HE
      go_enter Tryd.func27, Tryd.ntmps27
      go_wp2_with (rw [← W0.out])
      refine (Hmay.out w0).mono ?_
      rintro e w1 ⟨rfl, b1⟩
      have x1 := X0.out.below b1 hlt
      have B1 := Lib.hid (B0.out.trans (b1.mono B0.out.size))
      clear b1 c0 c1 c2
      obtain ⟨c0, c1, c2, -, -, -, -⟩ := x1
      go_wp2
      go_ret2
      exact ⟨rfl, B1.out⟩
    have d1 : (op == 1) = false := beq_eq_false_iff_ne.2 h1
    by_cases h2 : op = 2
    · subst h2
      obtain rfl : E = .tuple #[pushV true, .int .i64 0] := HE.out.trans ((if_neg (by simp)).trans ((if_pos (by decide)).trans rfl))
      clear hra HE
      go_enter Tryd.func27, Tryd.ntmps27
      go_wp2_with (rw [← W0.out])
      refine (Hmay.out w0).mono ?_
      rintro e w1 ⟨rfl, b1⟩
      have x1 := X0.out.below b1 hlt
      have B1 := Lib.hid (B0.out.trans (b1.mono B0.out.size))
      clear b1 c0 c1 c2
      obtain ⟨c0, c1, c2, -, -, -, -⟩ := x1
      go_wp2
      go_ret2
      exact ⟨rfl, B1.out⟩
    have d2 : (op == 2) = false := beq_eq_false_iff_ne.2 h2
    by_cases h3 : op = 3
    · subst h3
      obtain rfl : E = .tuple #[pushV false, .int .i64 0] := HE.out.trans ((if_neg (by simp)).trans ((if_pos (by decide)).trans rfl))
      clear hra HE
      go_enter Tryd.func27, Tryd.ntmps27
      go_wp2_with (rw [← W0.out])
      refine (Hmay.out w0).mono ?_
      rintro e w1 ⟨rfl, b1⟩
      have x1 := X0.out.below b1 hlt
      have B1 := Lib.hid (B0.out.trans (b1.mono B0.out.size))
      clear b1 c0 c1 c2
      obtain ⟨c0, c1, c2, -, -, -, -⟩ := x1
      go_wp2
      go_ret2
      exact ⟨rfl, B1.out⟩
    have d3 : (op == 3) = false := beq_eq_false_iff_ne.2 h3
    by_cases h22 : op = 22
    · subst h22
      clear hra h0 h1 h2 h3 d0 d1 d2 d3
      rcases hm with rfl | rfl
      · obtain rfl : E = .tuple #[.nilFunc, .int .i64 1] := HE.out.trans (if_pos (.inr ⟨by omega, Hfl.out⟩))
        clear HE
        go_enter Tryd.func27, Tryd.ntmps27
        go_wp2_with (rw [← W0.out])
        refine (Hmay.out w0).mono ?_
        rintro e w1 ⟨rfl, b1⟩
        have x1 := X0.out.below b1 hlt
        have B1 := Lib.hid (B0.out.trans (b1.mono B0.out.size))
        clear b1 c0 c1 c2
        obtain ⟨c0, c1, c2, -, -, -, -⟩ := x1
        go_wp2
        go_ret2
        exact ⟨rfl, B1.out⟩
      · obtain ⟨b, o, q, rfl, hb, hc, hq⟩ := lvb_at Hr.out (k := 0) (by omega)
        have hpk : pk f 22 = q := by
          show f.getD 0 false = q
          rw [List.getD_eq_getElem?_getD, hq]; rfl
        obtain rfl : E = .tuple #[pushV q, .int .i64 0] := HE.out.trans ((if_neg (by rw [Hfl.out]; simp)).trans ((if_pos (by decide)).trans (by rw [hpk])))
        clear HE hpk hq
        go_enter Tryd.func27, Tryd.ntmps27
        go_wp2_with (rw [← W0.out])
        refine (Hmay.out w0).mono ?_
        rintro e w1 ⟨rfl, b1⟩
        have x1 := X0.out.below b1 hlt
        have k1 : w1.cell? ⟨b, o, none⟩ = some (.bool q) := ((B0.out.trans (b1.mono B0.out.size)).cell (p := ⟨b, o + 0, none⟩) hb).trans hc
        have B1 := Lib.hid (B0.out.trans (b1.mono B0.out.size))
        clear b1 c0 c1 c2 hc
        obtain ⟨c0, c1, c2, -, -, -, -⟩ := x1
        go_wp2
        go_ret2
        exact ⟨rfl, B1.out⟩
    have d22 : (op == 22) = false := beq_eq_false_iff_ne.2 h22
    by_cases h23 : op = 23
    · subst h23
      clear hra h0 h1 h2 h3 d0 d1 d2 d3 h22 d22
      rcases hm with rfl | rfl
      · obtain rfl : E = .tuple #[.nilFunc, .int .i64 1] := HE.out.trans (if_pos (.inr ⟨by omega, Hfl.out⟩))
        clear HE
        go_enter Tryd.func27, Tryd.ntmps27
        go_wp2_with (rw [← W0.out])
        refine (Hmay.out w0).mono ?_
        rintro e w1 ⟨rfl, b1⟩
        have x1 := X0.out.below b1 hlt
        have B1 := Lib.hid (B0.out.trans (b1.mono B0.out.size))
        clear b1 c0 c1 c2
        obtain ⟨c0, c1, c2, -, -, -, -⟩ := x1
        go_wp2
        go_ret2
        exact ⟨rfl, B1.out⟩
      · obtain ⟨b, o, q, rfl, hb, hc, hq⟩ := lvb_at Hr.out (k := 1) (by omega)
        have hpk : pk f 23 = q := by
          show f.getD 1 false = q
          rw [List.getD_eq_getElem?_getD, hq]; rfl
        obtain rfl : E = .tuple #[pushV q, .int .i64 0] := HE.out.trans ((if_neg (by rw [Hfl.out]; simp)).trans ((if_pos (by decide)).trans (by rw [hpk])))
        clear HE hpk hq
        go_enter Tryd.func27, Tryd.ntmps27
        go_wp2_with (rw [← W0.out])
        refine (Hmay.out w0).mono ?_
        rintro e w1 ⟨rfl, b1⟩
        have x1 := X0.out.below b1 hlt
        have k1 : w1.cell? ⟨b, o + 1, none⟩ = some (.bool q) := ((B0.out.trans (b1.mono B0.out.size)).cell (p := ⟨b, o + 1, none⟩) hb).trans hc
        have B1 := Lib.hid (B0.out.trans (b1.mono B0.out.size))
        clear b1 c0 c1 c2 hc
        obtain ⟨c0, c1, c2, -, -, -, -⟩ := x1
        go_wp2
        go_ret2
        exact ⟨rfl, B1.out⟩
    have d23 : (op == 23) = false := beq_eq_false_iff_ne.2 h23
    obtain rfl : E = .tuple #[operV op, .int .i64 0] := HE.out.trans ((if_neg (by simp; omega)).trans (if_neg (ar_nonzero ⟨by omega, by omega⟩)))
    clear hra h0 h1 h2 h3 h22 h23 HE
    go_enter Tryd.func27, Tryd.ntmps27
    go_wp2_with (rw [← W0.out])
    refine (Hmay.out w0).mono ?_
    rintro e w1 ⟨rfl, b1⟩
    have x1 := X0.out.below b1 hlt
    have B1 := Lib.hid (B0.out.trans (b1.mono B0.out.size))
    clear b1 c0 c1 c2
    obtain ⟨c0, c1, c2, -, -, -, -⟩ := x1
    go_wp2
    go_ret2
    exact ⟨rfl, B1.out⟩
end Go.Proofs.YthkjhenaicbepaaDoor
