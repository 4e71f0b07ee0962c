/-
  The document's May.
-/
import Derived.Test.YthkjhenaicbepaaDoorKa
namespace Go.Proofs.YthkjhenaicbepaaDoor
open Go.RowKit Vl Cd

set_option maxRecDepth 100000 in
set_option maxHeartbeats 4000000 in
theorem rmay_c (x : Ins) (w : World) : Calls Tryd.prog 21 #[iv x] w (RetV w (.bool (may x))) := by
  obtain ⟨op, n, s⟩ := x
  obtain ⟨X, hX, hXs, hXe, -⟩ := hide_st s
  obtain ⟨o, ho⟩ : ∃ o, o = may ⟨op, n, s⟩ := ⟨_, rfl⟩
  have hm := @may_s ⟨op, n, s⟩
  have ho' := @may_op ⟨op, n, s⟩
  have hn' := @may_n ⟨op, n, s⟩
  rw [← ho] at hm ho' hn'
  show Calls Tryd.prog 21 #[.agg #[.int .i64 op, .int .i64 n, .string ⟨s.toArray⟩]] w _
  rw [← ho, ← hX]
  unfold may at ho
  dsimp only at ho hm ho' hn'
  obtain ⟨w0, hw0⟩ : ∃ w0, w0 = w.alloc (.cells #[.int .i64 op, .int .i64 n, .string X] 37) := ⟨_, rfl⟩
  have b0 : Below w.heap.size w w0 := by rw [hw0]; exact (Below.refl _ _).alloc (Nat.le_refl _) _
  have x0 : Bx w0 w.heap.size (.int .i64 op) (.int .i64 n) (.string X) := by rw [hw0]; exact Bx.made _ _ _ _ _
  have W0 := Lib.hid hw0; have B0 := Lib.hid b0; have Hm := Lib.hid hm; have Ho' := Lib.hid ho'; have Hn' := Lib.hid hn'; have Hse := Lib.hid hXe; have Hsz := Lib.hid hXs
  clear hw0 b0 hX hm ho' hn' hXe hXs
  obtain ⟨c0, c1, c2, -, -, -, hlt⟩ := x0
  by_cases h0 : op < 0
  · have d0 : decide (op < 0) = true := decide_eq_true h0
    have HO := Lib.hid (show false = o by cases o with
      | false => rfl
      | true => have := Ho'.out rfl; omega)
    clear ho h0
    go_enter Tryd.func21, Tryd.ntmps21
    go_wp2_with (rw [← W0.out])
    go_ret
    exact ⟨by rw [← HO.out]; rfl, B0.out⟩
  · have d0 : decide (op < 0) = false := decide_eq_false h0
    by_cases h1 : 23 < op
    · have d1 : decide (23 < op) = true := decide_eq_true h1
      have HO := Lib.hid (show false = o by cases o with
        | false => rfl
        | true => have := Ho'.out rfl; omega)
      clear ho h0 h1
      go_enter Tryd.func21, Tryd.ntmps21
      go_wp2_with (rw [← W0.out])
      go_ret
      exact ⟨by rw [← HO.out]; rfl, B0.out⟩
    · have d1 : decide (23 < op) = false := decide_eq_false h1
      by_cases h2 : op = 1
      · subst h2
        by_cases h3 : 1000 < X.size
        · have d3 : decide ((1000 : Int) < (X.size : Int)) = true := decide_eq_true (by omega)
          have HO := Lib.hid (show false = o by cases o with
            | false => rfl
            | true => have := (Hm.out rfl).1; have := Hsz.out; omega)
          clear ho h0 h1 h3
          go_enter Tryd.func21, Tryd.ntmps21
          go_wp2_with (rw [← W0.out])
          go_ret
          exact ⟨by rw [← HO.out]; rfl, B0.out⟩
        · have d3 : decide ((1000 : Int) < (X.size : Int)) = false := decide_eq_false (by omega)
          have HO := Lib.hid (show (n == 0) = o by
            rw [ho, if_neg (by omega), if_pos rfl, decide_eq_true (by have := Hsz.out; omega), Bool.and_true])
          clear ho h0 h1 h3
          go_enter Tryd.func21, Tryd.ntmps21
          go_wp2_with (rw [← W0.out])
          go_ret
          exact ⟨by rw [← HO.out]; rfl, B0.out⟩
      · have d2 : (op == 1) = false := beq_eq_false_iff_ne.2 h2
        have d2' : (op != 1) = true := by rw [bne, d2]; rfl
        by_cases he : s = []
        · have e1 : X.toList.isEmpty = true := by rw [Hse.out]; exact beq_iff_eq.2 he
          have e3 : decide ((1000 : Int) < (X.size : Int)) = false := decide_eq_false (by have := Hsz.out; rw [he, List.length_nil] at this; omega)
          have hz : (s == []) = true := beq_iff_eq.2 he
          rw [hz] at ho
          by_cases h3 : op = 0
          · subst h3
            have HO := Lib.hid (show true = o by rw [ho, if_pos rfl])
            clear ho h0 h1 h2
            go_enter Tryd.func21, Tryd.ntmps21
            go_wp2_with (rw [← W0.out])
            go_ret
            exact ⟨by rw [← HO.out]; rfl, B0.out⟩
          · have d3 : (op == 0) = false := beq_eq_false_iff_ne.2 h3
            by_cases h4 : op = 2
            · subst h4
              by_cases hn : 0 ≤ n
              · have f1 : decide (0 ≤ n) = true := decide_eq_true hn
                by_cases hnn : n ≤ 49
                · have f2 : decide (n ≤ 49) = true := decide_eq_true hnn
                  have HO := Lib.hid (show true = o by rw [ho, if_neg (by omega), if_neg (by omega), if_pos rfl, f1, decide_eq_true (by omega)]; rfl)
                  clear ho h0 h1 h2 h3 hn hnn
                  go_enter Tryd.func21, Tryd.ntmps21
                  go_wp2_with (rw [← W0.out])
                  go_ret
                  exact ⟨by rw [← HO.out]; rfl, B0.out⟩
                · have f2 : decide (n ≤ 49) = false := decide_eq_false hnn
                  have HO := Lib.hid (show false = o by rw [ho, if_neg (by omega), if_neg (by omega), if_pos rfl, decide_eq_false (show ¬ n < 50 by omega)]; simp)
                  clear ho h0 h1 h2 h3 hn hnn
                  go_enter Tryd.func21, Tryd.ntmps21
                  go_wp2_with (rw [← W0.out])
                  go_ret
                  exact ⟨by rw [← HO.out]; rfl, B0.out⟩
              · have f1 : decide (0 ≤ n) = false := decide_eq_false hn
                have HO := Lib.hid (show false = o by rw [ho, if_neg (by omega), if_neg (by omega), if_pos rfl, f1]; rfl)
                clear ho h0 h1 h2 h3 hn
                go_enter Tryd.func21, Tryd.ntmps21
                go_wp2_with (rw [← W0.out])
                go_ret
                exact ⟨by rw [← HO.out]; rfl, B0.out⟩
            · have d4 : (op == 2) = false := beq_eq_false_iff_ne.2 h4
              have d4' : (op != 2) = true := by rw [bne, d4]; rfl
              have HO := Lib.hid (show (n == 0) = o by
                rw [ho, if_neg h3, if_neg h2, if_neg h4, decide_eq_true (by omega), decide_eq_true (by omega)]; simp)
              clear ho h0 h1 h2 h3 h4
              go_enter Tryd.func21, Tryd.ntmps21
              go_wp2_with (rw [← W0.out])
              go_ret
              exact ⟨by rw [← HO.out]; rfl, B0.out⟩
        · have e1 : X.toList.isEmpty = false := by rw [Hse.out]; exact beq_eq_false_iff_ne.2 he
          have HO := Lib.hid (show false = o by cases o with
            | false => rfl
            | true => exact absurd ((Hm.out rfl).2 h2) he)
          clear ho h0 h1 h2 he
          go_enter Tryd.func21, Tryd.ntmps21
          go_wp2_with (rw [← W0.out])
          go_ret
          exact ⟨by rw [← HO.out]; rfl, B0.out⟩
end Go.Proofs.YthkjhenaicbepaaDoor
