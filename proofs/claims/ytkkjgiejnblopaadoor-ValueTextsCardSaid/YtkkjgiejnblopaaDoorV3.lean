/-
  The document's Compare, div, slice.
-/
import Derived.Test.YtkkjgiejnblopaaDoorV2
namespace Go.Proofs.YtkkjgiejnblopaaDoor
open Go.RowKit Vl

set_option maxRecDepth 100000 in
set_option maxHeartbeats 1000000 in
theorem compare_c (a b : V) (w : World) : Calls Tryd.prog 52 #[vv a, vv b] w (RetV w (.int .i64 (cmp a b))) := by
  obtain ⟨t, n, s⟩ := a
  obtain ⟨t', n', s'⟩ := b
  obtain ⟨o, ho⟩ : ∃ o, o = cmp ⟨t, n, s⟩ ⟨t', n', s'⟩ := ⟨_, rfl⟩
  rw [← ho]
  unfold cmp at ho
  dsimp only at ho ⊢
  obtain ⟨w0, hw0⟩ : ∃ w0, w0 = w.alloc (.cells #[.bool t, .int .i64 n, .string ⟨s.toArray⟩] 27) := ⟨_, rfl⟩
  have z0 : w0.heap.size = w.heap.size + 1 := by rw [hw0]; simp
  have b0 : Below w.heap.size w w0 := by rw [hw0]; exact (Below.refl _ _).alloc (Nat.le_refl _) _
  have x0 : Bx w0 w.heap.size (.bool t) (.int .i64 n) (.string ⟨s.toArray⟩) := by rw [hw0]; exact Bx.made _ _ _ _ _
  obtain ⟨w1, hw1⟩ : ∃ w1, w1 = w0.alloc (.cells #[.bool t', .int .i64 n', .string ⟨s'.toArray⟩] 27) := ⟨_, rfl⟩
  have b01 : Below w0.heap.size w0 w1 := by rw [hw1]; exact (Below.refl _ _).alloc (Nat.le_refl _) _
  have y1 : Bx w1 w0.heap.size (.bool t') (.int .i64 n') (.string ⟨s'.toArray⟩) := by rw [hw1]; exact Bx.made _ _ _ _ _
  rw [z0] at y1
  have x1 := x0.below b01 x0.lt
  have b1 := b0.trans (b01.mono (by omega))
  have W0 := Lib.hid hw0; have W1 := Lib.hid hw1; have Z0 := Lib.hid z0; have B1 := Lib.hid b1
  obtain ⟨c0, c1, c2, -, -, -, -⟩ := x1
  obtain ⟨e0, e1, e2, -, -, -, -⟩ := y1
  clear hw0 hw1 z0 b0 x0 b01 b1
  by_cases ht : t = t'
  · subst ht
    rw [if_neg (by simp)] at ho
    by_cases h1 : n < n'
    · have d1 : decide (n < n') = true := decide_eq_true h1
      rw [if_pos (.inl h1)] at ho
      subst ho
      cases t
      all_goals
        go_enter Tryd.func52, Tryd.ntmps52
        go_wp2_with (first | rw [← W0.out, ← W1.out, Z0.out] | rw [← W0.out, ← W1.out])
        go_ret
        exact ⟨rfl, B1.out⟩
    · have d1 : decide (n < n') = false := decide_eq_false h1
      by_cases h2 : n = n'
      · subst h2
        by_cases h3 : Go.Op.bytesLess s s' = true
        · rw [if_pos (.inr ⟨rfl, h3⟩)] at ho
          subst ho
          clear h1
          cases t
          all_goals
            go_enter Tryd.func52, Tryd.ntmps52
            go_wp2_with (first | rw [← W0.out, ← W1.out, Z0.out] | rw [← W0.out, ← W1.out])
            go_ret
            exact ⟨rfl, B1.out⟩
        · have h3' : Go.Op.bytesLess s s' = false := by simpa using h3
          rw [if_neg (by rintro (q | ⟨_, q⟩); exact h1 q; exact h3 q)] at ho
          clear h3 h1
          by_cases h4 : s = s'
          · subst h4
            rw [if_pos ⟨rfl, rfl⟩] at ho
            subst ho
            cases t
            all_goals
              go_enter Tryd.func52, Tryd.ntmps52
              go_wp2_with (first | rw [← W0.out, ← W1.out, Z0.out] | rw [← W0.out, ← W1.out])
              go_ret
              exact ⟨rfl, B1.out⟩
          · rw [if_neg (fun q => h4 q.2)] at ho
            have d4 : (s == s') = false := beq_eq_false_iff_ne.2 h4
            subst ho
            clear h4
            cases t
            all_goals
              go_enter Tryd.func52, Tryd.ntmps52
              go_wp2_with (first | rw [← W0.out, ← W1.out, Z0.out] | rw [← W0.out, ← W1.out])
              go_ret
              exact ⟨rfl, B1.out⟩
      · have d2 : (n == n') = false := beq_eq_false_iff_ne.2 h2
        rw [if_neg (by rintro (q | ⟨q, _⟩); exact h1 q; exact h2 q), if_neg (fun q => h2 q.1)] at ho
        subst ho
        clear h2 h1
        cases t
        all_goals
          go_enter Tryd.func52, Tryd.ntmps52
          go_wp2_with (first | rw [← W0.out, ← W1.out, Z0.out] | rw [← W0.out, ← W1.out])
          go_ret
          exact ⟨rfl, B1.out⟩
  · rw [if_pos ht] at ho
    cases t <;> cases t' <;> first | exact absurd rfl ht | skip
    all_goals
      simp at ho
      subst ho
      clear ht
      go_enter Tryd.func52, Tryd.ntmps52
      go_wp2_with (first | rw [← W0.out, ← W1.out, Z0.out] | rw [← W0.out, ← W1.out])
      go_ret
      exact ⟨rfl, B1.out⟩

set_option maxRecDepth 100000 in
theorem div_c (a b : Int) (ha : I a) (hb : I b) (w : World) : Calls Tryd.prog 49 #[.int .i64 a, .int .i64 b] w fun e w' => e = .returned (.tuple #[.int .i64 (dv a b).1, .int .i64 (dv a b).2]) ∧ ∃ k, w' = w.drewN k := by
  obtain ⟨q, hq⟩ : ∃ q, q = dv a b := ⟨_, rfl⟩
  rw [← hq]
  unfold dv at hq
  by_cases h0 : b = 0
  · subst h0
    rw [if_pos rfl] at hq
    subst hq
    go_enter Tryd.func49, Tryd.ntmps49
    go_wp2
    go_ret2
    exact ⟨rfl, 0, rfl⟩
  · have d0 : (b == 0) = false := beq_eq_false_iff_ne.2 h0
    rw [if_neg h0] at hq
    by_cases h1 : b = -1
    · subst h1
      rw [if_pos rfl] at hq
      subst hq
      rw [show w64 (-a) = RowKit.wrap64 (-a) from IntWalk.i64_left _]
      go_enter Tryd.func49, Tryd.ntmps49
      go_wp2
      go_ret2
      exact ⟨rfl, 0, rfl⟩
    · have d1 : (b == -1) = false := beq_eq_false_iff_ne.2 h1
      rw [if_neg h1] at hq
      subst hq
      have e1 : IntKind.i64.wrap (a.tdiv b) = a.tdiv b := by
        refine w64_in ?_
        by_cases hb1 : b = 1
        · subst hb1; rw [Int.tdiv_one]; exact ha
        have h2 : (a.tdiv b).natAbs ≤ a.natAbs := by rw [Int.natAbs_tdiv]; exact Nat.div_le_self _ _
        have h3 : a = -9223372036854775808 → (a.tdiv b).natAbs ≤ 4611686018427387904 := fun e => by
          rw [Int.natAbs_tdiv, e]
          have h4 : 2 ≤ b.natAbs := by omega
          exact Nat.le_trans (Nat.div_le_div_left h4 (by omega)) (by decide)
        by_cases h5 : a = -9223372036854775808
        · have h6 := h3 h5
          unfold I
          omega
        · unfold I at ha ⊢
          omega
      have e2 : IntKind.i64.wrap (a.tmod b) = a.tmod b := by
        refine w64_in ?_
        have h2 : (a.tmod b).natAbs ≤ a.natAbs := by rw [Int.natAbs_tmod]; exact Nat.mod_le _ _
        have h3 : (a.tmod b).natAbs < b.natAbs := by rw [Int.natAbs_tmod]; exact Nat.mod_lt _ (by omega)
        unfold I at ha hb ⊢
        omega
      rw [IntWalk.i64_left] at e1 e2
      clear ha hb h1
      go_enter Tryd.func49, Tryd.ntmps49
      go_wp2_with fail
      go_quiet (fail)
      go_wp2
      go_ret2
      refine ⟨?_, _, rfl⟩
      show Ending.returned (.tuple #[.int .i64 (RowKit.wrap64 _), .int .i64 _]) = _
      rw [e1]
end Go.Proofs.YtkkjgiejnblopaaDoor
