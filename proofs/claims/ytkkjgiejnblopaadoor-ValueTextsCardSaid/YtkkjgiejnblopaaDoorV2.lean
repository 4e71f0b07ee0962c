/-
  The document's yes, Is, Compare, div, slice.
-/
import Derived.Test.YtkkjgiejnblopaaDoorV1
namespace Go.Proofs.YtkkjgiejnblopaaDoor
open Go.RowKit Vl

theorem num_p (n : Int) (w : World) : Calls Tryd.prog 50 #[.int .i64 n] w (RetV w (.agg #[.bool false, .int .i64 n, .string ⟨#[]⟩])) := num_c n w
theorem text_p (s : List UInt8) (hs : s.length ≤ 1000000) (w : World) : Calls Tryd.prog 53 #[st s] w (RetV w (.agg #[.bool true, .int .i64 0, .string ⟨(s.take 1000).toArray⟩])) := text_c s hs w
set_option maxRecDepth 100000 in
theorem yes_c (b : Bool) (w : World) : Calls Tryd.prog 51 #[.bool b] w (RetV w (vv (yes b))) := by
  obtain ⟨w0, hw0⟩ : ∃ w0, w0 = w.alloc (.cells #[.bool false, .int .i64 0, .string ⟨#[]⟩] 27) := ⟨_, rfl⟩
  have b0 : Below w.heap.size w w0 := by rw [hw0]; exact (Below.refl _ _).alloc (Nat.le_refl _) _
  have x0 : Bx w0 w.heap.size (.bool false) (.int .i64 0) (.string ⟨#[]⟩) := by rw [hw0]; exact Bx.made _ _ _ _ _
  have W0 := Lib.hid hw0; have B0 := Lib.hid b0; have X0 := Lib.hid x0
  clear hw0 b0 x0
  cases b
  all_goals
    go_enter Tryd.func51, Tryd.ntmps51
    go_wp2_with (rw [← W0.out])
    refine (num_p _ _).mono ?_
    rintro e w1 ⟨rfl, b1⟩
    have x1 := X0.out.below b1 X0.out.lt
    have B1 := Lib.hid (B0.out.trans (b1.mono B0.out.size))
    have X1 := Lib.hid x1
    obtain ⟨c0, c1, c2, f0, f1, f2, hlt⟩ := x1
    clear b1
    go_wp2
    change bodyPost _ _ _ _ _ (put3 w1 w.heap.size _ _ _)
    have s0 := fun v0 v1 v2 => (put3_box X1.out v0 v1 v2).c0
    have s1 := fun v0 v1 v2 => (put3_box X1.out v0 v1 v2).c1
    have s2 := fun v0 v1 v2 => (put3_box X1.out v0 v1 v2).c2
    refine bodyPost_ret (v := vv (yes _)) ?_ rfl ⟨rfl, B1.out.trans (put3_below _ _ _ _ _)⟩
    simp [results, Tryd.results51, go_sem, s0, s1, s2, yes, num]

set_option maxRecDepth 100000 in
theorem is_c (v : V) (w : World) : Calls Tryd.prog 16 #[vv v] w (RetV w (.bool (isV v))) := by
  obtain ⟨t, n, s⟩ := v
  obtain ⟨o, ho⟩ : ∃ o, o = isV ⟨t, n, s⟩ := ⟨_, rfl⟩
  rw [← ho]
  unfold isV at ho
  dsimp only at ho ⊢
  cases t
  · obtain ⟨w0, hw0⟩ : ∃ w0, w0 = w.alloc (.cells #[.bool false, .int .i64 n, .string ⟨s.toArray⟩] 27) := ⟨_, rfl⟩
    have b0 : Below w.heap.size w w0 := by rw [hw0]; exact (Below.refl _ _).alloc (Nat.le_refl _) _
    have x0 : Bx w0 w.heap.size (.bool false) (.int .i64 n) (.string ⟨s.toArray⟩) := by rw [hw0]; exact Bx.made _ _ _ _ _
    have W0 := Lib.hid hw0; have B0 := Lib.hid b0
    obtain ⟨c0, c1, c2, -, -, -, -⟩ := x0
    have d1 : s.isEmpty = o := by rw [ho]; cases s <;> rfl
    clear ho hw0 b0
    go_enter Tryd.func16, Tryd.ntmps16
    go_wp2_with (rw [← W0.out])
    go_ret
    exact ⟨by first | rfl | simp [← d1], B0.out⟩
  · obtain ⟨X, hX⟩ : ∃ X : ByteArray, X = ⟨s.toArray⟩ := ⟨_, rfl⟩
    have hXs : X.size = s.length := by rw [hX]; rfl
    show Calls _ _ #[.agg #[.bool true, .int .i64 n, .string ⟨s.toArray⟩]] _ _
    rw [← hX]
    obtain ⟨w0, hw0⟩ : ∃ w0, w0 = w.alloc (.cells #[.bool true, .int .i64 n, .string X] 27) := ⟨_, rfl⟩
    have b0 : Below w.heap.size w w0 := by rw [hw0]; exact (Below.refl _ _).alloc (Nat.le_refl _) _
    have x0 : Bx w0 w.heap.size (.bool true) (.int .i64 n) (.string X) := by rw [hw0]; exact Bx.made _ _ _ _ _
    have W0 := Lib.hid hw0; have B0 := Lib.hid b0
    obtain ⟨c0, c1, c2, -, -, -, -⟩ := x0
    clear hw0 b0
    rw [if_pos rfl] at ho
    by_cases hn : n = 0
    · subst hn
      have d2 : decide (X.size ≤ 1000) = o := by rw [hXs, ho]; rfl
      clear ho hX hXs
      go_enter Tryd.func16, Tryd.ntmps16
      go_wp2_with (rw [← W0.out])
      go_ret
      exact ⟨by rw [← d2]; simp; omega, B0.out⟩
    · have d1 : (n == 0) = false := by simpa using hn
      have hof : o = false := by rw [ho, d1]; rfl
      subst hof
      clear ho hX hXs
      go_enter Tryd.func16, Tryd.ntmps16
      go_wp2_with (rw [← W0.out])
      go_ret
      exact ⟨rfl, B0.out⟩
end Go.Proofs.YtkkjgiejnblopaaDoor
