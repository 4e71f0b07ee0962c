/-
  The program's Num, Text, truth, kindOf, isValue, cmp.Compare, Compare, Hash.
-/
import Derived.Test.YtkkjgiejnblopaaDoorV4
namespace Go.Proofs.YtkkjgiejnblopaaDoor
open Go.RowKit Vl

set_option maxRecDepth 100000 in
theorem pnum_c (n : Int) (w : World) : Calls Tryd.prog 17 #[.int .i64 n] w (RetV w (.agg #[.bool false, .int .i64 n, .string ⟨#[]⟩])) := by
  go_enter Tryd.func17, Tryd.ntmps17
  go_wp2
  refine bodyPost_ret (v := .agg #[.bool false, .int .i64 n, .string ⟨#[]⟩]) ?_ rfl ⟨rfl, (Below.refl _ _).alloc (Nat.le_refl _) _⟩
  simp [results, Tryd.results17, go_sem]
set_option maxRecDepth 100000 in
theorem ptext_c (s : List UInt8) (hs : s.length ≤ 1000000) (w : World) : Calls Tryd.prog 18 #[st s] w (RetV w (.agg #[.bool true, .int .i64 0, .string ⟨(s.take 1000).toArray⟩])) := by
  obtain ⟨X, hX⟩ : ∃ X : ByteArray, X = ⟨s.toArray⟩ := ⟨_, rfl⟩
  have hXs : X.size = s.length := by rw [hX]; rfl
  obtain ⟨q, hq⟩ : ∃ q, q = min s.length 1000 := ⟨_, rfl⟩
  have ht : s.take q = s.take 1000 := by
    rcases Nat.le_total s.length 1000 with h | h
    · rw [List.take_of_length_le (by omega), List.take_of_length_le h]
    · rw [show q = 1000 by omega]
  have e1 : X.extract 0 q = ⟨(s.take 1000).toArray⟩ := by rw [hX, ext_eq, List.drop_zero, ht]
  have e2 : min (X.size : Int) 1000 = (q : Int) := by omega
  have e3 : q ≤ X.size := by omega
  have E1 := Lib.hid e1
  show Calls _ _ #[.string ⟨s.toArray⟩] _ _
  rw [← hX]
  clear hq e1 hs hXs hX ht
  go_enter Tryd.func18, Tryd.ntmps18
  go_wp2
  refine bodyPost_ret (v := .agg #[.bool true, .int .i64 0, .string ⟨(s.take 1000).toArray⟩]) ?_ rfl ⟨rfl, (Below.refl _ _).alloc (Nat.le_refl _) _⟩
  simp [results, Tryd.results18, go_sem, E1.out]

set_option maxRecDepth 100000 in
theorem truth_c (b : Bool) (w : World) : Calls Tryd.prog 65 #[.bool b] w (RetV w (vv (yes b))) := by
  obtain ⟨w0, hw0⟩ : ∃ w0, w0 = w.alloc (.cells #[.bool false, .int .i64 0, .string ⟨#[]⟩] 27) := ⟨_, rfl⟩
  have b0 : Below w.heap.size w w0 := by rw [hw0]; exact (Below.refl _ _).alloc (Nat.le_refl _) _
  have x0 : Bx w0 w.heap.size (.bool false) (.int .i64 0) (.string ⟨#[]⟩) := by rw [hw0]; exact Bx.made _ _ _ _ _
  have W0 := Lib.hid hw0; have B0 := Lib.hid b0; have X0 := Lib.hid x0
  clear hw0 b0 x0
  cases b
  all_goals
    go_enter Tryd.func65, Tryd.ntmps65
    go_wp2_with (rw [← W0.out])
    refine (pnum_c _ _).mono ?_
    rintro e w1 ⟨rfl, b1⟩
    have x1 := X0.out.below b1 X0.out.lt
    have B1 := Lib.hid (B0.out.trans (b1.mono B0.out.size))
    have X1 := Lib.hid x1
    obtain ⟨c0, c1, c2, f0, f1, f2, hlt⟩ := x1
    clear b1
    go_wp2
    change bodyPost _ _ _ _ _ (put3 w1 w.heap.size _ _ _)
    have s0 := fun v0 v1 v2 => (put3_box X1.out v0 v1 v2).c0
    have s1 := fun v0 v1 v2 => (put3_box X1.out v0 v1 v2).c1
    have s2 := fun v0 v1 v2 => (put3_box X1.out v0 v1 v2).c2
    refine bodyPost_ret (v := vv (yes _)) ?_ rfl ⟨rfl, B1.out.trans (put3_below _ _ _ _ _)⟩
    simp [results, Tryd.results65, go_sem, s0, s1, s2, yes, num]

theorem kindOf_c (b : Bool) (w : World) : Calls Tryd.prog 60 #[.bool b] w fun e w' => e = .returned (.int .u8 (if b then 2 else 1)) ∧ w' = w := by
  cases b
  all_goals
    go_enter Tryd.func60, Tryd.ntmps60
    go_wp2
    go_ret
    exact ⟨rfl, rfl⟩

set_option maxRecDepth 100000 in
theorem isValue_c (v : V) (w : World) : Calls Tryd.prog 21 #[vv v] w (RetV w (.bool (isV v))) := by
  obtain ⟨t, n, s⟩ := v
  obtain ⟨o, ho⟩ : ∃ o, o = isV ⟨t, n, s⟩ := ⟨_, rfl⟩
  rw [← ho]
  unfold isV at ho
  dsimp only at ho ⊢
  cases t
  · obtain ⟨w0, hw0⟩ : ∃ w0, w0 = w.alloc (.cells #[.bool false, .int .i64 n, .string ⟨s.toArray⟩] 27) := ⟨_, rfl⟩
    have b0 : Below w.heap.size w w0 := by rw [hw0]; exact (Below.refl _ _).alloc (Nat.le_refl _) _
    have x0 : Bx w0 w.heap.size (.bool false) (.int .i64 n) (.string ⟨s.toArray⟩) := by rw [hw0]; exact Bx.made _ _ _ _ _
    have W0 := Lib.hid hw0; have B0 := Lib.hid b0
    obtain ⟨c0, c1, c2, -, -, -, -⟩ := x0
    have d1 : s.isEmpty = o := by rw [ho]; cases s <;> rfl
    clear ho hw0 b0
    go_enter Tryd.func21, Tryd.ntmps21
    go_wp2_with (rw [← W0.out])
    go_ret
    exact ⟨by first | rfl | simp [← d1], B0.out⟩
  · obtain ⟨X, hX⟩ : ∃ X : ByteArray, X = ⟨s.toArray⟩ := ⟨_, rfl⟩
    have hXs : X.size = s.length := by rw [hX]; rfl
    show Calls _ _ #[.agg #[.bool true, .int .i64 n, .string ⟨s.toArray⟩]] _ _
    rw [← hX]
    obtain ⟨w0, hw0⟩ : ∃ w0, w0 = w.alloc (.cells #[.bool true, .int .i64 n, .string X] 27) := ⟨_, rfl⟩
    have b0 : Below w.heap.size w w0 := by rw [hw0]; exact (Below.refl _ _).alloc (Nat.le_refl _) _
    have x0 : Bx w0 w.heap.size (.bool true) (.int .i64 n) (.string X) := by rw [hw0]; exact Bx.made _ _ _ _ _
    have W0 := Lib.hid hw0; have B0 := Lib.hid b0
    obtain ⟨c0, c1, c2, -, -, -, -⟩ := x0
    clear hw0 b0
    rw [if_pos rfl] at ho
    by_cases hn : n = 0
    · subst hn
      have d2 : decide (X.size ≤ 1000) = o := by rw [hXs, ho]; rfl
      clear ho hX hXs
      go_enter Tryd.func21, Tryd.ntmps21
      go_wp2_with (rw [← W0.out])
      go_ret
      exact ⟨by rw [← d2]; simp; omega, B0.out⟩
    · have d1 : (n == 0) = false := by simpa using hn
      have hof : o = false := by rw [ho, d1]; rfl
      subst hof
      clear ho hX hXs
      go_enter Tryd.func21, Tryd.ntmps21
      go_wp2_with (rw [← W0.out])
      go_ret
      exact ⟨rfl, B0.out⟩

def scmp (s t : List UInt8) : Int := if Go.Op.bytesLess s t = true then -1 else if Go.Op.bytesLess t s = true then 1 else 0
def icmp (a b : Int) : Int := if a < b then -1 else if b < a then 1 else 0
set_option maxRecDepth 100000 in
theorem scmp_c (s t : List UInt8) (w : World) : Calls Tryd.prog 29 #[st s, st t] w fun e w' => e = .returned (.int .i64 (scmp s t)) ∧ w' = w := by
  unfold scmp
  cases h1 : Go.Op.bytesLess s t with
  | true =>
    rw [if_pos rfl]
    go_enter Tryd.func29, Tryd.ntmps29
    go_wp2
    go_ret
    exact ⟨rfl, rfl⟩
  | false =>
    rw [if_neg (by decide)]
    by_cases h3 : s = t
    · subst h3
      rw [h1, if_neg (by decide)]
      have d3 : (s == s) = true := beq_iff_eq.2 rfl
      go_enter Tryd.func29, Tryd.ntmps29
      go_wp2
      go_ret
      exact ⟨rfl, rfl⟩
    · have h2 : Go.Op.bytesLess t s = true := by
        rcases less_tri s t with h | h | h
        · rw [h1] at h; cases h
        · exact absurd h h3
        · exact h
      rw [if_pos h2]
      have d3 : (s == t) = false := beq_eq_false_iff_ne.2 h3
      clear h3 h2
      go_enter Tryd.func29, Tryd.ntmps29
      go_wp2
      go_ret
      exact ⟨rfl, rfl⟩
set_option maxRecDepth 100000 in
theorem icmp_c (a b : Int) (w : World) : Calls Tryd.prog 30 #[.int .i64 a, .int .i64 b] w fun e w' => e = .returned (.int .i64 (icmp a b)) ∧ w' = w := by
  unfold icmp
  by_cases h1 : a < b
  · rw [if_pos h1]
    have d1 : decide (a < b) = true := decide_eq_true h1
    clear h1
    go_enter Tryd.func30, Tryd.ntmps30
    go_wp2
    go_ret
    exact ⟨rfl, rfl⟩
  · rw [if_neg h1]
    have d1 : decide (a < b) = false := decide_eq_false h1
    by_cases h2 : b < a
    · rw [if_pos h2]
      have d2 : decide (b < a) = true := decide_eq_true h2
      clear h1 h2
      go_enter Tryd.func30, Tryd.ntmps30
      go_wp2
      go_ret
      exact ⟨rfl, rfl⟩
    · rw [if_neg h2]
      have d2 : decide (b < a) = false := decide_eq_false h2
      clear h1 h2
      go_enter Tryd.func30, Tryd.ntmps30
      go_wp2
      go_ret
      exact ⟨rfl, rfl⟩
theorem cmp_tt (n : Int) (s t : List UInt8) : cmp ⟨true, n, s⟩ ⟨true, n, t⟩ = scmp s t := by
  unfold cmp scmp
  rw [if_neg (by simp)]
  dsimp only
  cases h1 : Go.Op.bytesLess s t with
  | true => rw [if_pos (.inr ⟨rfl, rfl⟩), if_pos rfl]
  | false =>
    rw [if_neg (by rintro (q | ⟨-, q⟩) <;> first | omega | cases q)]
    rcases less_tri s t with h | h | h
    · rw [h1] at h; cases h
    · subst h; rw [if_pos ⟨rfl, rfl⟩, h1]; rfl
    · have hst : s ≠ t := by rintro rfl; rw [less_irrefl] at h; cases h
      rw [if_neg (fun q => hst q.2), h, if_neg (by decide), if_pos rfl]
theorem cmp_nn (a b : Int) (s : List UInt8) : cmp ⟨false, a, s⟩ ⟨false, b, s⟩ = icmp a b := by
  unfold cmp icmp
  rw [if_neg (by simp)]
  dsimp only
  by_cases h : a < b
  · rw [if_pos (.inl h), if_pos h]
  · rw [if_neg (by rintro (q | ⟨-, q⟩); exact h q; rw [less_irrefl] at q; cases q), if_neg h]
    by_cases h2 : a = b
    · subst h2; rw [if_pos ⟨rfl, rfl⟩, if_neg h]
    · rw [if_neg (fun q => h2 q.1), if_pos (by omega)]

set_option maxRecDepth 100000 in
set_option maxHeartbeats 1000000 in
theorem pcompare_c (a b : V) (w : World) (ha : isV a = true) (hb : isV b = true) : Calls Tryd.prog 19 #[vv a, vv b] w (RetV w (.int .i64 (cmp a b))) := by
  obtain ⟨t, n, s⟩ := a
  obtain ⟨t', n', s'⟩ := b
  obtain ⟨o, ho⟩ : ∃ o, o = cmp ⟨t, n, s⟩ ⟨t', n', s'⟩ := ⟨_, rfl⟩
  rw [← ho]
  obtain ⟨w0, hw0⟩ : ∃ w0, w0 = w.alloc (.cells #[.bool t, .int .i64 n, .string ⟨s.toArray⟩] 27) := ⟨_, rfl⟩
  have z0 : w0.heap.size = w.heap.size + 1 := by rw [hw0]; simp
  have b0 : Below w.heap.size w w0 := by rw [hw0]; exact (Below.refl _ _).alloc (Nat.le_refl _) _
  have x0 : Bx w0 w.heap.size (.bool t) (.int .i64 n) (.string ⟨s.toArray⟩) := by rw [hw0]; exact Bx.made _ _ _ _ _
  obtain ⟨w1, hw1⟩ : ∃ w1, w1 = w0.alloc (.cells #[.bool t', .int .i64 n', .string ⟨s'.toArray⟩] 27) := ⟨_, rfl⟩
  have b01 : Below w0.heap.size w0 w1 := by rw [hw1]; exact (Below.refl _ _).alloc (Nat.le_refl _) _
  have y1 : Bx w1 w0.heap.size (.bool t') (.int .i64 n') (.string ⟨s'.toArray⟩) := by rw [hw1]; exact Bx.made _ _ _ _ _
  rw [z0] at y1
  have x1 := x0.below b01 x0.lt
  have b1 := b0.trans (b01.mono (by omega))
  have W0 := Lib.hid hw0; have W1 := Lib.hid hw1; have Z0 := Lib.hid z0; have B1 := Lib.hid b1
  obtain ⟨c0, c1, c2, -, -, -, -⟩ := x1
  obtain ⟨e0, e1, e2, -, -, -, -⟩ := y1
  clear hw0 hw1 z0 b0 x0 b01 b1
  cases t <;> cases t'
  · have k1 := isV_number ha rfl
    have k2 := isV_number hb rfl
    dsimp only at k1 k2
    subst k1 k2
    rw [cmp_nn] at ho
    have hc := fun W => icmp_c n n' W
    rw [← ho] at hc
    have Hc := Lib.hid hc
    clear hc ho ha hb
    go_enter Tryd.func19, Tryd.ntmps19
    go_wp2_with (first | rw [← W0.out, ← W1.out, Z0.out] | rw [← W0.out, ← W1.out])
    refine (Hc.out _).mono ?_
    rintro e w2 ⟨rfl, rfl⟩
    go_wp2
    go_ret
    exact ⟨rfl, B1.out⟩
  · obtain rfl : o = -1 := by rw [ho]; unfold cmp; rw [if_pos (by simp), if_pos rfl]
    clear ho ha hb
    go_enter Tryd.func19, Tryd.ntmps19
    go_wp2_with (first | rw [← W0.out, ← W1.out, Z0.out] | rw [← W0.out, ← W1.out])
    go_ret
    exact ⟨rfl, B1.out⟩
  · obtain rfl : o = 1 := by rw [ho]; unfold cmp; rw [if_pos (by simp), if_neg (by simp)]
    clear ho ha hb
    go_enter Tryd.func19, Tryd.ntmps19
    go_wp2_with (first | rw [← W0.out, ← W1.out, Z0.out] | rw [← W0.out, ← W1.out])
    go_ret
    exact ⟨rfl, B1.out⟩
  · have k1 := (isV_text ha rfl).1
    have k2 := (isV_text hb rfl).1
    dsimp only at k1 k2
    subst k1 k2
    rw [cmp_tt] at ho
    have hc := fun W => scmp_c s s' W
    rw [← ho] at hc
    have Hc := Lib.hid hc
    clear hc ho ha hb
    go_enter Tryd.func19, Tryd.ntmps19
    go_wp2_with (first | rw [← W0.out, ← W1.out, Z0.out] | rw [← W0.out, ← W1.out])
    refine (Hc.out _).mono ?_
    rintro e w2 ⟨rfl, rfl⟩
    go_wp2
    go_ret
    exact ⟨rfl, B1.out⟩
end Go.Proofs.YtkkjgiejnblopaaDoor
