/-
  Joined: V1 V2 V3 V4 PA V5 V6 V7 V8 V9 VA VB VC VD.
-/
import Derived.Test.YtoalncojijmelaaGreatDoorJ2
import Derived.Test.YtoalncojijmelaaGreatDoorJ3
import Derived.Test.YtoalncojijmelaaGreatDoorProg
import Derived.Lib.Hide
import Derived.Lib.MinMax
import Derived.BigQuiet
import Derived.Deep.QuietTactic
import Derived.Test.YtoalncojijmelaaGreatDoorJ7
/-
  Values in memory; the document's clip, Num, Text, yes, Is.
-/
namespace Go.Proofs.YtoalncojijmelaaGreatDoor
open Go.RowKit Vl

theorem ext_eq (l : List UInt8) (a b : Nat) : (ByteArray.mk l.toArray).extract a b = ByteArray.mk ((l.take b).drop a).toArray := by
  have h : ((ByteArray.mk l.toArray).extract a b).data.toList = ((l.take b).drop a) := by
    simp [ByteArray.data_extract, List.extract_eq_take_drop, List.drop_take]
  cases h2 : (ByteArray.mk l.toArray).extract a b with
  | mk x => rw [h2] at h; rw [← h]
/-- A text as a value of the model's. -/
abbrev st (s : List UInt8) : Value := .string ⟨s.toArray⟩
abbrev vv (v : V) : Value := .agg #[.bool v.t, .int .i64 v.n, st v.s]

/-- A block of three cells. -/
structure Bx (w : World) (g : Nat) (v0 v1 v2 : Value) : Prop where
  c0 : w.cell? ⟨g, 0, none⟩ = some v0
  c1 : w.cell? ⟨g, 1, none⟩ = some v1
  c2 : w.cell? ⟨g, 2, none⟩ = some v2
  f0 : w.frozen? ⟨g, 0, none⟩ = false
  f1 : w.frozen? ⟨g, 1, none⟩ = false
  f2 : w.frozen? ⟨g, 2, none⟩ = false
  lt : g < w.heap.size
theorem Bx.made (w : World) (T : TypeId) (v0 v1 v2 : Value) : Bx (w.alloc (.cells #[v0, v1, v2] T)) w.heap.size v0 v1 v2 := ⟨by simp, by simp, by simp, by simp, by simp, by simp, by simp⟩
theorem Bx.keep {w w' : World} {g : Nat} {v0 v1 v2 : Value} (h : Bx w g v0 v1 v2) (hs : w.heap.size ≤ w'.heap.size) (hg : w'.heap[g]? = w.heap[g]?) : Bx w' g v0 v1 v2 := by
  have c : ∀ k, w'.cell? ⟨g, k, none⟩ = w.cell? ⟨g, k, none⟩ := fun k => by unfold World.cell?; rw [hg]
  have f : ∀ k, w'.frozen? ⟨g, k, none⟩ = w.frozen? ⟨g, k, none⟩ := fun k => by unfold World.frozen?; rw [hg]
  exact ⟨(c 0).trans h.c0, (c 1).trans h.c1, (c 2).trans h.c2, (f 0).trans h.f0, (f 1).trans h.f1, (f 2).trans h.f2, Nat.lt_of_lt_of_le h.lt hs⟩
theorem Bx.below {w w' : World} {g B : Nat} {v0 v1 v2 : Value} (h : Bx w g v0 v1 v2) (hb : Below B w w') (hg : g < B) : Bx w' g v0 v1 v2 := h.keep hb.size (hb.block g hg)
def put3 (w : World) (g : Nat) (v0 v1 v2 : Value) : World := ((w.setCell ⟨g, 0, none⟩ v0).setCell ⟨g, 1, none⟩ v1).setCell ⟨g, 2, none⟩ v2
theorem put3_below (w : World) (g : Nat) (v0 v1 v2 : Value) : Below g w (put3 w g v0 v1 v2) :=
  (((Below.refl g w).setCell (Nat.le_refl _) _).setCell (Nat.le_refl _) _).setCell (Nat.le_refl _) _
theorem put3_box {w : World} {g : Nat} {a b c : Value} (h : Bx w g a b c) (v0 v1 v2 : Value) : Bx (put3 w g v0 v1 v2) g v0 v1 v2 := by
  unfold put3
  have z : (((w.setCell ⟨g, 0, none⟩ v0).setCell ⟨g, 1, none⟩ v1).setCell ⟨g, 2, none⟩ v2).heap.size = w.heap.size := by simp
  have f : ∀ j, (((w.setCell ⟨g, 0, none⟩ v0).setCell ⟨g, 1, none⟩ v1).setCell ⟨g, 2, none⟩ v2).frozen? ⟨g, j, none⟩ = w.frozen? ⟨g, j, none⟩ := fun j => by simp
  have c0 : (w.setCell ⟨g, 0, none⟩ v0).cell? ⟨g, 0, none⟩ = some v0 := World.cell?_setCell_same w _ _ h.c0
  have c1 : (w.setCell ⟨g, 0, none⟩ v0).cell? ⟨g, 1, none⟩ = some b := (World.cell?_setCell_other w _ _ _ (by simp)).trans h.c1
  have c2 : (w.setCell ⟨g, 0, none⟩ v0).cell? ⟨g, 2, none⟩ = some c := (World.cell?_setCell_other w _ _ _ (by simp)).trans h.c2
  have d0 := (World.cell?_setCell_other (w.setCell ⟨g, 0, none⟩ v0) ⟨g, 1, none⟩ ⟨g, 0, none⟩ v1 (by simp)).trans c0
  have d1 : ((w.setCell ⟨g, 0, none⟩ v0).setCell ⟨g, 1, none⟩ v1).cell? ⟨g, 1, none⟩ = some v1 := World.cell?_setCell_same _ _ _ c1
  have d2 := (World.cell?_setCell_other (w.setCell ⟨g, 0, none⟩ v0) ⟨g, 1, none⟩ ⟨g, 2, none⟩ v1 (by simp)).trans c2
  exact ⟨(World.cell?_setCell_other _ ⟨g, 2, none⟩ ⟨g, 0, none⟩ v2 (by simp)).trans d0, (World.cell?_setCell_other _ ⟨g, 2, none⟩ ⟨g, 1, none⟩ v2 (by simp)).trans d1, World.cell?_setCell_same _ _ _ d2, (f 0).trans h.f0, (f 1).trans h.f1, (f 2).trans h.f2, by rw [z]; exact h.lt⟩
/-- What a call that keeps the blocks below hands over. -/
def RetV (w : World) (v : Value) (e : Ending) (w' : World) : Prop := e = .returned v ∧ Below w.heap.size w w'

set_option maxRecDepth 100000 in
theorem clip_c (s : List UInt8) (hs : s.length ≤ 1000000) (w : World) : Calls Tryz.prog 51 #[st s] w fun e w' => e = .returned (st (s.take 1000)) ∧ w = w' := by
  obtain ⟨X, hX⟩ : ∃ X : ByteArray, X = ⟨s.toArray⟩ := ⟨_, rfl⟩
  have hXs : X.size = s.length := by rw [hX]; rfl
  obtain ⟨q, hq⟩ : ∃ q, q = min s.length 1000 := ⟨_, rfl⟩
  have ht : s.take q = s.take 1000 := by
    rcases Nat.le_total s.length 1000 with h | h
    · rw [List.take_of_length_le (by omega), List.take_of_length_le h]
    · rw [show q = 1000 by omega]
  have e1 : X.extract 0 q = ⟨(s.take 1000).toArray⟩ := by rw [hX, ext_eq, List.drop_zero, ht]
  have e2 : min (X.size : Int) 1000 = (q : Int) := by omega
  have e3 : q ≤ X.size := by omega
  have E1 := Lib.hid e1
  show Calls _ _ #[.string ⟨s.toArray⟩] _ _
  rw [← hX]
  clear hq e1 hs hXs hX ht
  go_enter Tryz.func51, Tryz.ntmps51
  go_wp2
  go_ret
  exact ⟨congrArg (fun x => Ending.returned (.string x)) E1.out, rfl⟩

set_option maxRecDepth 100000 in
theorem num_c (n : Int) (w : World) : Calls Tryz.prog 31 #[.int .i64 n] w (RetV w (vv (num n))) := by
  go_enter Tryz.func31, Tryz.ntmps31
  go_wp2
  refine bodyPost_ret (v := vv (num n)) ?_ rfl ⟨rfl, (Below.refl _ _).alloc (Nat.le_refl _) _⟩
  simp [results, Tryz.results31, go_sem, num]
set_option maxRecDepth 100000 in
theorem text_c (s : List UInt8) (hs : s.length ≤ 1000000) (w : World) : Calls Tryz.prog 32 #[st s] w (RetV w (vv (txt s))) := by
  go_enter Tryz.func32, Tryz.ntmps32
  go_wp2_with fail
  refine (clip_c s hs _).mono ?_
  rintro e w1 ⟨rfl, rfl⟩
  go_wp2
  refine bodyPost_ret (v := vv (txt s)) ?_ rfl ⟨rfl, (Below.refl _ _).alloc (Nat.le_refl _) _⟩
  simp [results, Tryz.results32, go_sem, txt]
end Go.Proofs.YtoalncojijmelaaGreatDoor

/-
  The document's yes, Is, Compare, div, slice.
-/
namespace Go.Proofs.YtoalncojijmelaaGreatDoor
open Go.RowKit Vl

theorem num_p (n : Int) (w : World) : Calls Tryz.prog 31 #[.int .i64 n] w (RetV w (.agg #[.bool false, .int .i64 n, .string ⟨#[]⟩])) := num_c n w
theorem text_p (s : List UInt8) (hs : s.length ≤ 1000000) (w : World) : Calls Tryz.prog 32 #[st s] w (RetV w (.agg #[.bool true, .int .i64 0, .string ⟨(s.take 1000).toArray⟩])) := text_c s hs w
set_option maxRecDepth 100000 in
theorem yes_c (b : Bool) (w : World) : Calls Tryz.prog 60 #[.bool b] w (RetV w (vv (yes b))) := by
  obtain ⟨w0, hw0⟩ : ∃ w0, w0 = w.alloc (.cells #[.bool false, .int .i64 0, .string ⟨#[]⟩] 32) := ⟨_, rfl⟩
  have b0 : Below w.heap.size w w0 := by rw [hw0]; exact (Below.refl _ _).alloc (Nat.le_refl _) _
  have x0 : Bx w0 w.heap.size (.bool false) (.int .i64 0) (.string ⟨#[]⟩) := by rw [hw0]; exact Bx.made _ _ _ _ _
  have W0 := Lib.hid hw0; have B0 := Lib.hid b0; have X0 := Lib.hid x0
  clear hw0 b0 x0
  cases b
  all_goals
    go_enter Tryz.func60, Tryz.ntmps60
    go_wp2_with (rw [← W0.out])
    refine (num_p _ _).mono ?_
    rintro e w1 ⟨rfl, b1⟩
    have x1 := X0.out.below b1 X0.out.lt
    have B1 := Lib.hid (B0.out.trans (b1.mono B0.out.size))
    have X1 := Lib.hid x1
    obtain ⟨c0, c1, c2, f0, f1, f2, hlt⟩ := x1
    clear b1
    go_wp2
    change bodyPost _ _ _ _ _ (put3 w1 w.heap.size _ _ _)
    have s0 := fun v0 v1 v2 => (put3_box X1.out v0 v1 v2).c0
    have s1 := fun v0 v1 v2 => (put3_box X1.out v0 v1 v2).c1
    have s2 := fun v0 v1 v2 => (put3_box X1.out v0 v1 v2).c2
    refine bodyPost_ret (v := vv (yes _)) ?_ rfl ⟨rfl, B1.out.trans (put3_below _ _ _ _ _)⟩
    simp [results, Tryz.results60, go_sem, s0, s1, s2, yes, num]

set_option maxRecDepth 100000 in
theorem is_c (v : V) (w : World) : Calls Tryz.prog 24 #[vv v] w (RetV w (.bool (isV v))) := by
  obtain ⟨t, n, s⟩ := v
  obtain ⟨o, ho⟩ : ∃ o, o = isV ⟨t, n, s⟩ := ⟨_, rfl⟩
  rw [← ho]
  unfold isV at ho
  dsimp only at ho ⊢
  cases t
  · obtain ⟨w0, hw0⟩ : ∃ w0, w0 = w.alloc (.cells #[.bool false, .int .i64 n, .string ⟨s.toArray⟩] 32) := ⟨_, rfl⟩
    have b0 : Below w.heap.size w w0 := by rw [hw0]; exact (Below.refl _ _).alloc (Nat.le_refl _) _
    have x0 : Bx w0 w.heap.size (.bool false) (.int .i64 n) (.string ⟨s.toArray⟩) := by rw [hw0]; exact Bx.made _ _ _ _ _
    have W0 := Lib.hid hw0; have B0 := Lib.hid b0
    obtain ⟨c0, c1, c2, -, -, -, -⟩ := x0
    have d1 : s.isEmpty = o := by rw [ho]; cases s <;> rfl
    clear ho hw0 b0
    go_enter Tryz.func24, Tryz.ntmps24
    go_wp2_with (rw [← W0.out])
    go_ret
    exact ⟨by first | rfl | simp [← d1], B0.out⟩
  · obtain ⟨X, hX⟩ : ∃ X : ByteArray, X = ⟨s.toArray⟩ := ⟨_, rfl⟩
    have hXs : X.size = s.length := by rw [hX]; rfl
    show Calls _ _ #[.agg #[.bool true, .int .i64 n, .string ⟨s.toArray⟩]] _ _
    rw [← hX]
    obtain ⟨w0, hw0⟩ : ∃ w0, w0 = w.alloc (.cells #[.bool true, .int .i64 n, .string X] 32) := ⟨_, rfl⟩
    have b0 : Below w.heap.size w w0 := by rw [hw0]; exact (Below.refl _ _).alloc (Nat.le_refl _) _
    have x0 : Bx w0 w.heap.size (.bool true) (.int .i64 n) (.string X) := by rw [hw0]; exact Bx.made _ _ _ _ _
    have W0 := Lib.hid hw0; have B0 := Lib.hid b0
    obtain ⟨c0, c1, c2, -, -, -, -⟩ := x0
    clear hw0 b0
    rw [if_pos rfl] at ho
    by_cases hn : n = 0
    · subst hn
      have d2 : decide (X.size ≤ 1000) = o := by rw [hXs, ho]; rfl
      clear ho hX hXs
      go_enter Tryz.func24, Tryz.ntmps24
      go_wp2_with (rw [← W0.out])
      go_ret
      exact ⟨by rw [← d2]; simp; omega, B0.out⟩
    · have d1 : (n == 0) = false := by simpa using hn
      have hof : o = false := by rw [ho, d1]; rfl
      subst hof
      clear ho hX hXs
      go_enter Tryz.func24, Tryz.ntmps24
      go_wp2_with (rw [← W0.out])
      go_ret
      exact ⟨rfl, B0.out⟩
end Go.Proofs.YtoalncojijmelaaGreatDoor

/-
  The document's Compare, div, slice.
-/
namespace Go.Proofs.YtoalncojijmelaaGreatDoor
open Go.RowKit Vl

set_option maxRecDepth 100000 in
set_option maxHeartbeats 1000000 in
theorem compare_c (a b : V) (w : World) : Calls Tryz.prog 61 #[vv a, vv b] w (RetV w (.int .i64 (cmp a b))) := by
  obtain ⟨t, n, s⟩ := a
  obtain ⟨t', n', s'⟩ := b
  obtain ⟨o, ho⟩ : ∃ o, o = cmp ⟨t, n, s⟩ ⟨t', n', s'⟩ := ⟨_, rfl⟩
  rw [← ho]
  unfold cmp at ho
  dsimp only at ho ⊢
  obtain ⟨w0, hw0⟩ : ∃ w0, w0 = w.alloc (.cells #[.bool t, .int .i64 n, .string ⟨s.toArray⟩] 32) := ⟨_, rfl⟩
  have z0 : w0.heap.size = w.heap.size + 1 := by rw [hw0]; simp
  have b0 : Below w.heap.size w w0 := by rw [hw0]; exact (Below.refl _ _).alloc (Nat.le_refl _) _
  have x0 : Bx w0 w.heap.size (.bool t) (.int .i64 n) (.string ⟨s.toArray⟩) := by rw [hw0]; exact Bx.made _ _ _ _ _
  obtain ⟨w1, hw1⟩ : ∃ w1, w1 = w0.alloc (.cells #[.bool t', .int .i64 n', .string ⟨s'.toArray⟩] 32) := ⟨_, rfl⟩
  have b01 : Below w0.heap.size w0 w1 := by rw [hw1]; exact (Below.refl _ _).alloc (Nat.le_refl _) _
  have y1 : Bx w1 w0.heap.size (.bool t') (.int .i64 n') (.string ⟨s'.toArray⟩) := by rw [hw1]; exact Bx.made _ _ _ _ _
  rw [z0] at y1
  have x1 := x0.below b01 x0.lt
  have b1 := b0.trans (b01.mono (by omega))
  have W0 := Lib.hid hw0; have W1 := Lib.hid hw1; have Z0 := Lib.hid z0; have B1 := Lib.hid b1
  obtain ⟨c0, c1, c2, -, -, -, -⟩ := x1
  obtain ⟨e0, e1, e2, -, -, -, -⟩ := y1
  clear hw0 hw1 z0 b0 x0 b01 b1
  by_cases ht : t = t'
  · subst ht
    rw [if_neg (by simp)] at ho
    by_cases h1 : n < n'
    · have d1 : decide (n < n') = true := decide_eq_true h1
      rw [if_pos (.inl h1)] at ho
      subst ho
      cases t
      all_goals
        go_enter Tryz.func61, Tryz.ntmps61
        go_wp2_with (first | rw [← W0.out, ← W1.out, Z0.out] | rw [← W0.out, ← W1.out])
        go_ret
        exact ⟨rfl, B1.out⟩
    · have d1 : decide (n < n') = false := decide_eq_false h1
      by_cases h2 : n = n'
      · subst h2
        by_cases h3 : Go.Op.bytesLess s s' = true
        · rw [if_pos (.inr ⟨rfl, h3⟩)] at ho
          subst ho
          clear h1
          cases t
          all_goals
            go_enter Tryz.func61, Tryz.ntmps61
            go_wp2_with (first | rw [← W0.out, ← W1.out, Z0.out] | rw [← W0.out, ← W1.out])
            go_ret
            exact ⟨rfl, B1.out⟩
        · have h3' : Go.Op.bytesLess s s' = false := by simpa using h3
          rw [if_neg (by rintro (q | ⟨_, q⟩); exact h1 q; exact h3 q)] at ho
          clear h3 h1
          by_cases h4 : s = s'
          · subst h4
            rw [if_pos ⟨rfl, rfl⟩] at ho
            subst ho
            cases t
            all_goals
              go_enter Tryz.func61, Tryz.ntmps61
              go_wp2_with (first | rw [← W0.out, ← W1.out, Z0.out] | rw [← W0.out, ← W1.out])
              go_ret
              exact ⟨rfl, B1.out⟩
          · rw [if_neg (fun q => h4 q.2)] at ho
            have d4 : (s == s') = false := beq_eq_false_iff_ne.2 h4
            subst ho
            clear h4
            cases t
            all_goals
              go_enter Tryz.func61, Tryz.ntmps61
              go_wp2_with (first | rw [← W0.out, ← W1.out, Z0.out] | rw [← W0.out, ← W1.out])
              go_ret
              exact ⟨rfl, B1.out⟩
      · have d2 : (n == n') = false := beq_eq_false_iff_ne.2 h2
        rw [if_neg (by rintro (q | ⟨q, _⟩); exact h1 q; exact h2 q), if_neg (fun q => h2 q.1)] at ho
        subst ho
        clear h2 h1
        cases t
        all_goals
          go_enter Tryz.func61, Tryz.ntmps61
          go_wp2_with (first | rw [← W0.out, ← W1.out, Z0.out] | rw [← W0.out, ← W1.out])
          go_ret
          exact ⟨rfl, B1.out⟩
  · rw [if_pos ht] at ho
    cases t <;> cases t' <;> first | exact absurd rfl ht | skip
    all_goals
      simp at ho
      subst ho
      clear ht
      go_enter Tryz.func61, Tryz.ntmps61
      go_wp2_with (first | rw [← W0.out, ← W1.out, Z0.out] | rw [← W0.out, ← W1.out])
      go_ret
      exact ⟨rfl, B1.out⟩

set_option maxRecDepth 100000 in
theorem div_c (a b : Int) (ha : I a) (hb : I b) (w : World) : Calls Tryz.prog 59 #[.int .i64 a, .int .i64 b] w fun e w' => e = .returned (.tuple #[.int .i64 (dv a b).1, .int .i64 (dv a b).2]) ∧ ∃ k, w' = w.drewN k := by
  obtain ⟨q, hq⟩ : ∃ q, q = dv a b := ⟨_, rfl⟩
  rw [← hq]
  unfold dv at hq
  by_cases h0 : b = 0
  · subst h0
    rw [if_pos rfl] at hq
    subst hq
    go_enter Tryz.func59, Tryz.ntmps59
    go_wp2
    go_ret2
    exact ⟨rfl, 0, rfl⟩
  · have d0 : (b == 0) = false := beq_eq_false_iff_ne.2 h0
    rw [if_neg h0] at hq
    by_cases h1 : b = -1
    · subst h1
      rw [if_pos rfl] at hq
      subst hq
      rw [show w64 (-a) = RowKit.wrap64 (-a) from IntWalk.i64_left _]
      go_enter Tryz.func59, Tryz.ntmps59
      go_wp2
      go_ret2
      exact ⟨rfl, 0, rfl⟩
    · have d1 : (b == -1) = false := beq_eq_false_iff_ne.2 h1
      rw [if_neg h1] at hq
      subst hq
      have e1 : IntKind.i64.wrap (a.tdiv b) = a.tdiv b := by
        refine w64_in ?_
        by_cases hb1 : b = 1
        · subst hb1; rw [Int.tdiv_one]; exact ha
        have h2 : (a.tdiv b).natAbs ≤ a.natAbs := by rw [Int.natAbs_tdiv]; exact Nat.div_le_self _ _
        have h3 : a = -9223372036854775808 → (a.tdiv b).natAbs ≤ 4611686018427387904 := fun e => by
          rw [Int.natAbs_tdiv, e]
          have h4 : 2 ≤ b.natAbs := by omega
          exact Nat.le_trans (Nat.div_le_div_left h4 (by omega)) (by decide)
        by_cases h5 : a = -9223372036854775808
        · have h6 := h3 h5
          unfold I
          omega
        · unfold I at ha ⊢
          omega
      have e2 : IntKind.i64.wrap (a.tmod b) = a.tmod b := by
        refine w64_in ?_
        have h2 : (a.tmod b).natAbs ≤ a.natAbs := by rw [Int.natAbs_tmod]; exact Nat.mod_le _ _
        have h3 : (a.tmod b).natAbs < b.natAbs := by rw [Int.natAbs_tmod]; exact Nat.mod_lt _ (by omega)
        unfold I at ha hb ⊢
        omega
      rw [IntWalk.i64_left] at e1 e2
      clear ha hb h1
      go_enter Tryz.func59, Tryz.ntmps59
      go_wp2_with fail
      go_quiet (fail)
      go_wp2
      go_ret2
      refine ⟨?_, _, rfl⟩
      show Ending.returned (.tuple #[.int .i64 (RowKit.wrap64 _), .int .i64 _]) = _
      rw [e1]
end Go.Proofs.YtoalncojijmelaaGreatDoor

/-
  The document's slice, Hash, number.
-/
namespace Go.Proofs.YtoalncojijmelaaGreatDoor
open Go.RowKit Vl

set_option maxRecDepth 100000 in
theorem slice_c (s : List UInt8) (hs : s.length ≤ 1000000) (f m : Int) (w : World) : Calls Tryz.prog 62 #[st s, .int .i64 f, .int .i64 m] w fun e w' => e = .returned (st (slc s f m)) ∧ w = w' := by
  obtain ⟨X, hX⟩ : ∃ X : ByteArray, X = ⟨s.toArray⟩ := ⟨_, rfl⟩
  have hXs : X.size = s.length := by rw [hX]; rfl
  obtain ⟨a, ha⟩ : ∃ a, a = (min (max f 0) (s.length : Int)).toNat := ⟨_, rfl⟩
  obtain ⟨k, hk⟩ : ∃ k, k = (min (max m 0) ((s.length : Int) - (a : Int))).toNat := ⟨_, rfl⟩
  have e1 : X.extract a (a + k) = ⟨(slc s f m).toArray⟩ := by rw [hX, ext_eq]; unfold slc; dsimp only; rw [← ha, ← hk]
  have e2 : min (max f 0) (X.size : Int) = (a : Int) := by omega
  have e3 : a ≤ X.size := by omega
  have e4 : IntKind.i64.wrap ((X.size : Int) - (a : Int)) = ((X.size - a : Nat) : Int) := by rw [IntWalk.i64_in _ (by omega)]; omega
  have e5 : min (max m 0) ((X.size - a : Nat) : Int) = (k : Int) := by omega
  have e5' : min (max m 0) ((X.size : Int) - (a : Int)) = (k : Int) := by omega
  have e6 : a + k ≤ X.size := by omega
  have e7 : X.size ≤ 1000000 := by omega
  have E1 := Lib.hid e1
  show Calls _ _ #[.string ⟨s.toArray⟩, _, _] _ _
  rw [← hX]
  clear e1 hs hXs hX ha hk
  go_enter Tryz.func62, Tryz.ntmps62
  go_wp2
  go_ret
  exact ⟨congrArg (fun x => Ending.returned (.string x)) E1.out, rfl⟩

theorem str_drop (s : ByteArray) (k : Nat) (h : k < s.size) : s.data.toList.drop k = s[k] :: s.data.toList.drop (k + 1) := by
  have h2 : k < s.data.toList.length := by rw [Array.length_toList]; exact h
  rw [List.drop_eq_getElem_cons h2]
  rfl
theorem hs_cons (c : UInt8) (l : List UInt8) (h : Nat) : hs (c :: l) h = hs l (hstep h c) := by unfold hs; exact List.foldl_cons ..
theorem hs_nil (h : Nat) : hs [] h = h := by unfold hs; exact List.foldl_nil ..
theorem hs_lt (M : Nat) (hM : ∀ h c, hstep h c < M) (l : List UInt8) : ∀ h : Nat, h < M → hs l h < M := by
  induction l with
  | nil => intro h hh; rw [hs_nil]; exact hh
  | cons c l ih => intro h _; rw [hs_cons]; exact ih _ (hM h c)
def HsRel (X : ByteArray) (n N : Nat) (h i : Value) : Prop := ∃ k q : Nat, k ≤ n ∧ h = .int .u32 (q : Int) ∧ i = .int .i64 (k : Int) ∧ Hid (hs (X.data.toList.drop k) q = N ∧ q < 4294967296)

set_option maxRecDepth 100000 in
set_option maxHeartbeats 1000000 in
theorem hash_c (s : List UInt8) (hs1 : s.length ≤ 1000000) (w : World) : Calls Tryz.prog 66 #[st s] w fun e w' => e = .returned (.int .i64 (Vl.hash s : Int)) ∧ w = w' := by
  obtain ⟨X, hX⟩ : ∃ X : ByteArray, X = ⟨s.toArray⟩ := ⟨_, rfl⟩
  have hXs : X.size = s.length := by rw [hX]; rfl
  have hXl : X.data.toList = s := by rw [hX]
  obtain ⟨N, hN⟩ : ∃ N, N = hs s 2166136261 := ⟨_, rfl⟩
  have hNl : N < 4294967296 := by rw [hN]; exact hs_lt _ hstep_lt _ _ (by omega)
  have hh : Vl.hash s = N % 2147483648 := by rw [hN]; unfold Vl.hash; rfl
  rw [hh]
  show Calls _ _ #[.string ⟨s.toArray⟩] _ _
  rw [← hX]
  have HN := Lib.hid (show hs (X.data.toList.drop 0) 2166136261 = N by rw [hXl, hN, List.drop_zero])
  have hz : X.size ≤ 1000000 := by omega
  clear hh hN hX hXs hXl
  go_enter Tryz.func66, Tryz.ntmps66
  go_wp2
  go_loop [3, 4] (fun h i => HsRel X X.size N h i) (fun _ i => X.size - (intOf i).toNat)
  case atStart => exact ⟨0, 2166136261, by omega, rfl, rfl, Lib.hid ⟨HN.out, by omega⟩⟩
  case round =>
    obtain ⟨k, q, hk, rfl, rfl, H⟩ := hrel
    by_cases hlt : k < X.size
    · have hb := (X[k]).toNat_lt
      have hq := H.out.2
      have e1 : bits .xor .u32 (q : Int) ((X[k]).toNat : Int) = ((q ^^^ (X[k]).toNat : Nat) : Int) := xor32 _ _ rfl rfl hq (by omega)
      have hd := str_drop X k hlt
      have Hd := Lib.hid hd
      clear hd hq
      go_wp2
      go_round
      case rel =>
        refine ⟨k + 1, hstep q X[k], by omega, ?_, by go_num, Lib.hid ⟨?_, hstep_lt _ _⟩⟩
        · unfold hstep
          first | rfl | (congr 1; simp [IntKind.wrap_u32]) | (simp [IntKind.wrap_u32]; omega)
        · have := H.out.1
          rw [Hd.out, hs_cons] at this
          exact this
      case measure => simp [intOf]; omega
    · obtain rfl : k = X.size := by omega
      have hNq : q = N := by
        have := H.out.1
        rw [List.drop_of_length_le (by rw [Array.length_toList]; exact Nat.le_refl _), hs_nil] at this
        exact this
      subst hNq
      go_wp2
      go_ret
      refine ⟨?_, rfl⟩
      first | rfl | (congr 2; omega)
end Go.Proofs.YtoalncojijmelaaGreatDoor

/-
  The program's Num, Text, truth, kindOf, isValue, cmp.Compare, Compare, Hash.
-/
namespace Go.Proofs.YtoalncojijmelaaGreatDoor
open Go.RowKit Vl

set_option maxRecDepth 100000 in
theorem pnum_c (n : Int) (w : World) : Calls Tryz.prog 36 #[.int .i64 n] w (RetV w (.agg #[.bool false, .int .i64 n, .string ⟨#[]⟩])) := by
  go_enter Tryz.func36, Tryz.ntmps36
  go_wp2
  refine bodyPost_ret (v := .agg #[.bool false, .int .i64 n, .string ⟨#[]⟩]) ?_ rfl ⟨rfl, (Below.refl _ _).alloc (Nat.le_refl _) _⟩
  simp [results, Tryz.results36, go_sem]
set_option maxRecDepth 100000 in
theorem ptext_c (s : List UInt8) (hs : s.length ≤ 1000000) (w : World) : Calls Tryz.prog 35 #[st s] w (RetV w (.agg #[.bool true, .int .i64 0, .string ⟨(s.take 1000).toArray⟩])) := by
  obtain ⟨X, hX⟩ : ∃ X : ByteArray, X = ⟨s.toArray⟩ := ⟨_, rfl⟩
  have hXs : X.size = s.length := by rw [hX]; rfl
  obtain ⟨q, hq⟩ : ∃ q, q = min s.length 1000 := ⟨_, rfl⟩
  have ht : s.take q = s.take 1000 := by
    rcases Nat.le_total s.length 1000 with h | h
    · rw [List.take_of_length_le (by omega), List.take_of_length_le h]
    · rw [show q = 1000 by omega]
  have e1 : X.extract 0 q = ⟨(s.take 1000).toArray⟩ := by rw [hX, ext_eq, List.drop_zero, ht]
  have e2 : min (X.size : Int) 1000 = (q : Int) := by omega
  have e3 : q ≤ X.size := by omega
  have E1 := Lib.hid e1
  show Calls _ _ #[.string ⟨s.toArray⟩] _ _
  rw [← hX]
  clear hq e1 hs hXs hX ht
  go_enter Tryz.func35, Tryz.ntmps35
  go_wp2
  refine bodyPost_ret (v := .agg #[.bool true, .int .i64 0, .string ⟨(s.take 1000).toArray⟩]) ?_ rfl ⟨rfl, (Below.refl _ _).alloc (Nat.le_refl _) _⟩
  simp [results, Tryz.results35, go_sem, E1.out]

set_option maxRecDepth 100000 in
theorem truth_c (b : Bool) (w : World) : Calls Tryz.prog 94 #[.bool b] w (RetV w (vv (yes b))) := by
  obtain ⟨w0, hw0⟩ : ∃ w0, w0 = w.alloc (.cells #[.bool false, .int .i64 0, .string ⟨#[]⟩] 32) := ⟨_, rfl⟩
  have b0 : Below w.heap.size w w0 := by rw [hw0]; exact (Below.refl _ _).alloc (Nat.le_refl _) _
  have x0 : Bx w0 w.heap.size (.bool false) (.int .i64 0) (.string ⟨#[]⟩) := by rw [hw0]; exact Bx.made _ _ _ _ _
  have W0 := Lib.hid hw0; have B0 := Lib.hid b0; have X0 := Lib.hid x0
  clear hw0 b0 x0
  cases b
  all_goals
    go_enter Tryz.func94, Tryz.ntmps94
    go_wp2_with (rw [← W0.out])
    refine (pnum_c _ _).mono ?_
    rintro e w1 ⟨rfl, b1⟩
    have x1 := X0.out.below b1 X0.out.lt
    have B1 := Lib.hid (B0.out.trans (b1.mono B0.out.size))
    have X1 := Lib.hid x1
    obtain ⟨c0, c1, c2, f0, f1, f2, hlt⟩ := x1
    clear b1
    go_wp2
    change bodyPost _ _ _ _ _ (put3 w1 w.heap.size _ _ _)
    have s0 := fun v0 v1 v2 => (put3_box X1.out v0 v1 v2).c0
    have s1 := fun v0 v1 v2 => (put3_box X1.out v0 v1 v2).c1
    have s2 := fun v0 v1 v2 => (put3_box X1.out v0 v1 v2).c2
    refine bodyPost_ret (v := vv (yes _)) ?_ rfl ⟨rfl, B1.out.trans (put3_below _ _ _ _ _)⟩
    simp [results, Tryz.results94, go_sem, s0, s1, s2, yes, num]

theorem kindOf_c (b : Bool) (w : World) : Calls Tryz.prog 108 #[.bool b] w fun e w' => e = .returned (.int .u8 (if b then 2 else 1)) ∧ w' = w := by
  cases b
  all_goals
    go_enter Tryz.func108, Tryz.ntmps108
    go_wp2
    go_ret
    exact ⟨rfl, rfl⟩

set_option maxRecDepth 100000 in
theorem isValue_c (v : V) (w : World) : Calls Tryz.prog 89 #[vv v] w (RetV w (.bool (isV v))) := by
  obtain ⟨t, n, s⟩ := v
  obtain ⟨o, ho⟩ : ∃ o, o = isV ⟨t, n, s⟩ := ⟨_, rfl⟩
  rw [← ho]
  unfold isV at ho
  dsimp only at ho ⊢
  cases t
  · obtain ⟨w0, hw0⟩ : ∃ w0, w0 = w.alloc (.cells #[.bool false, .int .i64 n, .string ⟨s.toArray⟩] 32) := ⟨_, rfl⟩
    have b0 : Below w.heap.size w w0 := by rw [hw0]; exact (Below.refl _ _).alloc (Nat.le_refl _) _
    have x0 : Bx w0 w.heap.size (.bool false) (.int .i64 n) (.string ⟨s.toArray⟩) := by rw [hw0]; exact Bx.made _ _ _ _ _
    have W0 := Lib.hid hw0; have B0 := Lib.hid b0
    obtain ⟨c0, c1, c2, -, -, -, -⟩ := x0
    have d1 : s.isEmpty = o := by rw [ho]; cases s <;> rfl
    clear ho hw0 b0
    go_enter Tryz.func89, Tryz.ntmps89
    go_wp2_with (rw [← W0.out])
    go_ret
    exact ⟨by first | rfl | simp [← d1], B0.out⟩
  · obtain ⟨X, hX⟩ : ∃ X : ByteArray, X = ⟨s.toArray⟩ := ⟨_, rfl⟩
    have hXs : X.size = s.length := by rw [hX]; rfl
    show Calls _ _ #[.agg #[.bool true, .int .i64 n, .string ⟨s.toArray⟩]] _ _
    rw [← hX]
    obtain ⟨w0, hw0⟩ : ∃ w0, w0 = w.alloc (.cells #[.bool true, .int .i64 n, .string X] 32) := ⟨_, rfl⟩
    have b0 : Below w.heap.size w w0 := by rw [hw0]; exact (Below.refl _ _).alloc (Nat.le_refl _) _
    have x0 : Bx w0 w.heap.size (.bool true) (.int .i64 n) (.string X) := by rw [hw0]; exact Bx.made _ _ _ _ _
    have W0 := Lib.hid hw0; have B0 := Lib.hid b0
    obtain ⟨c0, c1, c2, -, -, -, -⟩ := x0
    clear hw0 b0
    rw [if_pos rfl] at ho
    by_cases hn : n = 0
    · subst hn
      have d2 : decide (X.size ≤ 1000) = o := by rw [hXs, ho]; rfl
      clear ho hX hXs
      go_enter Tryz.func89, Tryz.ntmps89
      go_wp2_with (rw [← W0.out])
      go_ret
      exact ⟨by rw [← d2]; simp; omega, B0.out⟩
    · have d1 : (n == 0) = false := by simpa using hn
      have hof : o = false := by rw [ho, d1]; rfl
      subst hof
      clear ho hX hXs
      go_enter Tryz.func89, Tryz.ntmps89
      go_wp2_with (rw [← W0.out])
      go_ret
      exact ⟨rfl, B0.out⟩

def scmp (s t : List UInt8) : Int := if Go.Op.bytesLess s t = true then -1 else if Go.Op.bytesLess t s = true then 1 else 0
def icmp (a b : Int) : Int := if a < b then -1 else if b < a then 1 else 0
set_option maxRecDepth 100000 in
theorem scmp_c (s t : List UInt8) (w : World) : Calls Tryz.prog 103 #[st s, st t] w fun e w' => e = .returned (.int .i64 (scmp s t)) ∧ w' = w := by
  unfold scmp
  cases h1 : Go.Op.bytesLess s t with
  | true =>
    rw [if_pos rfl]
    go_enter Tryz.func103, Tryz.ntmps103
    go_wp2
    go_ret
    exact ⟨rfl, rfl⟩
  | false =>
    rw [if_neg (by decide)]
    by_cases h3 : s = t
    · subst h3
      rw [h1, if_neg (by decide)]
      have d3 : (s == s) = true := beq_iff_eq.2 rfl
      go_enter Tryz.func103, Tryz.ntmps103
      go_wp2
      go_ret
      exact ⟨rfl, rfl⟩
    · have h2 : Go.Op.bytesLess t s = true := by
        rcases less_tri s t with h | h | h
        · rw [h1] at h; cases h
        · exact absurd h h3
        · exact h
      rw [if_pos h2]
      have d3 : (s == t) = false := beq_eq_false_iff_ne.2 h3
      clear h3 h2
      go_enter Tryz.func103, Tryz.ntmps103
      go_wp2
      go_ret
      exact ⟨rfl, rfl⟩
set_option maxRecDepth 100000 in
theorem icmp_c (a b : Int) (w : World) : Calls Tryz.prog 104 #[.int .i64 a, .int .i64 b] w fun e w' => e = .returned (.int .i64 (icmp a b)) ∧ w' = w := by
  unfold icmp
  by_cases h1 : a < b
  · rw [if_pos h1]
    have d1 : decide (a < b) = true := decide_eq_true h1
    clear h1
    go_enter Tryz.func104, Tryz.ntmps104
    go_wp2
    go_ret
    exact ⟨rfl, rfl⟩
  · rw [if_neg h1]
    have d1 : decide (a < b) = false := decide_eq_false h1
    by_cases h2 : b < a
    · rw [if_pos h2]
      have d2 : decide (b < a) = true := decide_eq_true h2
      clear h1 h2
      go_enter Tryz.func104, Tryz.ntmps104
      go_wp2
      go_ret
      exact ⟨rfl, rfl⟩
    · rw [if_neg h2]
      have d2 : decide (b < a) = false := decide_eq_false h2
      clear h1 h2
      go_enter Tryz.func104, Tryz.ntmps104
      go_wp2
      go_ret
      exact ⟨rfl, rfl⟩
theorem cmp_tt (n : Int) (s t : List UInt8) : cmp ⟨true, n, s⟩ ⟨true, n, t⟩ = scmp s t := by
  unfold cmp scmp
  rw [if_neg (by simp)]
  dsimp only
  cases h1 : Go.Op.bytesLess s t with
  | true => rw [if_pos (.inr ⟨rfl, rfl⟩), if_pos rfl]
  | false =>
    rw [if_neg (by rintro (q | ⟨-, q⟩) <;> first | omega | cases q)]
    rcases less_tri s t with h | h | h
    · rw [h1] at h; cases h
    · subst h; rw [if_pos ⟨rfl, rfl⟩, h1]; rfl
    · have hst : s ≠ t := by rintro rfl; rw [less_irrefl] at h; cases h
      rw [if_neg (fun q => hst q.2), h, if_neg (by decide), if_pos rfl]
theorem cmp_nn (a b : Int) (s : List UInt8) : cmp ⟨false, a, s⟩ ⟨false, b, s⟩ = icmp a b := by
  unfold cmp icmp
  rw [if_neg (by simp)]
  dsimp only
  by_cases h : a < b
  · rw [if_pos (.inl h), if_pos h]
  · rw [if_neg (by rintro (q | ⟨-, q⟩); exact h q; rw [less_irrefl] at q; cases q), if_neg h]
    by_cases h2 : a = b
    · subst h2; rw [if_pos ⟨rfl, rfl⟩, if_neg h]
    · rw [if_neg (fun q => h2 q.1), if_pos (by omega)]

set_option maxRecDepth 100000 in
set_option maxHeartbeats 1000000 in
theorem pcompare_c (a b : V) (w : World) (ha : isV a = true) (hb : isV b = true) : Calls Tryz.prog 95 #[vv a, vv b] w (RetV w (.int .i64 (cmp a b))) := by
  obtain ⟨t, n, s⟩ := a
  obtain ⟨t', n', s'⟩ := b
  obtain ⟨o, ho⟩ : ∃ o, o = cmp ⟨t, n, s⟩ ⟨t', n', s'⟩ := ⟨_, rfl⟩
  rw [← ho]
  obtain ⟨w0, hw0⟩ : ∃ w0, w0 = w.alloc (.cells #[.bool t, .int .i64 n, .string ⟨s.toArray⟩] 32) := ⟨_, rfl⟩
  have z0 : w0.heap.size = w.heap.size + 1 := by rw [hw0]; simp
  have b0 : Below w.heap.size w w0 := by rw [hw0]; exact (Below.refl _ _).alloc (Nat.le_refl _) _
  have x0 : Bx w0 w.heap.size (.bool t) (.int .i64 n) (.string ⟨s.toArray⟩) := by rw [hw0]; exact Bx.made _ _ _ _ _
  obtain ⟨w1, hw1⟩ : ∃ w1, w1 = w0.alloc (.cells #[.bool t', .int .i64 n', .string ⟨s'.toArray⟩] 32) := ⟨_, rfl⟩
  have b01 : Below w0.heap.size w0 w1 := by rw [hw1]; exact (Below.refl _ _).alloc (Nat.le_refl _) _
  have y1 : Bx w1 w0.heap.size (.bool t') (.int .i64 n') (.string ⟨s'.toArray⟩) := by rw [hw1]; exact Bx.made _ _ _ _ _
  rw [z0] at y1
  have x1 := x0.below b01 x0.lt
  have b1 := b0.trans (b01.mono (by omega))
  have W0 := Lib.hid hw0; have W1 := Lib.hid hw1; have Z0 := Lib.hid z0; have B1 := Lib.hid b1
  obtain ⟨c0, c1, c2, -, -, -, -⟩ := x1
  obtain ⟨e0, e1, e2, -, -, -, -⟩ := y1
  clear hw0 hw1 z0 b0 x0 b01 b1
  cases t <;> cases t'
  · have k1 := isV_number ha rfl
    have k2 := isV_number hb rfl
    dsimp only at k1 k2
    subst k1 k2
    rw [cmp_nn] at ho
    have hc := fun W => icmp_c n n' W
    rw [← ho] at hc
    have Hc := Lib.hid hc
    clear hc ho ha hb
    go_enter Tryz.func95, Tryz.ntmps95
    go_wp2_with (first | rw [← W0.out, ← W1.out, Z0.out] | rw [← W0.out, ← W1.out])
    refine (Hc.out _).mono ?_
    rintro e w2 ⟨rfl, rfl⟩
    go_wp2
    go_ret
    exact ⟨rfl, B1.out⟩
  · obtain rfl : o = -1 := by rw [ho]; unfold cmp; rw [if_pos (by simp), if_pos rfl]
    clear ho ha hb
    go_enter Tryz.func95, Tryz.ntmps95
    go_wp2_with (first | rw [← W0.out, ← W1.out, Z0.out] | rw [← W0.out, ← W1.out])
    go_ret
    exact ⟨rfl, B1.out⟩
  · obtain rfl : o = 1 := by rw [ho]; unfold cmp; rw [if_pos (by simp), if_neg (by simp)]
    clear ho ha hb
    go_enter Tryz.func95, Tryz.ntmps95
    go_wp2_with (first | rw [← W0.out, ← W1.out, Z0.out] | rw [← W0.out, ← W1.out])
    go_ret
    exact ⟨rfl, B1.out⟩
  · have k1 := (isV_text ha rfl).1
    have k2 := (isV_text hb rfl).1
    dsimp only at k1 k2
    subst k1 k2
    rw [cmp_tt] at ho
    have hc := fun W => scmp_c s s' W
    rw [← ho] at hc
    have Hc := Lib.hid hc
    clear hc ho ha hb
    go_enter Tryz.func95, Tryz.ntmps95
    go_wp2_with (first | rw [← W0.out, ← W1.out, Z0.out] | rw [← W0.out, ← W1.out])
    refine (Hc.out _).mono ?_
    rintro e w2 ⟨rfl, rfl⟩
    go_wp2
    go_ret
    exact ⟨rfl, B1.out⟩
end Go.Proofs.YtoalncojijmelaaGreatDoor

/-
  The document's number.
-/
namespace Go.Proofs.YtoalncojijmelaaGreatDoor
open Go.RowKit Vl

theorem digs_cons (c : UInt8) (l : List UInt8) (n : Nat) : digs (c :: l) n = if c.toNat < 48 ∨ 57 < c.toNat then none else digs l (10 * n + (c.toNat - 48)) := rfl
def NuRel (Y : ByteArray) (m : Nat) (D : Option Nat) (n i : Value) : Prop := ∃ k q : Nat, k ≤ m ∧ n = .int .i64 (q : Int) ∧ i = .int .i64 (k : Int) ∧ Hid (digs (Y.data.toList.drop k) q = D ∧ q < 10 ^ k)
/-- What a sign and the digits' number come to. -/
def sgn (g : Int) (D : Option Nat) : Int := match D with | some n => g * (n : Int) | none => 0
theorem number_sgn (s : List UInt8) : (∃ r, s = 45 :: r ∧ number s = sgn (-1) (numD r)) ∨ ((∀ c ∈ s.head?, c ≠ 45) ∧ number s = sgn 1 (numD s)) := by
  cases s with
  | nil => exact .inr ⟨fun c h => (by cases h), rfl⟩
  | cons c r =>
    by_cases h : c = 45
    · subst h
      refine .inl ⟨r, rfl, ?_⟩
      show (match numD r with | some n => -(n : Int) | none => 0) = _
      unfold sgn
      cases numD r with
      | none => rfl
      | some n => simp
    · refine .inr ⟨fun x hx => by simp at hx; subst hx; exact h, ?_⟩
      have e : number (c :: r) = match numD (c :: r) with | some n => (n : Int) | none => 0 := by
        unfold number
        split
        · rename_i heq; injection heq with h1 h2; exact absurd h1 h
        · rfl
      rw [e]
      unfold sgn
      cases numD (c :: r) with
      | none => rfl
      | some n => simp

set_option maxRecDepth 100000 in
set_option maxHeartbeats 2000000 in
theorem number_c (s : List UInt8) (hs1 : s.length ≤ 1000000) (w : World) : Calls Tryz.prog 64 #[st s] w fun e w' => e = .returned (.int .i64 (number s)) ∧ w = w' := by
  obtain ⟨X, hX⟩ : ∃ X : ByteArray, X = ⟨s.toArray⟩ := ⟨_, rfl⟩
  have hXs : X.size = s.length := by rw [hX]; rfl
  have hXl : X.data.toList = s := by rw [hX]
  show Calls _ _ #[.string ⟨s.toArray⟩] _ _
  rw [← hX]
  have hz : X.size ≤ 1000000 := by omega
  -- what stands behind the sign
  have key : ∃ (Y : ByteArray) (g : Int), (g = -1 ∨ g = 1) ∧ number s = sgn g (numD Y.data.toList) ∧ Y.size ≤ X.size ∧
      ((g = -1 ∧ ∃ h : 0 < X.size, (X[0]'h).toNat = 45 ∧ X.extract 1 X.size = Y) ∨ (g = 1 ∧ Y = X ∧ ∀ h : 0 < X.size, (X[0]'h).toNat ≠ 45)) := by
    rcases number_sgn s with ⟨r, hr, hn⟩ | ⟨hh, hn⟩
    · refine ⟨⟨r.toArray⟩, -1, .inl rfl, hn, ?_, .inl ⟨rfl, by rw [hXs, hr]; simp, ?_, ?_⟩⟩
      · rw [hXs, hr]; show r.length ≤ _; simp
      · subst hX; subst hr; rfl
      · rw [hX, ext_eq, hr]
        have : (ByteArray.mk (45 :: r).toArray).size = r.length + 1 := by show (45 :: r).toArray.size = _; simp
        rw [this]; simp
    · refine ⟨X, 1, .inr rfl, by rw [hXl]; exact hn, Nat.le_refl _, .inr ⟨rfl, rfl, fun h e => ?_⟩⟩
      cases s with
      | nil => rw [hXs] at h; simp at h
      | cons c r =>
        have h1 := hh c (by simp)
        subst hX
        exact h1 (UInt8.toNat_inj.1 e)
  obtain ⟨Y, g, hg, hn, hYs, hcase⟩ := key
  rw [hn]
  obtain ⟨D, hD⟩ : ∃ D, D = digs Y.data.toList 0 := ⟨_, rfl⟩
  have hYl : Y.data.toList.length = Y.size := by rw [Array.length_toList]; rfl
  have hnd : numD Y.data.toList = if Y.size < 1 ∨ 18 < Y.size then none else D := by unfold numD; rw [hYl, hD]
  rw [hnd]
  have HD := Lib.hid hD
  clear hX hXs hXl hn hnd hYl hD
  have tail : ∀ q : Nat, q < 10 ^ 18 → RowKit.wrap64 (g * (q : Int)) = g * (q : Int) ∧ IntKind.i64.wrap (g * (q : Int)) = g * (q : Int) := fun q hq => by
    have h1 : (10 : Nat) ^ 18 = 1000000000000000000 := by decide +kernel
    rw [h1] at hq
    have h2 : IntKind.i64.wrap (g * (q : Int)) = g * (q : Int) := by
      rcases hg with rfl | rfl
      · exact IntWalk.i64_in _ (by omega)
      · exact IntWalk.i64_in _ (by omega)
    exact ⟨by rw [← IntWalk.i64_left]; exact h2, h2⟩
  have Ht := Lib.hid tail
  clear tail
  rcases hcase with ⟨rfl, hpos, hx0, hext⟩ | ⟨rfl, hYX, hx0⟩
  · have hx0' : ((X[0]'hpos).toNat : Int) = 45 := by omega
    have hYz : Y.size ≤ 1000000 := by omega
    have hX1 : 1 ≤ X.size := by omega
    clear hg hYs
    by_cases hs0 : Y.size < 1
    · rw [if_pos (.inl hs0)]
      have d0 : decide ((Y.size : Int) < 1) = true := by simp; omega
      have d0' : decide (Y.size < 1) = true := decide_eq_true hs0
      go_enter Tryz.func64, Tryz.ntmps64
      go_wp2
      go_ret
      exact ⟨rfl, rfl⟩
    · have d0 : decide ((Y.size : Int) < 1) = false := by simp; omega
      have d0' : decide (Y.size < 1) = false := decide_eq_false hs0
      by_cases hs18 : 18 < Y.size
      · rw [if_pos (.inr hs18)]
        have d1 : decide ((18 : Int) < (Y.size : Int)) = true := by simp; omega
        have d1' : decide (18 < Y.size) = true := decide_eq_true hs18
        go_enter Tryz.func64, Tryz.ntmps64
        go_wp2
        go_ret
        exact ⟨rfl, rfl⟩
      · rw [if_neg (by omega)]
        have d1 : decide ((18 : Int) < (Y.size : Int)) = false := by simp; omega
        have d1' : decide (18 < Y.size) = false := decide_eq_false hs18
        have hs0' : 1 ≤ Y.size := by omega
        have hs18' : Y.size ≤ 18 := by omega
        clear hs0 hs18
        obtain ⟨R, hR⟩ : ∃ R, R = sgn (-1 : Int) D := ⟨_, rfl⟩
        rw [← hR]
        have HR := Lib.hid hR
        clear hR
        go_enter Tryz.func64, Tryz.ntmps64
        go_wp2
        go_loop [4, 5] (fun n i => NuRel Y Y.size D n i) (fun _ i => Y.size - (intOf i).toNat)
        case atStart => exact ⟨0, 0, by omega, rfl, rfl, Lib.hid ⟨by rw [List.drop_zero]; exact HD.out.symm, by decide⟩⟩
        case round =>
          clear d0 d0' d1 d1'
          obtain ⟨k, q, hk, rfl, rfl, H⟩ := hrel
          by_cases hlt : k < Y.size
          · have hb := (Y[k]).toNat_lt
            have hd := str_drop Y k hlt
            have hH := H.out.1
            rw [hd, digs_cons] at hH
            have hq := H.out.2
            have h10 : (10 : Nat) ^ k * 10 ≤ 10 ^ 18 := by rw [← Nat.pow_succ]; exact Nat.pow_le_pow_right (by omega) (by omega)
            have h18 : (10 : Nat) ^ 18 = 1000000000000000000 := by decide +kernel
            by_cases hbad : (Y[k]).toNat < 48 ∨ 57 < (Y[k]).toNat
            · rw [if_pos hbad] at hH
              obtain rfl : R = 0 := by rw [HR.out, ← hH]; rfl
              clear Ht HD H hd hH HR
              rcases Nat.lt_or_ge (Y[k]).toNat 48 with hlo | hlo
              · have e1 : decide (((Y[k]).toNat : Int) < 48) = true := by simp; omega
                have e1' : decide ((Y[k]).toNat < 48) = true := decide_eq_true hlo
                clear hbad hlo
                go_wp2
                go_ret
                exact ⟨rfl, rfl⟩
              · have hhi : 57 < (Y[k]).toNat := by omega
                have e1 : decide (((Y[k]).toNat : Int) < 48) = false := by simp; omega
                have e1' : decide ((Y[k]).toNat < 48) = false := decide_eq_false (by omega)
                have e2 : decide ((57 : Int) < ((Y[k]).toNat : Int)) = true := by simp; omega
                have e2' : decide (57 < (Y[k]).toNat) = true := decide_eq_true hhi
                clear hbad hlo hhi
                go_wp2
                go_ret
                exact ⟨rfl, rfl⟩
            · rw [if_neg hbad] at hH
              have hlo : 48 ≤ (Y[k]).toNat := by omega
              have hhi : (Y[k]).toNat ≤ 57 := by omega
              obtain ⟨dg, hdg⟩ : ∃ dg, dg = (Y[k]).toNat - 48 := ⟨_, rfl⟩
              rw [← hdg] at hH
              have hq2 : 10 * q + dg < 10 ^ (k + 1) := by rw [Nat.pow_succ]; omega
              have e1 : decide (((Y[k]).toNat : Int) < 48) = false := by simp; omega
              have e1' : decide ((Y[k]).toNat < 48) = false := decide_eq_false (by omega)
              have e2 : decide ((57 : Int) < ((Y[k]).toNat : Int)) = false := by simp; omega
              have e2' : decide (57 < (Y[k]).toNat) = false := decide_eq_false (by omega)
              have e3 : IntKind.u8.wrap (((Y[k]).toNat : Int) - 48) = (dg : Int) := by rw [IntWalk.u8_in _ (by omega)]; omega
              have e4 : IntKind.i64.wrap (10 * (q : Int)) = 10 * (q : Int) := IntWalk.i64_in _ (by omega)
              have e5 : IntKind.i64.wrap (10 * (q : Int) + (dg : Int)) = ((10 * q + dg : Nat) : Int) := by rw [IntWalk.i64_in _ (by omega)]; omega
              have hdl : dg ≤ 9 := by omega
              have hql : q < 1000000000000000000 := by omega
              have H2 := Lib.hid hH; have Hq2 := Lib.hid hq2
              clear hbad hdg hH hq2 hd H hq h10 h18
              go_wp2
              go_round
              case rel => exact ⟨k + 1, 10 * q + dg, by omega, by first | rfl | (congr 1; omega), by go_num, Lib.hid ⟨H2.out, Hq2.out⟩⟩
              case measure => simp [intOf]; omega
          · obtain rfl : k = Y.size := by omega
            have hH := H.out.1
            have hq := H.out.2
            rw [List.drop_of_length_le (by rw [Array.length_toList]; exact Nat.le_refl _)] at hH
            have hDq : D = some q := hH.symm
            have hq18 : q < 10 ^ 18 := Nat.lt_of_lt_of_le hq (Nat.pow_le_pow_right (by omega) hs18')
            obtain ⟨t1, t2⟩ := Ht.out q hq18
            obtain rfl : R = (-1 : Int) * (q : Int) := by rw [HR.out, hDq]; rfl
            have hql : q < 1000000000000000000 := by have h18 : (10 : Nat) ^ 18 = 1000000000000000000 := by decide +kernel
                                                     omega
            clear Ht HD H hH hq hDq hq18 HR
            go_wp2
            go_ret
            refine ⟨?_, rfl⟩
            first | rfl | simp
  · subst hYX
    clear hg hYs
    by_cases hpos : 0 < Y.size
    · have hx1 : ((Y[0]'hpos).toNat == 45) = false := beq_eq_false_iff_ne.2 (hx0 hpos)
      have hx2 : (((Y[0]'hpos).toNat : Int) == 45) = false := beq_eq_false_iff_ne.2 (fun e => hx0 hpos (by omega))
      clear hx0
      by_cases hs0 : Y.size < 1
      · rw [if_pos (.inl hs0)]
        have d0 : decide ((Y.size : Int) < 1) = true := by simp; omega
        have d0' : decide (Y.size < 1) = true := decide_eq_true hs0
        go_enter Tryz.func64, Tryz.ntmps64
        go_wp2
        go_ret
        exact ⟨rfl, rfl⟩
      · have d0 : decide ((Y.size : Int) < 1) = false := by simp; omega
        have d0' : decide (Y.size < 1) = false := decide_eq_false hs0
        by_cases hs18 : 18 < Y.size
        · rw [if_pos (.inr hs18)]
          have d1 : decide ((18 : Int) < (Y.size : Int)) = true := by simp; omega
          have d1' : decide (18 < Y.size) = true := decide_eq_true hs18
          go_enter Tryz.func64, Tryz.ntmps64
          go_wp2
          go_ret
          exact ⟨rfl, rfl⟩
        · rw [if_neg (by omega)]
          have d1 : decide ((18 : Int) < (Y.size : Int)) = false := by simp; omega
          have d1' : decide (18 < Y.size) = false := decide_eq_false hs18
          have hs0' : 1 ≤ Y.size := by omega
          have hs18' : Y.size ≤ 18 := by omega
          clear hs0 hs18
          obtain ⟨R, hR⟩ : ∃ R, R = sgn (1 : Int) D := ⟨_, rfl⟩
          rw [← hR]
          have HR := Lib.hid hR
          clear hR
          go_enter Tryz.func64, Tryz.ntmps64
          go_wp2
          go_loop [4, 5] (fun n i => NuRel Y Y.size D n i) (fun _ i => Y.size - (intOf i).toNat)
          case atStart => exact ⟨0, 0, by omega, rfl, rfl, Lib.hid ⟨by rw [List.drop_zero]; exact HD.out.symm, by decide⟩⟩
          case round =>
            clear d0 d0' d1 d1'
            obtain ⟨k, q, hk, rfl, rfl, H⟩ := hrel
            by_cases hlt : k < Y.size
            · have hb := (Y[k]).toNat_lt
              have hd := str_drop Y k hlt
              have hH := H.out.1
              rw [hd, digs_cons] at hH
              have hq := H.out.2
              have h10 : (10 : Nat) ^ k * 10 ≤ 10 ^ 18 := by rw [← Nat.pow_succ]; exact Nat.pow_le_pow_right (by omega) (by omega)
              have h18 : (10 : Nat) ^ 18 = 1000000000000000000 := by decide +kernel
              by_cases hbad : (Y[k]).toNat < 48 ∨ 57 < (Y[k]).toNat
              · rw [if_pos hbad] at hH
                obtain rfl : R = 0 := by rw [HR.out, ← hH]; rfl
                clear Ht HD H hd hH HR
                rcases Nat.lt_or_ge (Y[k]).toNat 48 with hlo | hlo
                · have e1 : decide (((Y[k]).toNat : Int) < 48) = true := by simp; omega
                  have e1' : decide ((Y[k]).toNat < 48) = true := decide_eq_true hlo
                  clear hbad hlo
                  go_wp2
                  go_ret
                  exact ⟨rfl, rfl⟩
                · have hhi : 57 < (Y[k]).toNat := by omega
                  have e1 : decide (((Y[k]).toNat : Int) < 48) = false := by simp; omega
                  have e1' : decide ((Y[k]).toNat < 48) = false := decide_eq_false (by omega)
                  have e2 : decide ((57 : Int) < ((Y[k]).toNat : Int)) = true := by simp; omega
                  have e2' : decide (57 < (Y[k]).toNat) = true := decide_eq_true hhi
                  clear hbad hlo hhi
                  go_wp2
                  go_ret
                  exact ⟨rfl, rfl⟩
              · rw [if_neg hbad] at hH
                have hlo : 48 ≤ (Y[k]).toNat := by omega
                have hhi : (Y[k]).toNat ≤ 57 := by omega
                obtain ⟨dg, hdg⟩ : ∃ dg, dg = (Y[k]).toNat - 48 := ⟨_, rfl⟩
                rw [← hdg] at hH
                have hq2 : 10 * q + dg < 10 ^ (k + 1) := by rw [Nat.pow_succ]; omega
                have e1 : decide (((Y[k]).toNat : Int) < 48) = false := by simp; omega
                have e1' : decide ((Y[k]).toNat < 48) = false := decide_eq_false (by omega)
                have e2 : decide ((57 : Int) < ((Y[k]).toNat : Int)) = false := by simp; omega
                have e2' : decide (57 < (Y[k]).toNat) = false := decide_eq_false (by omega)
                have e3 : IntKind.u8.wrap (((Y[k]).toNat : Int) - 48) = (dg : Int) := by rw [IntWalk.u8_in _ (by omega)]; omega
                have e4 : IntKind.i64.wrap (10 * (q : Int)) = 10 * (q : Int) := IntWalk.i64_in _ (by omega)
                have e5 : IntKind.i64.wrap (10 * (q : Int) + (dg : Int)) = ((10 * q + dg : Nat) : Int) := by rw [IntWalk.i64_in _ (by omega)]; omega
                have hdl : dg ≤ 9 := by omega
                have hql : q < 1000000000000000000 := by omega
                have H2 := Lib.hid hH; have Hq2 := Lib.hid hq2
                clear hbad hdg hH hq2 hd H hq h10 h18
                go_wp2
                go_round
                case rel => exact ⟨k + 1, 10 * q + dg, by omega, by first | rfl | (congr 1; omega), by go_num, Lib.hid ⟨H2.out, Hq2.out⟩⟩
                case measure => simp [intOf]; omega
            · obtain rfl : k = Y.size := by omega
              have hH := H.out.1
              have hq := H.out.2
              rw [List.drop_of_length_le (by rw [Array.length_toList]; exact Nat.le_refl _)] at hH
              have hDq : D = some q := hH.symm
              have hq18 : q < 10 ^ 18 := Nat.lt_of_lt_of_le hq (Nat.pow_le_pow_right (by omega) hs18')
              obtain ⟨t1, t2⟩ := Ht.out q hq18
              obtain rfl : R = (1 : Int) * (q : Int) := by rw [HR.out, hDq]; rfl
              have hql : q < 1000000000000000000 := by have h18 : (10 : Nat) ^ 18 = 1000000000000000000 := by decide +kernel
                                                       omega
              clear Ht HD H hH hq hDq hq18 HR
              go_wp2
              go_ret
              refine ⟨?_, rfl⟩
              first | rfl | simp
    · have hx1 : decide (0 < Y.size) = false := decide_eq_false hpos
      have hx2 : decide ((0 : Int) < (Y.size : Int)) = false := decide_eq_false (by omega)
      have hx3 : decide ((Y.size : Int) < 1) = true := decide_eq_true (by omega)
      rw [if_pos (.inl (by omega))]
      clear hx0 Ht HD
      go_enter Tryz.func64, Tryz.ntmps64
      go_wp2
      go_ret
      exact ⟨rfl, rfl⟩
end Go.Proofs.YtoalncojijmelaaGreatDoor

/-
  The document's figures, Figures.
-/
namespace Go.Proofs.YtoalncojijmelaaGreatDoor
open Go.RowKit Vl

theorem bty : U8 Tryz.prog 114 5 9 := ⟨Tryz.underlying114, Tryz.underlying5, Tryz.underlying9, by kernel_rfl⟩

set_option maxRecDepth 100000 in
set_option maxHeartbeats 1000000 in
theorem figures_c : ∀ (k n : Nat), n < 10 ^ (k + 1) → k ≤ 20 → n < 18446744073709551616 → ∀ w : World, Calls Tryz.prog 91 #[.int .u64 (n : Int)] w (RetV w (st (figs n))) := by
  intro k
  induction k with
  | zero =>
    intro n hn _ _ w
    have hn : n < 10 := by simpa using hn
    have hf := figs_small hn
    obtain ⟨x, hx⟩ : ∃ x, x = UInt8.ofNat (48 + n) := ⟨_, rfl⟩
    have hxn : x.toNat = 48 + n := by rw [hx]; exact dig_ok n hn
    rw [hf, ← hx]
    obtain ⟨w1, hw1⟩ : ∃ w1, w1 = w.alloc (.cells #[.int .u8 (48 + (n : Int))] 5) := ⟨_, rfl⟩
    have b1 : Below w.heap.size w w1 := by rw [hw1]; exact (Below.refl _ _).alloc (Nat.le_refl _) _
    have hr : Rb w1 (w.heap.size + 1) (some ⟨w.heap.size, 0, none⟩) 1 1 [x] := by rw [hw1]; exact Rb.oneI w _ _ x (by omega)
    have hc := bty.conv hr
    have W1 := Lib.hid hw1; have B1 := Lib.hid b1
    have e1 : (n : Int) % 10 = (n : Int) := by omega
    have e2 : IntKind.u64.wrap (48 + (n : Int)) = 48 + (n : Int) := IntWalk.u64_in _ (by omega)
    have e3 : IntKind.u8.wrap (48 + (n : Int)) = 48 + (n : Int) := IntWalk.u8_in _ (by omega)
    have d1 : decide ((n : Int) < 10) = true := by simp; omega
    have d2 : decide (n < 10) = true := decide_eq_true hn
    clear hf hx hxn hw1 b1 hr
    go_enter Tryz.func91, Tryz.ntmps91
    go_wp2_with (rw [← W1.out])
    go_ret
    exact ⟨rfl, B1.out⟩
  | succ k ih =>
    intro n hn hk hn64 w
    by_cases h10 : n < 10
    · exact ih n (Nat.lt_of_lt_of_le h10 (by rw [Nat.pow_succ]; have h := Nat.pow_pos (n := k) (show 0 < 10 by omega); omega)) (by omega) hn64 w
    · have hd : n / 10 < 10 ^ (k + 1) := by
        rw [Nat.pow_succ] at hn
        exact Nat.div_lt_of_lt_mul (by rw [Nat.mul_comm]; exact hn)
      have hf := figs_big h10
      have hDl := (digs_figs k (n / 10) hd).2.1
      obtain ⟨m, hm⟩ : ∃ m, m = n / 10 := ⟨_, rfl⟩
      rw [← hm] at hd hf hDl
      obtain ⟨x, hx⟩ : ∃ x, x = UInt8.ofNat (48 + n % 10) := ⟨_, rfl⟩
      have hxn : x.toNat = 48 + n % 10 := by rw [hx]; exact dig_ok _ (by omega)
      obtain ⟨D, hD⟩ : ∃ D, D = figs m := ⟨_, rfl⟩
      have hrec := fun W => ih m hd (by omega) (by omega) W
      rw [← hD] at hf hDl
      simp only [← hD] at hrec
      rw [hf, ← hx]
      obtain ⟨w1, hw1⟩ : ∃ w1, w1 = w.alloc (.cells #[.int .u8 (48 + (n : Int) % 10)] 5) := ⟨_, rfl⟩
      have b1 : Below w.heap.size w w1 := by rw [hw1]; exact (Below.refl _ _).alloc (Nat.le_refl _) _
      have hr : Rb w1 (w.heap.size + 1) (some ⟨w.heap.size, 0, none⟩) 1 1 [x] := by rw [hw1]; exact Rb.oneI w _ _ x (by omega)
      have hc := bty.conv hr
      have W1 := Lib.hid hw1; have B1 := Lib.hid b1; have Hrec := Lib.hid hrec
      have e2 : IntKind.u64.wrap (48 + (n : Int) % 10) = 48 + (n : Int) % 10 := IntWalk.u64_in _ (by omega)
      have e3 : IntKind.u8.wrap (48 + (n : Int) % 10) = 48 + (n : Int) % 10 := IntWalk.u8_in _ (by omega)
      have e4 : (n : Int) / 10 = (m : Int) := by omega
      have d1 : decide ((n : Int) < 10) = false := by simp; omega
      have d2 : decide (n < 10) = false := decide_eq_false h10
      have k1 : ¬ 9223372036854775807 < D.length + 1 := by omega
      clear hf hx hxn hw1 b1 hr hrec hD hm hd ih hn hDl
      go_enter Tryz.func91, Tryz.ntmps91
      go_wp2_with (rw [← W1.out])
      refine (Hrec.out w1).mono ?_
      rintro e w2 ⟨rfl, b2⟩
      have bb := B1.out.trans (b2.mono B1.out.size)
      clear b2 hc
      go_wp2
      go_ret
      refine ⟨?_, bb⟩
      first | rfl | simp
theorem pow20 : (10 : Nat) ^ (19 + 1) = 100000000000000000000 := by decide +kernel

set_option maxRecDepth 100000 in
set_option maxHeartbeats 1000000 in
theorem figuresI_c (n : Int) (hn : I n) (w : World) : Calls Tryz.prog 65 #[.int .i64 n] w (RetV w (st (figures n))) := by
  unfold I at hn
  by_cases h0 : n < 0
  · obtain ⟨m, hm⟩ : ∃ m, m = (-n).toNat := ⟨_, rfl⟩
    have hf : figures n = 45 :: figs m := by unfold figures; rw [if_pos h0, ← hm]
    have hrec := figures_c 19 m (by rw [pow20]; omega) (by omega) (by omega) w
    have hl := (digs_figs 19 m (by rw [pow20]; omega)).2.1
    obtain ⟨D, hD⟩ : ∃ D, D = figs m := ⟨_, rfl⟩
    rw [← hD] at hrec hf hl
    rw [hf]
    have d1 : decide (n < 0) = true := decide_eq_true h0
    have e1 : IntKind.u64.wrap n = 18446744073709551616 + n := by rw [IntKind.wrap_u64]; omega
    have e2 : IntKind.u64.wrap (0 - (18446744073709551616 + n)) = (m : Int) := by rw [IntKind.wrap_u64]; omega
    have e3 : IntKind.u64.wrap (-(18446744073709551616 + n)) = (m : Int) := by rw [IntKind.wrap_u64]; omega
    have k1 : ¬ 9223372036854775807 < 1 + D.length := by omega
    have k2 : ¬ 9223372036854775807 < D.length + 1 := by omega
    have Hrec := Lib.hid hrec
    clear hrec hf hl hD hm
    go_enter Tryz.func65, Tryz.ntmps65
    go_wp2_with fail
    refine Hrec.out.mono ?_
    rintro e w2 ⟨rfl, b2⟩
    go_wp2
    go_ret
    refine ⟨?_, b2⟩
    first | rfl | simp
  · obtain ⟨m, hm⟩ : ∃ m, m = n.toNat := ⟨_, rfl⟩
    have hf : figures n = figs m := by unfold figures; rw [if_neg h0, ← hm]
    have hrec := figures_c 19 m (by rw [pow20]; omega) (by omega) (by omega) w
    rw [hf]
    have d1 : decide (n < 0) = false := decide_eq_false h0
    have e1 : IntKind.u64.wrap n = (m : Int) := by rw [IntKind.wrap_u64]; omega
    have Hrec := Lib.hid hrec
    clear hrec hf hm
    go_enter Tryz.func65, Tryz.ntmps65
    go_wp2_with fail
    refine Hrec.out.mono ?_
    rintro e w2 ⟨rfl, b2⟩
    go_wp2
    go_ret
    exact ⟨rfl, b2⟩
end Go.Proofs.YtoalncojijmelaaGreatDoor

/-
  The document's turned, find.
-/
namespace Go.Proofs.YtoalncojijmelaaGreatDoor
open Go.RowKit Vl

def TuRel (base : Nat) (w : World) (X : ByteArray) (f : UInt8) (o i : Value) (wr : World) : Prop :=
  ∃ A c, ∃ k : Nat, k ≤ X.size ∧ o = .slice A k c ∧ i = .int .i64 (k : Int) ∧ Own wr 5 base A c (turned (X.data.toList.take k) f) ∧ Below base w wr
theorem str_take (s : ByteArray) (k : Nat) (h : k < s.size) : s.data.toList.take (k + 1) = s.data.toList.take k ++ [s[k]] := by
  have h2 : k < s.data.toList.length := by rw [Array.length_toList]; exact h
  rw [List.take_add_one, List.getElem?_eq_getElem h2]
  rfl
theorem turned_snoc (l : List UInt8) (c f : UInt8) : turned (l ++ [c]) f = turned l f ++ [trn f c] := by simp [turned]

set_option maxRecDepth 100000 in
set_option maxHeartbeats 2000000 in
theorem turned_c (s : List UInt8) (hs1 : s.length ≤ 1000000) (f : UInt8) (hf : f.toNat + 26 < 256) (w : World) : Calls Tryz.prog 63 #[st s, .int .u8 (f.toNat : Int)] w (RetV w (st (turned s f))) := by
  obtain ⟨X, hX⟩ : ∃ X : ByteArray, X = ⟨s.toArray⟩ := ⟨_, rfl⟩
  have hXs : X.size = s.length := by rw [hX]; rfl
  have hXl : X.data.toList = s := by rw [hX]
  show Calls _ _ #[.string ⟨s.toArray⟩, _] _ _
  rw [← hX, ← hXl]
  have hz : X.size ≤ 1000000 := by omega
  have hXL : X.data.toList.length = X.size := by rw [Array.length_toList]; rfl
  have HXL := Lib.hid hXL
  clear hX hXs hXl hXL
  obtain ⟨F, hF⟩ : ∃ F, F = f.toNat := ⟨_, rfl⟩
  have HF := Lib.hid hF
  rw [← hF] at hf ⊢
  clear hF
  obtain ⟨w1, hw1⟩ : ∃ w1, w1 = w.alloc (.cells #[] 5) := ⟨_, rfl⟩
  have b1 : Below w.heap.size w w1 := by rw [hw1]; exact (Below.refl _ _).alloc (Nat.le_refl _) _
  have own1 : Own w1 5 w.heap.size (some ⟨w.heap.size, 0, none⟩) 0 [] := by rw [hw1]; exact Own.made0 w _
  have W1 := Lib.hid hw1; have B1 := Lib.hid b1; have Own1 := Lib.hid own1
  have e0 : IntKind.u8.wrap ((F : Int) + 26) = (F : Int) + 26 := IntWalk.u8_in _ (by omega)
  clear hw1 b1 own1
  go_enter Tryz.func63, Tryz.ntmps63
  go_wp2_with (rw [← W1.out])
  go_loopw [5, 6, 7] (fun o i _ wr => TuRel w.heap.size w X f o i wr) (fun _ i _ _ => X.size - (intOf i).toNat)
  case atStart => exact ⟨_, _, 0, Nat.zero_le _, rfl, rfl, Own1.out, B1.out⟩
  case round =>
    obtain ⟨A3, c3, k, hk, rfl, rfl, hown, hbel⟩ := hrel
    rename World => wr
    have z3 := hbel.size
    by_cases hlt : k < X.size
    · have hb := (X[k]).toNat_lt
      have htk := str_take X k hlt
      have hlen : (turned (X.data.toList.take k) f).length = k := by rw [turned_len, List.length_take, HXL.out]; omega
      obtain ⟨L, hL⟩ : ∃ L, L = turned (X.data.toList.take k) f := ⟨_, rfl⟩
      obtain ⟨y, hy⟩ : ∃ y, y = trn f X[k] := ⟨_, rfl⟩
      have hN : turned (X.data.toList.take (k + 1)) f = L ++ [y] := by rw [htk, turned_snoc, ← hL, ← hy]
      rw [← hL] at hown hlen
      obtain ⟨N, hNe⟩ : ∃ N, N = L ++ [y] := ⟨_, rfl⟩
      rw [← hNe] at hN
      have hNl : N.length = k + 1 := by rw [hNe, List.length_append, hlen]; rfl
      obtain ⟨w5, hw5⟩ : ∃ w5, w5 = wr.alloc (.cells #[.int .u8 (y.toNat : Int)] 5) := ⟨_, rfl⟩
      have b5 : Below wr.heap.size wr w5 := by rw [hw5]; exact (Below.refl _ _).alloc (Nat.le_refl _) _
      have hr5 : Rb w5 (wr.heap.size + 1) (some ⟨wr.heap.size, 0, none⟩) 1 1 [y] := by rw [hw5]; exact Rb.one wr _ y
      have own5 : Own w5 5 w.heap.size A3 c3 L := by rw [hw5]; exact hown.alloc _
      have bb5 := hbel.trans (b5.mono z3)
      have z5 := bb5.size
      have W5 := Lib.hid hw5; have Hr5 := Lib.hid hr5; have Own5 := Lib.hid own5; have BB5 := Lib.hid bb5; have HNe := Lib.hid hNe.symm; have HN := Lib.hid hN; have HNl := Lib.hid hNl; have Hlen := Lib.hid hlen; have Hy := Lib.hid hy
      have hNs : N.length ≤ 140737488355328 := by omega
      clear hw5 hr5 own5 bb5 hNe hN hNl htk hown hL b5 hbel
      by_cases hin : F ≤ (X[k]).toNat ∧ (X[k]).toNat < F + 26
      · have hyx : y = X[k] ^^^ 32 := by rw [Hy.out]; unfold trn; rw [if_pos (by rw [← HF.out]; exact hin)]
        have hyn : (y.toNat : Int) = (((X[k]).toNat ^^^ 32 : Nat) : Int) := by rw [hyx, UInt8.toNat_xor]; rfl
        have e1 : bits .xor .u8 ((X[k]).toNat : Int) 32 = (y.toNat : Int) := by rw [hyn]; exact xor8 _ 32 rfl rfl (by omega) (by omega)
        have d1 : decide ((F : Int) ≤ ((X[k]).toNat : Int)) = true := by simp; omega
        have d1' : decide (F ≤ (X[k]).toNat) = true := decide_eq_true hin.1
        have d2 : decide (((X[k]).toNat : Int) < (F : Int) + 26) = true := by simp; omega
        have d2' : decide ((X[k]).toNat < F + 26) = true := decide_eq_true hin.2
        clear hyx hyn hin hy
        go_wp2_with (at_builtin; rw [← W5.out]; go_must (refine bty.wpAppTo rfl (.tmp 29) (.tmp 31) rfl (l := L) (r := [y]) (N := N) ?hs0 rfl Own5.out Hr5.out HNe.out hNs ?hs2 ?_))
        case hs0 => rw [Hlen.out]; rfl
        case hs2 => exact z5
        intro A8 c8 w8 hown8 hg8
        have b8 := hg8.below Own5.out z5
        have bw8 := BB5.out.trans b8
        have Hown8 := Lib.hid hown8
        clear hown8 hg8
        go_wp2
        go_roundw
        case rel => exact ⟨A8, c8, k + 1, by omega, by rw [HNl.out], by go_num, by rw [HN.out]; exact Hown8.out, bw8⟩
        case measure => simp [intOf]; omega
      · have hyx : y = X[k] := by rw [Hy.out]; unfold trn; rw [if_neg (by rw [← HF.out]; exact hin)]
        clear hy
        rw [hyx] at W5
        by_cases hlo : F ≤ (X[k]).toNat
        · have hhi : ¬ (X[k]).toNat < F + 26 := fun q => hin ⟨hlo, q⟩
          have d1 : decide ((F : Int) ≤ ((X[k]).toNat : Int)) = true := by simp; omega
          have d1' : decide (F ≤ (X[k]).toNat) = true := decide_eq_true hlo
          have d2 : decide (((X[k]).toNat : Int) < (F : Int) + 26) = false := by simp; omega
          have d2' : decide ((X[k]).toNat < F + 26) = false := decide_eq_false hhi
          clear hyx hin hlo hhi
          go_wp2_with (at_builtin; rw [← W5.out]; go_must (refine bty.wpAppTo rfl (.tmp 29) (.tmp 31) rfl (l := L) (r := [y]) (N := N) ?hs0 rfl Own5.out Hr5.out HNe.out hNs ?hs2 ?_))
          case hs0 => rw [Hlen.out]; rfl
          case hs2 => exact z5
          intro A8 c8 w8 hown8 hg8
          have b8 := hg8.below Own5.out z5
          have bw8 := BB5.out.trans b8
          have Hown8 := Lib.hid hown8
          clear hown8 hg8
          go_wp2
          go_roundw
          case rel => exact ⟨A8, c8, k + 1, by omega, by rw [HNl.out], by go_num, by rw [HN.out]; exact Hown8.out, bw8⟩
          case measure => simp [intOf]; omega
        · have d1 : decide ((F : Int) ≤ ((X[k]).toNat : Int)) = false := by simp; omega
          have d1' : decide (F ≤ (X[k]).toNat) = false := decide_eq_false hlo
          clear hyx hin hlo
          go_wp2_with (at_builtin; rw [← W5.out]; go_must (refine bty.wpAppTo rfl (.tmp 29) (.tmp 31) rfl (l := L) (r := [y]) (N := N) ?hs0 rfl Own5.out Hr5.out HNe.out hNs ?hs2 ?_))
          case hs0 => rw [Hlen.out]; rfl
          case hs2 => exact z5
          intro A8 c8 w8 hown8 hg8
          have b8 := hg8.below Own5.out z5
          have bw8 := BB5.out.trans b8
          have Hown8 := Lib.hid hown8
          clear hown8 hg8
          go_wp2
          go_roundw
          case rel => exact ⟨A8, c8, k + 1, by omega, by rw [HNl.out], by go_num, by rw [HN.out]; exact Hown8.out, bw8⟩
          case measure => simp [intOf]; omega
    · obtain rfl : k = X.size := by omega
      rw [List.take_of_length_le (by rw [HXL.out]; exact Nat.le_refl _)] at hown
      have hlen : (turned X.data.toList f).length = X.size := by rw [turned_len, HXL.out]
      have hc := bty.conv (show Rb wr wr.heap.size A3 X.size c3 (turned X.data.toList f) by have h := hown.rb; rw [hlen] at h; exact h)
      clear hown hlen
      go_wp2
      go_ret
      exact ⟨rfl, hbel⟩
end Go.Proofs.YtoalncojijmelaaGreatDoor

/-
  The document's find, kinds, Arity.
-/
namespace Go.Proofs.YtoalncojijmelaaGreatDoor
open Go.RowKit Vl

theorem fnd_zero (s t : List UInt8) (i : Nat) : fnd s t i 0 = -1 := rfl
theorem fnd_succ (s t : List UInt8) (i k : Nat) : fnd s t i (k + 1) = if i + t.length ≤ s.length then (if (s.drop i).take t.length = t then (i : Int) else fnd s t (i + 1) k) else -1 := rfl
def FnRel (s t : List UInt8) (n : Nat) (N : Int) (i : Value) : Prop := ∃ k : Nat, k ≤ n + 1 ∧ i = .int .i64 (k : Int) ∧ Hid (fnd s t k (n + 1 - k) = N)

set_option maxRecDepth 100000 in
set_option maxHeartbeats 1000000 in
theorem find_c (s t : List UInt8) (hs1 : s.length ≤ 1000000) (ht1 : t.length ≤ 1000000) (w : World) : Calls Tryz.prog 67 #[st s, st t] w fun e w' => e = .returned (.int .i64 (find s t)) ∧ w = w' := by
  obtain ⟨X, hX⟩ : ∃ X : ByteArray, X = ⟨s.toArray⟩ := ⟨_, rfl⟩
  have hXs : X.size = s.length := by rw [hX]; rfl
  obtain ⟨N, hN⟩ : ∃ N, N = find s t := ⟨_, rfl⟩
  rw [← hN]
  have HN := Lib.hid (show fnd s t 0 (X.size + 1) = N by rw [hN, hXs]; rfl)
  show Calls _ _ #[.string ⟨s.toArray⟩, .string ⟨t.toArray⟩] _ _
  rw [← hX]
  have hz : X.size ≤ 1000000 := by omega
  have HXs := Lib.hid hXs
  have hext := fun i => (show X.extract i (i + t.length) = ⟨((s.drop i).take t.length).toArray⟩ by rw [hX, ext_eq, List.drop_take, Nat.add_sub_cancel_left])
  have Hext := Lib.hid hext
  clear hN hX hXs hext
  go_enter Tryz.func67, Tryz.ntmps67
  go_wp2
  go_loop [5] (fun i => FnRel s t X.size N i) (fun i => X.size + 1 - (intOf i).toNat)
  case atStart => exact ⟨0, by omega, rfl, HN.out⟩
  case round =>
    obtain ⟨k, hk, rfl, H⟩ := hrel
    have e1 : IntKind.i64.wrap ((k : Int) + (t.length : Int)) = ((k + t.length : Nat) : Int) := by rw [IntWalk.i64_in _ (by omega)]; omega
    have hH := H.out
    by_cases hlt : k + t.length ≤ X.size
    · have hsuc : X.size + 1 - k = (X.size - k) + 1 := by omega
      rw [hsuc, fnd_succ, if_pos (by rw [← HXs.out]; exact hlt)] at hH
      have d1 : decide (((k + t.length : Nat) : Int) ≤ (X.size : Int)) = true := by simp; omega
      have d1' : decide (k + t.length ≤ X.size) = true := decide_eq_true hlt
      have d1'' : decide ((k : Int) + (t.length : Int) ≤ (X.size : Int)) = true := by simp; omega
      have hx := Hext.out k
      obtain ⟨u, hu⟩ : ∃ u, u = (s.drop k).take t.length := ⟨_, rfl⟩
      rw [← hu] at hx hH
      clear H hu hsuc
      by_cases heq : u = t
      · rw [if_pos heq] at hH
        subst heq
        subst hH
        go_wp2
        go_ret
        exact ⟨rfl, rfl⟩
      · rw [if_neg heq] at hH
        have d2 : (u == t) = false := beq_eq_false_iff_ne.2 heq
        have H2 := Lib.hid hH
        have hk2 : k + 1 ≤ X.size + 1 := by omega
        clear heq hH
        go_wp2
        go_round
        case rel => exact ⟨k + 1, hk2, by go_num, by rw [show X.size + 1 - (k + 1) = X.size - k by omega]; exact H2⟩
        case measure => simp [intOf]; omega
    · have hN1 : N = -1 := by
        rw [← hH]
        rcases h0 : X.size + 1 - k with _ | j
        · exact fnd_zero s t k
        · rw [fnd_succ, if_neg (by rw [← HXs.out]; exact hlt)]
      subst hN1
      have d1 : decide (((k + t.length : Nat) : Int) ≤ (X.size : Int)) = false := by simp; omega
      have d1' : decide (k + t.length ≤ X.size) = false := decide_eq_false hlt
      have d1'' : decide ((k : Int) + (t.length : Int) ≤ (X.size : Int)) = false := by simp; omega
      clear hH H hlt HN
      go_wp2
      go_ret
      exact ⟨rfl, rfl⟩
end Go.Proofs.YtoalncojijmelaaGreatDoor

/-
  The document's kinds, Arity.
-/
namespace Go.Proofs.YtoalncojijmelaaGreatDoor
open Go.RowKit Vl

theorem kd_none {op : Int} (h : ¬ (4 ≤ op ∧ op ≤ 21)) : kd op = ([], []) := by
  unfold kd
  repeat rw [if_neg (by omega)]
set_option maxRecDepth 100000 in
set_option maxHeartbeats 2000000 in
theorem kinds_c (op : Int) (w : World) : Calls Tryz.prog 50 #[.int .i64 op] w fun e w' => e = .returned (.tuple #[st (kd op).1, st (kd op).2]) ∧ w = w' := by
  by_cases h : 4 ≤ op ∧ op ≤ 21
  · have hc : op = 4 ∨ op = 5 ∨ op = 6 ∨ op = 7 ∨ op = 8 ∨ op = 9 ∨ op = 10 ∨ op = 11 ∨ op = 12 ∨ op = 13 ∨ op = 14 ∨ op = 15 ∨ op = 16 ∨ op = 17 ∨ op = 18 ∨ op = 19 ∨ op = 20 ∨ op = 21 := by omega
    clear h
    rcases hc with rfl | rfl | rfl | rfl | rfl | rfl | rfl | rfl | rfl | rfl | rfl | rfl | rfl | rfl | rfl | rfl | rfl | rfl
    all_goals
      go_enter Tryz.func50, Tryz.ntmps50
      go_wp2
      go_ret2
      exact ⟨rfl, rfl⟩
  · rw [kd_none h]
    have d4 : (op == 4) = false := beq_eq_false_iff_ne.2 (by omega)
    have d5 : (op == 5) = false := beq_eq_false_iff_ne.2 (by omega)
    have d6 : (op == 6) = false := beq_eq_false_iff_ne.2 (by omega)
    have d7 : (op == 7) = false := beq_eq_false_iff_ne.2 (by omega)
    have d8 : (op == 8) = false := beq_eq_false_iff_ne.2 (by omega)
    have d9 : (op == 9) = false := beq_eq_false_iff_ne.2 (by omega)
    have d10 : (op == 10) = false := beq_eq_false_iff_ne.2 (by omega)
    have d11 : (op == 11) = false := beq_eq_false_iff_ne.2 (by omega)
    have d12 : (op == 12) = false := beq_eq_false_iff_ne.2 (by omega)
    have d13 : (op == 13) = false := beq_eq_false_iff_ne.2 (by omega)
    have d14 : (op == 14) = false := beq_eq_false_iff_ne.2 (by omega)
    have d15 : (op == 15) = false := beq_eq_false_iff_ne.2 (by omega)
    have d16 : (op == 16) = false := beq_eq_false_iff_ne.2 (by omega)
    have d17 : (op == 17) = false := beq_eq_false_iff_ne.2 (by omega)
    have d18 : (op == 18) = false := beq_eq_false_iff_ne.2 (by omega)
    have d19 : (op == 19) = false := beq_eq_false_iff_ne.2 (by omega)
    have d20 : (op == 20) = false := beq_eq_false_iff_ne.2 (by omega)
    have d21 : (op == 21) = false := beq_eq_false_iff_ne.2 (by omega)
    clear h
    go_enter Tryz.func50, Tryz.ntmps50
    go_wp2
    go_ret2
    exact ⟨rfl, rfl⟩
set_option maxRecDepth 100000 in
theorem arity_c (op : Int) (w : World) : Calls Tryz.prog 30 #[.int .i64 op] w fun e w' => e = .returned (.int .i64 (ar op : Int)) ∧ w = w' := by
  obtain ⟨K, hK⟩ : ∃ K, K = kd op := ⟨_, rfl⟩
  have hc := kinds_c op w
  rw [← hK] at hc
  have ha : ar op = K.1.length := by rw [hK]; rfl
  rw [ha]
  have Hc := Lib.hid hc
  clear hK hc ha
  go_enter Tryz.func30, Tryz.ntmps30
  go_wp2_with fail
  refine Hc.out.mono ?_
  rintro e w1 ⟨rfl, rfl⟩
  go_wp2
  go_ret
  exact ⟨rfl, rfl⟩
end Go.Proofs.YtoalncojijmelaaGreatDoor

/-
  The document's Result.
-/
namespace Go.Proofs.YtoalncojijmelaaGreatDoor
open Go.RowKit Vl

/-- The cells of flags. -/
def lvb (L : List Bool) : List Value := L.map .bool
theorem lvb_at {w : World} {B m c k : Nat} {A : Option Addr} {I : List Bool} (h : Rc 1 w B A m c (lvb I)) (hk : k < m) :
    ∃ b o q, A = some ⟨b, o, none⟩ ∧ b < B ∧ w.cell? ⟨b, o + k, none⟩ = some (.bool q) ∧ I[k]? = some q := by
  obtain ⟨b, o, x, rfl, hb, hc, hx⟩ := h.at_ (k := k) hk
  unfold lvb at hx
  rw [List.getElem?_map] at hx
  obtain ⟨q, hq, rfl⟩ := Option.map_eq_some_iff.1 hx
  exact ⟨b, o, q, rfl, hb, hc, hq⟩
theorem lvb_len1 {w : World} {B m c : Nat} {A : Option Addr} {I : List Bool} (h : Rc 1 w B A m c (lvb I)) : I.length = m := by
  have := h.len1
  unfold lvb at this
  rw [List.length_map] at this
  exact this
theorem rg_cons (c : UInt8) (k : List UInt8) (b : Bool) (l : List Bool) (o : Option Bool) : rg (c :: k) (b :: l) o = if c = 110 ∧ b = true ∨ c = 116 ∧ b = false then none else if c = 97 ∧ (o = some (!b)) then none else rg k l (if c = 97 then some b else o) := rfl
theorem rg_nil (l : List Bool) (o : Option Bool) : rg [] l o = some o := rfl
theorem kd_mem (op : Int) : (∀ c ∈ (kd op).1, c = 110 ∨ c = 116 ∨ c = 97) ∧ ((kd op).2 = [97] → 97 ∈ (kd op).1) ∧ (kd op).1.length ≤ 3 := by
  unfold kd
  repeat' split
  all_goals (refine ⟨fun c hc => ?_, fun h => ?_, ?_⟩ <;> simp_all <;> rcases hc with h | h <;> simp [h])
/-- Which kind was last, and where. -/
def An (L : List Bool) (k : Nat) (o : Option Bool) (av : Int) : Prop := (o = none ∧ av = -1) ∨ ∃ (j : Nat) (b : Bool), o = some b ∧ av = (j : Int) ∧ j < k ∧ L[j]? = some b
def RsRel (Y : ByteArray) (L : List Bool) (n : Nat) (G : Option (Option Bool)) (w : World) (a i : Value) (wr : World) : Prop :=
  ∃ (k : Nat) (av : Int) (o : Option Bool), k ≤ n ∧ a = .int .i64 av ∧ i = .int .i64 (k : Int) ∧ Hid (An L k o av) ∧ Hid (rg (Y.data.toList.drop k) (L.drop k) o = G) ∧ ∃ q, wr = w.drewN q
/-- An 'a' was seen, or not yet. -/
theorem rg_some {k : List UInt8} : ∀ {l : List Bool} {o o' : Option Bool}, rg k l o = some o' → (97 ∈ k ∨ o ≠ none) → o' ≠ none := by
  induction k with
  | nil => intro l o o' h h2; rw [rg_nil] at h; injection h with h; subst h; exact h2.resolve_left (by simp)
  | cons c k ih =>
    intro l o o' h h2
    cases l with
    | nil => simp [rg] at h
    | cons b l =>
      rw [rg_cons] at h
      split at h
      · cases h
      · split at h
        · cases h
        · refine ih h ?_
          by_cases hc : c = 97
          · exact .inr (by rw [if_pos hc]; simp)
          · rw [if_neg hc]
            rcases h2 with h2 | h2
            · rcases List.mem_cons.1 h2 with h2 | h2
              · exact absurd h2.symm hc
              · exact .inl h2
            · exact .inr h2

set_option maxRecDepth 100000 in
set_option maxHeartbeats 4000000 in
theorem result_c (op : Int) (A : Option Addr) (n c : Nat) (L : List Bool) (w : World) (hr : Rc 1 w w.heap.size A n c (lvb L)) (hn : n ≤ 1000000) :
    Calls Tryz.prog 49 #[.int .i64 op, .slice A n c] w fun e w' => e = .returned (.tuple #[.bool (res op L).1, .int .i64 ((res op L).2 : Int)]) ∧ ∃ q, w' = w.drewN q := by
  have hLl := lvb_len1 hr
  obtain ⟨hmem, hin, hk3⟩ := kd_mem op
  have hkc := kinds_c op w
  obtain ⟨K, hK⟩ : ∃ K, K = (kd op).1 := ⟨_, rfl⟩
  obtain ⟨T, hT⟩ : ∃ T, T = (kd op).2 := ⟨_, rfl⟩
  have hres : res op L = if K = [] then (false, 1) else if L.length ≠ K.length then (false, 11) else match rg K L none with | none => (false, 11) | some o => if T = [97] then (o.getD false, 0) else (T == [116], 0) := by rw [hK, hT]; rfl
  rw [← hK] at hmem hk3
  rw [← hK, ← hT] at hkc hin
  obtain ⟨R, hR⟩ : ∃ R, R = res op L := ⟨_, rfl⟩
  rw [← hR] at hres ⊢
  have Hkc := Lib.hid hkc
  clear hK hT hR hkc
  by_cases hK0 : K = []
  · rw [if_pos hK0] at hres
    subst hK0 hres
    go_enter Tryz.func49, Tryz.ntmps49
    go_wp2_with fail
    refine Hkc.out.mono ?_
    rintro e w1 ⟨rfl, rfl⟩
    go_wp2
    go_ret2
    exact ⟨rfl, 0, rfl⟩
  · rw [if_neg hK0] at hres
    have dK : (K == []) = false := beq_eq_false_iff_ne.2 hK0
    have dK' : K.isEmpty = false := by cases K with | nil => exact absurd rfl hK0 | cons _ _ => rfl
    by_cases hln : n = K.length
    · rw [if_neg (by rw [hLl, hln]; simp)] at hres
      obtain ⟨Y, hY⟩ : ∃ Y : ByteArray, Y = ⟨K.toArray⟩ := ⟨_, rfl⟩
      have hYl : Y.data.toList = K := by rw [hY]
      have hYs : Y.size = K.length := by rw [hY]; rfl
      have hKY : st K = .string Y := by rw [hY]
      rw [hKY] at Hkc
      have hn3 : Y.size ≤ 3 := by rw [hYs]; exact hk3
      have hnY : n = Y.size := by rw [hYs, hln]
      obtain ⟨G, hG⟩ : ∃ G, G = rg K L none := ⟨_, rfl⟩
      rw [← hG] at hres
      have HG := Lib.hid (show rg (Y.data.toList.drop 0) (L.drop 0) none = G by rw [hYl, hG, List.drop_zero, List.drop_zero])
      have Hmem := Lib.hid (show ∀ c ∈ Y.data.toList, c = 110 ∨ c = 116 ∨ c = 97 by rw [hYl]; exact hmem)
      have Hin := Lib.hid (show T = [97] → ∀ o, G = some o → o ≠ none from fun h o ho => rg_some (by rw [← hG]; exact ho) (.inl (hin h)))
      have HLl := Lib.hid hLl
      have hYe : (Y.toList.isEmpty) = false := by
        have h1 : Y.toList = K := by
          rw [hY]
          simp
        rw [h1]; exact dK'
      have hYe2 : Y.data.isEmpty = false := by rw [hY]; cases K with | nil => exact absurd rfl hK0 | cons _ _ => rfl
      have Hr := Lib.hid hr
      have Hres := Lib.hid hres
      subst hnY
      clear hY hYl hYs hKY hG hmem hin hLl hk3 hK0 dK dK' hln hr hres
      go_enter Tryz.func49, Tryz.ntmps49
      go_wp2_with fail
      refine Hkc.out.mono ?_
      rintro e w1 ⟨rfl, rfl⟩
      go_wp2
      go_loopw [8, 9] (fun a i wr => RsRel Y L Y.size G w a i wr) (fun _ i _ => Y.size - (intOf i).toNat)
      case atStart => exact ⟨0, -1, none, Nat.zero_le _, rfl, rfl, Lib.hid (.inl ⟨rfl, rfl⟩), HG, 0, rfl⟩
      case round =>
        obtain ⟨k, av, o, hk, rfl, rfl, Han, Hrg, q, rfl⟩ := hrel
        by_cases hlt : k < Y.size
        · have hrW : Rc 1 (w.drewN q) (w.drewN q).heap.size A Y.size c (lvb L) := Hr.out
          obtain ⟨b1, o1, x, rfl, hb1, hc1, hx⟩ := lvb_at hrW hlt
          have hd := str_drop Y k hlt
          have hLd : L.drop k = x :: L.drop (k + 1) := by
            have h2 : k < L.length := by rw [HLl.out]; exact hlt
            rw [List.drop_eq_getElem_cons h2]
            rw [List.getElem?_eq_getElem h2] at hx
            injection hx with hx
            rw [hx]
          have hrg := Hrg.out
          rw [hd, hLd, rg_cons] at hrg
          have hcm := Hmem.out Y[k] (by
            have h2 : k < Y.data.toList.length := by rw [Array.length_toList]; exact hlt
            exact List.getElem_mem h2)
          have Hx := Lib.hid hx
          clear hd hLd hx hrW Hrg
          rcases hcm with hcm | hcm | hcm
          · have hcn : (Y[k]).toNat = 110 := by rw [hcm]; rfl
            rw [hcm] at hrg
            cases x
            · rw [if_neg (by simp), if_neg (by simp), if_neg (by decide)] at hrg
              have Hrg2 := Lib.hid hrg
              clear hrg hcm
              go_wp2_with fail
              go_quiet (fail)
              go_wp2
              go_roundw
              case rel => exact ⟨k + 1, av, o, hlt, rfl, by go_num, Lib.hid (Han.out.imp id fun ⟨j, b, h1, h2, h3, h4⟩ => ⟨j, b, h1, h2, by omega, h4⟩), Hrg2, _, rfl⟩
              case measure => simp [intOf]; omega
            · rw [if_pos (by simp)] at hrg
              have hR : R = (false, 11) := by rw [Hres.out, ← hrg]
              subst hR
              clear hrg hcm Hres
              go_wp2
              go_ret2
              exact ⟨rfl, q, rfl⟩
          · have hcn : (Y[k]).toNat = 116 := by rw [hcm]; rfl
            rw [hcm] at hrg
            cases x
            · rw [if_pos (by simp)] at hrg
              have hR : R = (false, 11) := by rw [Hres.out, ← hrg]
              subst hR
              clear hrg hcm Hres
              go_wp2
              go_ret2
              exact ⟨rfl, q, rfl⟩
            · rw [if_neg (by simp), if_neg (by simp), if_neg (by decide)] at hrg
              have Hrg2 := Lib.hid hrg
              clear hrg hcm
              go_wp2_with fail
              go_quiet (fail)
              go_wp2
              go_roundw
              case rel => exact ⟨k + 1, av, o, hlt, rfl, by go_num, Lib.hid (Han.out.imp id fun ⟨j, b, h1, h2, h3, h4⟩ => ⟨j, b, h1, h2, by omega, h4⟩), Hrg2, _, rfl⟩
              case measure => simp [intOf]; omega
          · have hcn : (Y[k]).toNat = 97 := by rw [hcm]; rfl
            rw [hcm, if_neg (by simp)] at hrg
            rcases Han.out with ⟨ho, hav⟩ | ⟨j, b, ho, hav, hjk, hLj⟩
            · subst ho hav
              rw [if_neg (by simp), if_pos rfl] at hrg
              have Hrg2 := Lib.hid hrg
              have Han2 := Lib.hid (show An L (k + 1) (some x) (k : Int) from .inr ⟨k, x, rfl, rfl, by omega, Hx.out⟩)
              clear hrg hcm
              go_wp2_with fail
              go_quiet (fail)
              go_wp2
              go_roundw
              case rel => exact ⟨k + 1, (k : Int), some x, hlt, rfl, by go_num, Han2, Hrg2, _, rfl⟩
              case measure => simp [intOf]; omega
            · subst ho hav
              obtain ⟨b2, o2, y, hE, hb2, hc2, hy⟩ := lvb_at (show Rc 1 (w.drewN q) (w.drewN q).heap.size (some ⟨b1, o1, none⟩) Y.size c (lvb L) from Hr.out) (k := j) (by omega)
              injection hE with hE
              injection hE with hE1 hE2
              subst hE1 hE2
              obtain rfl : y = b := by rw [hLj] at hy; injection hy with hy; exact hy.symm
              have hjs : j < Y.size := by omega
              have hc1' : w.cell? ⟨b1, o1 + k, none⟩ = some (.bool x) := hc1
              have hc2' : w.cell? ⟨b1, o1 + j, none⟩ = some (.bool y) := hc2
              have hj0 : decide ((0 : Int) ≤ (j : Int)) = true := by simp
              have hj1 : decide ((j : Int) < (Y.size : Int)) = true := by simp; omega
              clear hy hLj
              by_cases hyx : y = !x
              · rw [if_pos (by rw [hyx]; simp)] at hrg
                have hR : R = (false, 11) := by rw [Hres.out, ← hrg]
                subst hR
                clear hrg hcm Hres
                cases x <;> cases y <;> first | (simp at hyx; done) | skip
                all_goals
                  clear hyx
                  go_wp2_with fail
                  go_quiet (fail)
                  go_wp2
                  go_ret2
                  exact ⟨rfl, _, rfl⟩
              · rw [if_neg (by simpa using hyx), if_pos rfl] at hrg
                have Hrg2 := Lib.hid hrg
                have Han2 := Lib.hid (show An L (k + 1) (some x) (k : Int) from .inr ⟨k, x, rfl, rfl, by omega, Hx.out⟩)
                clear hrg hcm
                cases x <;> cases y <;> first | (simp at hyx; done) | skip
                all_goals
                  clear hyx
                  go_wp2_with fail
                  go_quiet (fail)
                  go_wp2
                  go_roundw
                  case rel => exact ⟨k + 1, (k : Int), _, hlt, rfl, by go_num, Han2, Hrg2, _, rfl⟩
                  case measure => simp [intOf]; omega
        · obtain rfl : k = Y.size := by omega
          have hrg := Hrg.out
          rw [List.drop_of_length_le (l := Y.data.toList) (by rw [Array.length_toList]; exact Nat.le_refl _), rg_nil] at hrg
          have hres2 := Hres.out
          rw [← hrg] at hres2
          dsimp only at hres2
          by_cases hT : T = [97]
          · rw [if_pos hT] at hres2
            have hon := Hin.out hT o hrg.symm
            rcases Han.out with ⟨ho, hav⟩ | ⟨j, b, ho, hav, hjk, hLj⟩
            · exact absurd ho hon
            · subst ho hav hT
              obtain ⟨b2, o2, y, rfl, hb2, hc2, hy⟩ := lvb_at (show Rc 1 (w.drewN q) (w.drewN q).heap.size A Y.size c (lvb L) from Hr.out) (k := j) (by omega)
              obtain rfl : y = b := by rw [hLj] at hy; injection hy with hy; exact hy.symm
              have hR : R = (y, 0) := hres2
              subst hR
              clear hres2 hon hrg hy hLj Han Hrg Hin Hres
              go_wp2
              go_ret2
              exact ⟨rfl, q, rfl⟩
          · rw [if_neg hT] at hres2
            have dT : (T == [97]) = false := beq_eq_false_iff_ne.2 hT
            subst hres2
            clear hrg Han Hrg Hin hT
            go_wp2
            go_ret2
            exact ⟨rfl, q, rfl⟩
    · rw [if_pos (by rw [hLl]; exact hln)] at hres
      subst hres
      have d1 : ((n : Int) != (K.length : Int)) = true := by simpa using fun e => hln (by omega)
      clear hin hmem hr hLl hln
      go_enter Tryz.func49, Tryz.ntmps49
      go_wp2_with fail
      refine Hkc.out.mono ?_
      rintro e w1 ⟨rfl, rfl⟩
      go_wp2
      go_ret2
      exact ⟨rfl, 0, rfl⟩
end Go.Proofs.YtoalncojijmelaaGreatDoor

/-
  The document's reckoned.
-/
namespace Go.Proofs.YtoalncojijmelaaGreatDoor
open Go.RowKit Vl

theorem yes_p (b : Bool) (w : World) : Calls Tryz.prog 60 #[.bool b] w (RetV w (.agg #[.bool false, .int .i64 (if b then 1 else 0), .string ⟨#[]⟩])) := yes_c b w
set_option maxRecDepth 100000 in
set_option maxHeartbeats 4000000 in
theorem reckoned_c (op : Int) (a b c : V) (hop : op = 4 ∨ op = 5 ∨ op = 6 ∨ op = 7 ∨ op = 8 ∨ op = 14 ∨ op = 15 ∨ op = 16 ∨ op = 17) (ha : I a.n) (hb : I b.n) (w : World) :
    Calls Tryz.prog 52 #[.int .i64 op, vv a, vv b, vv c] w (RetV w (vv (rek op a b c))) := by
  have hdv := fun W => div_c a.n b.n ha hb W
  have hcmp := fun W => compare_c a b W
  obtain ⟨q, hq⟩ : ∃ q, q = (dv a.n b.n).1 := ⟨_, rfl⟩
  obtain ⟨r, hr⟩ : ∃ r, r = (dv a.n b.n).2 := ⟨_, rfl⟩
  obtain ⟨cm, hcm⟩ : ∃ cm, cm = cmp a b := ⟨_, rfl⟩
  simp only [← hq, ← hr] at hdv
  simp only [← hcm] at hcmp
  obtain ⟨RR, hRR⟩ : ∃ RR, RR = vv (rek op a b c) := ⟨_, rfl⟩
  have h64 : ∀ x, w64 x = RowKit.wrap64 x := fun x => IntWalk.i64_left x
  have hrek : vv (rek op a b c) = RR := hRR.symm
  unfold rek at hRR
  rw [← hq, ← hr, ← hcm, h64, h64, h64] at hRR
  have HRR := Lib.hid (show Ending.returned RR = Ending.returned (vv (rek op a b c)) by rw [hrek])
  obtain ⟨R0, hR0⟩ : ∃ R0, R0 = vv (rek op a b c) := ⟨_, rfl⟩
  rw [← hR0] at HRR ⊢
  have Hdv := Lib.hid hdv; have Hcmp := Lib.hid hcmp
  clear hq hr hcm hdv hcmp ha hb hrek hR0 h64
  obtain ⟨t, n, s⟩ := a
  obtain ⟨t', n', s'⟩ := b
  obtain ⟨t2, n2, s2⟩ := c
  dsimp only at *
  obtain ⟨w0, hw0⟩ : ∃ w0, w0 = w.alloc (.cells #[.bool t, .int .i64 n, .string ⟨s.toArray⟩] 32) := ⟨_, rfl⟩
  have z0 : w0.heap.size = w.heap.size + 1 := by rw [hw0]; simp
  have b0 : Below w.heap.size w w0 := by rw [hw0]; exact (Below.refl _ _).alloc (Nat.le_refl _) _
  have x0 : Bx w0 w.heap.size (.bool t) (.int .i64 n) (.string ⟨s.toArray⟩) := by rw [hw0]; exact Bx.made _ _ _ _ _
  obtain ⟨w1, hw1⟩ : ∃ w1, w1 = w0.alloc (.cells #[.bool t', .int .i64 n', .string ⟨s'.toArray⟩] 32) := ⟨_, rfl⟩
  have z1 : w1.heap.size = w.heap.size + 2 := by rw [hw1]; simp [z0]
  have b1 : Below w0.heap.size w0 w1 := by rw [hw1]; exact (Below.refl _ _).alloc (Nat.le_refl _) _
  have y1 : Bx w1 w0.heap.size (.bool t') (.int .i64 n') (.string ⟨s'.toArray⟩) := by rw [hw1]; exact Bx.made _ _ _ _ _
  rw [z0] at y1
  obtain ⟨w2, hw2⟩ : ∃ w2, w2 = w1.alloc (.cells #[.bool t2, .int .i64 n2, .string ⟨s2.toArray⟩] 32) := ⟨_, rfl⟩
  have z2 : w2.heap.size = w.heap.size + 3 := by rw [hw2]; simp [z1]
  have b2 : Below w1.heap.size w1 w2 := by rw [hw2]; exact (Below.refl _ _).alloc (Nat.le_refl _) _
  have u2 : Bx w2 w1.heap.size (.bool t2) (.int .i64 n2) (.string ⟨s2.toArray⟩) := by rw [hw2]; exact Bx.made _ _ _ _ _
  rw [z1] at u2
  obtain ⟨w3, hw3⟩ : ∃ w3, w3 = w2.alloc (.cells #[.bool false, .int .i64 0, .string ⟨#[]⟩] 32) := ⟨_, rfl⟩
  have z3 : w3.heap.size = w.heap.size + 4 := by rw [hw3]; simp [z2]
  have b3 : Below w2.heap.size w2 w3 := by rw [hw3]; exact (Below.refl _ _).alloc (Nat.le_refl _) _
  have r3 : Bx w3 w2.heap.size (.bool false) (.int .i64 0) (.string ⟨#[]⟩) := by rw [hw3]; exact Bx.made _ _ _ _ _
  rw [z2] at r3
  have b23 : Below w1.heap.size w1 w3 := b2.trans (b3.mono (by omega))
  have b13 : Below w0.heap.size w0 w3 := b1.trans (b23.mono (by omega))
  have x3 := x0.below b13 x0.lt
  have y3 := y1.below b23 y1.lt
  have u3 := u2.below b3 u2.lt
  have bw3 := b0.trans (b13.mono (by omega))
  have W0 := Lib.hid hw0; have W1 := Lib.hid hw1; have W2 := Lib.hid hw2; have W3 := Lib.hid hw3; have Z0 := Lib.hid z0; have Z1 := Lib.hid z1; have Z2 := Lib.hid z2
  have X3 := Lib.hid x3; have Y3 := Lib.hid y3; have U3 := Lib.hid u3; have R3 := Lib.hid r3; have B3 := Lib.hid bw3
  clear hw0 hw1 hw2 hw3 b0 x0 b1 y1 b2 u2 b3 b23 b13 z0 z1 z2 x3 y3 u3 r3 bw3
  obtain ⟨c0, c1, c2, -, -, -, lx⟩ := X3.out
  obtain ⟨e0, e1, e2, -, -, -, ly⟩ := Y3.out
  obtain ⟨i0, i1, i2, -, -, -, lu⟩ := U3.out
  obtain ⟨o0, o1, o2, f0, f1, f2, lr⟩ := R3.out
  rcases hop with rfl | rfl | rfl | rfl | rfl | rfl | rfl | rfl | rfl
  · go_enter Tryz.func52, Tryz.ntmps52
    go_wp2_with (first | rw [← W0.out, ← W1.out, ← W2.out, ← W3.out, Z0.out, Z1.out, Z2.out] | rw [← W0.out, ← W1.out, ← W2.out, ← W3.out, Z0.out, Z1.out] | rw [← W0.out, ← W1.out, ← W2.out, ← W3.out])
    refine (Hdv.out w3).mono ?_
    rintro e w4 ⟨rfl, nd, rfl⟩
    have b4 : Below w3.heap.size w3 (w3.drewN nd) := below_drewN (Below.refl _ _) _
    have X4 : Hid (Bx (w3.drewN nd) _ _ _ _) := Lib.hid (X3.out.below b4 lx); have Y4 : Hid (Bx (w3.drewN nd) _ _ _ _) := Lib.hid (Y3.out.below b4 ly); have U4 : Hid (Bx (w3.drewN nd) _ _ _ _) := Lib.hid (U3.out.below b4 lu); have R4 : Hid (Bx (w3.drewN nd) _ _ _ _) := Lib.hid (R3.out.below b4 lr); have B4 := Lib.hid (B3.out.trans (b4.mono (by omega)))
    obtain ⟨w4, hw4⟩ : ∃ w4, w4 = w3.drewN nd := ⟨_, rfl⟩
    have z4 : w4.heap.size = w3.heap.size := by rw [hw4]; rfl
    rw [← hw4] at X4 Y4 U4 R4 B4 b4 ⊢
    clear hw4 b4
    clear c0 c1 c2 e0 e1 e2 i0 i1 i2 o0 o1 o2 f0 f1 f2 lx ly lu lr
    obtain ⟨c0, c1, c2, -, -, -, lx⟩ := X4.out
    obtain ⟨e0, e1, e2, -, -, -, ly⟩ := Y4.out
    obtain ⟨i0, i1, i2, -, -, -, lu⟩ := U4.out
    obtain ⟨o0, o1, o2, f0, f1, f2, lr⟩ := R4.out
    go_wp2_with fail
    refine (num_p _ _).mono ?_
    rintro e w6 ⟨rfl, b6⟩
    have z6 := b6.size
    have X6 := Lib.hid (X4.out.below b6 (by omega)); have Y6 := Lib.hid (Y4.out.below b6 (by omega)); have U6 := Lib.hid (U4.out.below b6 (by omega)); have R6 := Lib.hid (R4.out.below b6 (by omega)); have B6 := Lib.hid (B4.out.trans (b6.mono (by omega)))
    clear c0 c1 c2 e0 e1 e2 i0 i1 i2 o0 o1 o2 f0 f1 f2 lx ly lu lr
    obtain ⟨c0, c1, c2, -, -, -, lx⟩ := X6.out
    obtain ⟨e0, e1, e2, -, -, -, ly⟩ := Y6.out
    obtain ⟨i0, i1, i2, -, -, -, lu⟩ := U6.out
    obtain ⟨o0, o1, o2, f0, f1, f2, lr⟩ := R6.out
    go_wp2
    change bodyPost _ _ _ _ _ (put3 w6 (w.heap.size + 3) _ _ _)
    have s0 := fun v0 v1 v2 => (put3_box R6.out v0 v1 v2).c0
    have s1 := fun v0 v1 v2 => (put3_box R6.out v0 v1 v2).c1
    have s2 := fun v0 v1 v2 => (put3_box R6.out v0 v1 v2).c2
    refine bodyPost_ret (v := RR) ?_ rfl ⟨HRR.out, B6.out.trans ((put3_below _ _ _ _ _).mono (by omega))⟩
    simp [results, Tryz.results52, go_sem, s0, s1, s2, hRR, num]
  · go_enter Tryz.func52, Tryz.ntmps52
    go_wp2_with (first | rw [← W0.out, ← W1.out, ← W2.out, ← W3.out, Z0.out, Z1.out, Z2.out] | rw [← W0.out, ← W1.out, ← W2.out, ← W3.out, Z0.out, Z1.out] | rw [← W0.out, ← W1.out, ← W2.out, ← W3.out])
    refine (Hdv.out w3).mono ?_
    rintro e w4 ⟨rfl, nd, rfl⟩
    have b4 : Below w3.heap.size w3 (w3.drewN nd) := below_drewN (Below.refl _ _) _
    have X4 : Hid (Bx (w3.drewN nd) _ _ _ _) := Lib.hid (X3.out.below b4 lx); have Y4 : Hid (Bx (w3.drewN nd) _ _ _ _) := Lib.hid (Y3.out.below b4 ly); have U4 : Hid (Bx (w3.drewN nd) _ _ _ _) := Lib.hid (U3.out.below b4 lu); have R4 : Hid (Bx (w3.drewN nd) _ _ _ _) := Lib.hid (R3.out.below b4 lr); have B4 := Lib.hid (B3.out.trans (b4.mono (by omega)))
    obtain ⟨w4, hw4⟩ : ∃ w4, w4 = w3.drewN nd := ⟨_, rfl⟩
    have z4 : w4.heap.size = w3.heap.size := by rw [hw4]; rfl
    rw [← hw4] at X4 Y4 U4 R4 B4 b4 ⊢
    clear hw4 b4
    clear c0 c1 c2 e0 e1 e2 i0 i1 i2 o0 o1 o2 f0 f1 f2 lx ly lu lr
    obtain ⟨c0, c1, c2, -, -, -, lx⟩ := X4.out
    obtain ⟨e0, e1, e2, -, -, -, ly⟩ := Y4.out
    obtain ⟨i0, i1, i2, -, -, -, lu⟩ := U4.out
    obtain ⟨o0, o1, o2, f0, f1, f2, lr⟩ := R4.out
    go_wp2_with fail
    refine (num_p _ _).mono ?_
    rintro e w6 ⟨rfl, b6⟩
    have z6 := b6.size
    have X6 := Lib.hid (X4.out.below b6 (by omega)); have Y6 := Lib.hid (Y4.out.below b6 (by omega)); have U6 := Lib.hid (U4.out.below b6 (by omega)); have R6 := Lib.hid (R4.out.below b6 (by omega)); have B6 := Lib.hid (B4.out.trans (b6.mono (by omega)))
    clear c0 c1 c2 e0 e1 e2 i0 i1 i2 o0 o1 o2 f0 f1 f2 lx ly lu lr
    obtain ⟨c0, c1, c2, -, -, -, lx⟩ := X6.out
    obtain ⟨e0, e1, e2, -, -, -, ly⟩ := Y6.out
    obtain ⟨i0, i1, i2, -, -, -, lu⟩ := U6.out
    obtain ⟨o0, o1, o2, f0, f1, f2, lr⟩ := R6.out
    go_wp2
    change bodyPost _ _ _ _ _ (put3 w6 (w.heap.size + 3) _ _ _)
    have s0 := fun v0 v1 v2 => (put3_box R6.out v0 v1 v2).c0
    have s1 := fun v0 v1 v2 => (put3_box R6.out v0 v1 v2).c1
    have s2 := fun v0 v1 v2 => (put3_box R6.out v0 v1 v2).c2
    refine bodyPost_ret (v := RR) ?_ rfl ⟨HRR.out, B6.out.trans ((put3_below _ _ _ _ _).mono (by omega))⟩
    simp [results, Tryz.results52, go_sem, s0, s1, s2, hRR, num]
  · go_enter Tryz.func52, Tryz.ntmps52
    go_wp2_with (first | rw [← W0.out, ← W1.out, ← W2.out, ← W3.out, Z0.out, Z1.out, Z2.out] | rw [← W0.out, ← W1.out, ← W2.out, ← W3.out, Z0.out, Z1.out] | rw [← W0.out, ← W1.out, ← W2.out, ← W3.out])
    refine (Hdv.out w3).mono ?_
    rintro e w4 ⟨rfl, nd, rfl⟩
    have b4 : Below w3.heap.size w3 (w3.drewN nd) := below_drewN (Below.refl _ _) _
    have X4 : Hid (Bx (w3.drewN nd) _ _ _ _) := Lib.hid (X3.out.below b4 lx); have Y4 : Hid (Bx (w3.drewN nd) _ _ _ _) := Lib.hid (Y3.out.below b4 ly); have U4 : Hid (Bx (w3.drewN nd) _ _ _ _) := Lib.hid (U3.out.below b4 lu); have R4 : Hid (Bx (w3.drewN nd) _ _ _ _) := Lib.hid (R3.out.below b4 lr); have B4 := Lib.hid (B3.out.trans (b4.mono (by omega)))
    obtain ⟨w4, hw4⟩ : ∃ w4, w4 = w3.drewN nd := ⟨_, rfl⟩
    have z4 : w4.heap.size = w3.heap.size := by rw [hw4]; rfl
    rw [← hw4] at X4 Y4 U4 R4 B4 b4 ⊢
    clear hw4 b4
    clear c0 c1 c2 e0 e1 e2 i0 i1 i2 o0 o1 o2 f0 f1 f2 lx ly lu lr
    obtain ⟨c0, c1, c2, -, -, -, lx⟩ := X4.out
    obtain ⟨e0, e1, e2, -, -, -, ly⟩ := Y4.out
    obtain ⟨i0, i1, i2, -, -, -, lu⟩ := U4.out
    obtain ⟨o0, o1, o2, f0, f1, f2, lr⟩ := R4.out
    go_wp2_with fail
    refine (num_p _ _).mono ?_
    rintro e w6 ⟨rfl, b6⟩
    have z6 := b6.size
    have X6 := Lib.hid (X4.out.below b6 (by omega)); have Y6 := Lib.hid (Y4.out.below b6 (by omega)); have U6 := Lib.hid (U4.out.below b6 (by omega)); have R6 := Lib.hid (R4.out.below b6 (by omega)); have B6 := Lib.hid (B4.out.trans (b6.mono (by omega)))
    clear c0 c1 c2 e0 e1 e2 i0 i1 i2 o0 o1 o2 f0 f1 f2 lx ly lu lr
    obtain ⟨c0, c1, c2, -, -, -, lx⟩ := X6.out
    obtain ⟨e0, e1, e2, -, -, -, ly⟩ := Y6.out
    obtain ⟨i0, i1, i2, -, -, -, lu⟩ := U6.out
    obtain ⟨o0, o1, o2, f0, f1, f2, lr⟩ := R6.out
    go_wp2
    change bodyPost _ _ _ _ _ (put3 w6 (w.heap.size + 3) _ _ _)
    have s0 := fun v0 v1 v2 => (put3_box R6.out v0 v1 v2).c0
    have s1 := fun v0 v1 v2 => (put3_box R6.out v0 v1 v2).c1
    have s2 := fun v0 v1 v2 => (put3_box R6.out v0 v1 v2).c2
    refine bodyPost_ret (v := RR) ?_ rfl ⟨HRR.out, B6.out.trans ((put3_below _ _ _ _ _).mono (by omega))⟩
    simp [results, Tryz.results52, go_sem, s0, s1, s2, hRR, num]
  · go_enter Tryz.func52, Tryz.ntmps52
    go_wp2_with (first | rw [← W0.out, ← W1.out, ← W2.out, ← W3.out, Z0.out, Z1.out, Z2.out] | rw [← W0.out, ← W1.out, ← W2.out, ← W3.out, Z0.out, Z1.out] | rw [← W0.out, ← W1.out, ← W2.out, ← W3.out])
    refine (Hdv.out w3).mono ?_
    rintro e w4 ⟨rfl, nd, rfl⟩
    have b4 : Below w3.heap.size w3 (w3.drewN nd) := below_drewN (Below.refl _ _) _
    have X4 : Hid (Bx (w3.drewN nd) _ _ _ _) := Lib.hid (X3.out.below b4 lx); have Y4 : Hid (Bx (w3.drewN nd) _ _ _ _) := Lib.hid (Y3.out.below b4 ly); have U4 : Hid (Bx (w3.drewN nd) _ _ _ _) := Lib.hid (U3.out.below b4 lu); have R4 : Hid (Bx (w3.drewN nd) _ _ _ _) := Lib.hid (R3.out.below b4 lr); have B4 := Lib.hid (B3.out.trans (b4.mono (by omega)))
    obtain ⟨w4, hw4⟩ : ∃ w4, w4 = w3.drewN nd := ⟨_, rfl⟩
    have z4 : w4.heap.size = w3.heap.size := by rw [hw4]; rfl
    rw [← hw4] at X4 Y4 U4 R4 B4 b4 ⊢
    clear hw4 b4
    clear c0 c1 c2 e0 e1 e2 i0 i1 i2 o0 o1 o2 f0 f1 f2 lx ly lu lr
    obtain ⟨c0, c1, c2, -, -, -, lx⟩ := X4.out
    obtain ⟨e0, e1, e2, -, -, -, ly⟩ := Y4.out
    obtain ⟨i0, i1, i2, -, -, -, lu⟩ := U4.out
    obtain ⟨o0, o1, o2, f0, f1, f2, lr⟩ := R4.out
    go_wp2_with fail
    refine (num_p _ _).mono ?_
    rintro e w6 ⟨rfl, b6⟩
    have z6 := b6.size
    have X6 := Lib.hid (X4.out.below b6 (by omega)); have Y6 := Lib.hid (Y4.out.below b6 (by omega)); have U6 := Lib.hid (U4.out.below b6 (by omega)); have R6 := Lib.hid (R4.out.below b6 (by omega)); have B6 := Lib.hid (B4.out.trans (b6.mono (by omega)))
    clear c0 c1 c2 e0 e1 e2 i0 i1 i2 o0 o1 o2 f0 f1 f2 lx ly lu lr
    obtain ⟨c0, c1, c2, -, -, -, lx⟩ := X6.out
    obtain ⟨e0, e1, e2, -, -, -, ly⟩ := Y6.out
    obtain ⟨i0, i1, i2, -, -, -, lu⟩ := U6.out
    obtain ⟨o0, o1, o2, f0, f1, f2, lr⟩ := R6.out
    go_wp2
    change bodyPost _ _ _ _ _ (put3 w6 (w.heap.size + 3) _ _ _)
    have s0 := fun v0 v1 v2 => (put3_box R6.out v0 v1 v2).c0
    have s1 := fun v0 v1 v2 => (put3_box R6.out v0 v1 v2).c1
    have s2 := fun v0 v1 v2 => (put3_box R6.out v0 v1 v2).c2
    refine bodyPost_ret (v := RR) ?_ rfl ⟨HRR.out, B6.out.trans ((put3_below _ _ _ _ _).mono (by omega))⟩
    simp [results, Tryz.results52, go_sem, s0, s1, s2, hRR, num]
  · go_enter Tryz.func52, Tryz.ntmps52
    go_wp2_with (first | rw [← W0.out, ← W1.out, ← W2.out, ← W3.out, Z0.out, Z1.out, Z2.out] | rw [← W0.out, ← W1.out, ← W2.out, ← W3.out, Z0.out, Z1.out] | rw [← W0.out, ← W1.out, ← W2.out, ← W3.out])
    refine (Hdv.out w3).mono ?_
    rintro e w4 ⟨rfl, nd, rfl⟩
    have b4 : Below w3.heap.size w3 (w3.drewN nd) := below_drewN (Below.refl _ _) _
    have X4 : Hid (Bx (w3.drewN nd) _ _ _ _) := Lib.hid (X3.out.below b4 lx); have Y4 : Hid (Bx (w3.drewN nd) _ _ _ _) := Lib.hid (Y3.out.below b4 ly); have U4 : Hid (Bx (w3.drewN nd) _ _ _ _) := Lib.hid (U3.out.below b4 lu); have R4 : Hid (Bx (w3.drewN nd) _ _ _ _) := Lib.hid (R3.out.below b4 lr); have B4 := Lib.hid (B3.out.trans (b4.mono (by omega)))
    obtain ⟨w4, hw4⟩ : ∃ w4, w4 = w3.drewN nd := ⟨_, rfl⟩
    have z4 : w4.heap.size = w3.heap.size := by rw [hw4]; rfl
    rw [← hw4] at X4 Y4 U4 R4 B4 b4 ⊢
    clear hw4 b4
    clear c0 c1 c2 e0 e1 e2 i0 i1 i2 o0 o1 o2 f0 f1 f2 lx ly lu lr
    obtain ⟨c0, c1, c2, -, -, -, lx⟩ := X4.out
    obtain ⟨e0, e1, e2, -, -, -, ly⟩ := Y4.out
    obtain ⟨i0, i1, i2, -, -, -, lu⟩ := U4.out
    obtain ⟨o0, o1, o2, f0, f1, f2, lr⟩ := R4.out
    go_wp2_with fail
    refine (num_p _ _).mono ?_
    rintro e w6 ⟨rfl, b6⟩
    have z6 := b6.size
    have X6 := Lib.hid (X4.out.below b6 (by omega)); have Y6 := Lib.hid (Y4.out.below b6 (by omega)); have U6 := Lib.hid (U4.out.below b6 (by omega)); have R6 := Lib.hid (R4.out.below b6 (by omega)); have B6 := Lib.hid (B4.out.trans (b6.mono (by omega)))
    clear c0 c1 c2 e0 e1 e2 i0 i1 i2 o0 o1 o2 f0 f1 f2 lx ly lu lr
    obtain ⟨c0, c1, c2, -, -, -, lx⟩ := X6.out
    obtain ⟨e0, e1, e2, -, -, -, ly⟩ := Y6.out
    obtain ⟨i0, i1, i2, -, -, -, lu⟩ := U6.out
    obtain ⟨o0, o1, o2, f0, f1, f2, lr⟩ := R6.out
    go_wp2
    change bodyPost _ _ _ _ _ (put3 w6 (w.heap.size + 3) _ _ _)
    have s0 := fun v0 v1 v2 => (put3_box R6.out v0 v1 v2).c0
    have s1 := fun v0 v1 v2 => (put3_box R6.out v0 v1 v2).c1
    have s2 := fun v0 v1 v2 => (put3_box R6.out v0 v1 v2).c2
    refine bodyPost_ret (v := RR) ?_ rfl ⟨HRR.out, B6.out.trans ((put3_below _ _ _ _ _).mono (by omega))⟩
    simp [results, Tryz.results52, go_sem, s0, s1, s2, hRR, num]
  · obtain ⟨bb, hbb⟩ : ∃ bb, (cm == 0) = bb := ⟨_, rfl⟩
    rw [hbb] at hRR
    cases bb
    all_goals
      go_enter Tryz.func52, Tryz.ntmps52
      go_wp2_with (first | rw [← W0.out, ← W1.out, ← W2.out, ← W3.out, Z0.out, Z1.out, Z2.out] | rw [← W0.out, ← W1.out, ← W2.out, ← W3.out, Z0.out, Z1.out] | rw [← W0.out, ← W1.out, ← W2.out, ← W3.out])
      refine (Hdv.out w3).mono ?_
      rintro e w4 ⟨rfl, nd, rfl⟩
      have b4 : Below w3.heap.size w3 (w3.drewN nd) := below_drewN (Below.refl _ _) _
      have X4 : Hid (Bx (w3.drewN nd) _ _ _ _) := Lib.hid (X3.out.below b4 lx); have Y4 : Hid (Bx (w3.drewN nd) _ _ _ _) := Lib.hid (Y3.out.below b4 ly); have U4 : Hid (Bx (w3.drewN nd) _ _ _ _) := Lib.hid (U3.out.below b4 lu); have R4 : Hid (Bx (w3.drewN nd) _ _ _ _) := Lib.hid (R3.out.below b4 lr); have B4 := Lib.hid (B3.out.trans (b4.mono (by omega)))
      obtain ⟨w4, hw4⟩ : ∃ w4, w4 = w3.drewN nd := ⟨_, rfl⟩
      have z4 : w4.heap.size = w3.heap.size := by rw [hw4]; rfl
      rw [← hw4] at X4 Y4 U4 R4 B4 b4 ⊢
      clear hw4 b4
      clear c0 c1 c2 e0 e1 e2 i0 i1 i2 o0 o1 o2 f0 f1 f2 lx ly lu lr
      obtain ⟨c0, c1, c2, -, -, -, lx⟩ := X4.out
      obtain ⟨e0, e1, e2, -, -, -, ly⟩ := Y4.out
      obtain ⟨i0, i1, i2, -, -, -, lu⟩ := U4.out
      obtain ⟨o0, o1, o2, f0, f1, f2, lr⟩ := R4.out
      go_wp2_with fail
      refine (Hcmp.out w4).mono ?_
      rintro e w5 ⟨rfl, b5⟩
      have z5 := b5.size
      have X5 := Lib.hid (X4.out.below b5 (by omega)); have Y5 := Lib.hid (Y4.out.below b5 (by omega)); have U5 := Lib.hid (U4.out.below b5 (by omega)); have R5 := Lib.hid (R4.out.below b5 (by omega)); have B5 := Lib.hid (B4.out.trans (b5.mono (by omega)))
      clear c0 c1 c2 e0 e1 e2 i0 i1 i2 o0 o1 o2 f0 f1 f2 lx ly lu lr
      obtain ⟨c0, c1, c2, -, -, -, lx⟩ := X5.out
      obtain ⟨e0, e1, e2, -, -, -, ly⟩ := Y5.out
      obtain ⟨i0, i1, i2, -, -, -, lu⟩ := U5.out
      obtain ⟨o0, o1, o2, f0, f1, f2, lr⟩ := R5.out
      go_wp2_with fail
      refine (yes_p _ _).mono ?_
      rintro e w6 ⟨rfl, b6⟩
      have z6 := b6.size
      have X6 := Lib.hid (X5.out.below b6 (by omega)); have Y6 := Lib.hid (Y5.out.below b6 (by omega)); have U6 := Lib.hid (U5.out.below b6 (by omega)); have R6 := Lib.hid (R5.out.below b6 (by omega)); have B6 := Lib.hid (B5.out.trans (b6.mono (by omega)))
      clear c0 c1 c2 e0 e1 e2 i0 i1 i2 o0 o1 o2 f0 f1 f2 lx ly lu lr
      obtain ⟨c0, c1, c2, -, -, -, lx⟩ := X6.out
      obtain ⟨e0, e1, e2, -, -, -, ly⟩ := Y6.out
      obtain ⟨i0, i1, i2, -, -, -, lu⟩ := U6.out
      obtain ⟨o0, o1, o2, f0, f1, f2, lr⟩ := R6.out
      go_wp2
      change bodyPost _ _ _ _ _ (put3 w6 (w.heap.size + 3) _ _ _)
      have s0 := fun v0 v1 v2 => (put3_box R6.out v0 v1 v2).c0
      have s1 := fun v0 v1 v2 => (put3_box R6.out v0 v1 v2).c1
      have s2 := fun v0 v1 v2 => (put3_box R6.out v0 v1 v2).c2
      refine bodyPost_ret (v := RR) ?_ rfl ⟨HRR.out, B6.out.trans ((put3_below _ _ _ _ _).mono (by omega))⟩
      simp [results, Tryz.results52, go_sem, s0, s1, s2, hRR, yes, num]
  · obtain ⟨bb, hbb⟩ : ∃ bb, decide (cm < 0) = bb := ⟨_, rfl⟩
    rw [hbb] at hRR
    cases bb
    all_goals
      go_enter Tryz.func52, Tryz.ntmps52
      go_wp2_with (first | rw [← W0.out, ← W1.out, ← W2.out, ← W3.out, Z0.out, Z1.out, Z2.out] | rw [← W0.out, ← W1.out, ← W2.out, ← W3.out, Z0.out, Z1.out] | rw [← W0.out, ← W1.out, ← W2.out, ← W3.out])
      refine (Hdv.out w3).mono ?_
      rintro e w4 ⟨rfl, nd, rfl⟩
      have b4 : Below w3.heap.size w3 (w3.drewN nd) := below_drewN (Below.refl _ _) _
      have X4 : Hid (Bx (w3.drewN nd) _ _ _ _) := Lib.hid (X3.out.below b4 lx); have Y4 : Hid (Bx (w3.drewN nd) _ _ _ _) := Lib.hid (Y3.out.below b4 ly); have U4 : Hid (Bx (w3.drewN nd) _ _ _ _) := Lib.hid (U3.out.below b4 lu); have R4 : Hid (Bx (w3.drewN nd) _ _ _ _) := Lib.hid (R3.out.below b4 lr); have B4 := Lib.hid (B3.out.trans (b4.mono (by omega)))
      obtain ⟨w4, hw4⟩ : ∃ w4, w4 = w3.drewN nd := ⟨_, rfl⟩
      have z4 : w4.heap.size = w3.heap.size := by rw [hw4]; rfl
      rw [← hw4] at X4 Y4 U4 R4 B4 b4 ⊢
      clear hw4 b4
      clear c0 c1 c2 e0 e1 e2 i0 i1 i2 o0 o1 o2 f0 f1 f2 lx ly lu lr
      obtain ⟨c0, c1, c2, -, -, -, lx⟩ := X4.out
      obtain ⟨e0, e1, e2, -, -, -, ly⟩ := Y4.out
      obtain ⟨i0, i1, i2, -, -, -, lu⟩ := U4.out
      obtain ⟨o0, o1, o2, f0, f1, f2, lr⟩ := R4.out
      go_wp2_with fail
      refine (Hcmp.out w4).mono ?_
      rintro e w5 ⟨rfl, b5⟩
      have z5 := b5.size
      have X5 := Lib.hid (X4.out.below b5 (by omega)); have Y5 := Lib.hid (Y4.out.below b5 (by omega)); have U5 := Lib.hid (U4.out.below b5 (by omega)); have R5 := Lib.hid (R4.out.below b5 (by omega)); have B5 := Lib.hid (B4.out.trans (b5.mono (by omega)))
      clear c0 c1 c2 e0 e1 e2 i0 i1 i2 o0 o1 o2 f0 f1 f2 lx ly lu lr
      obtain ⟨c0, c1, c2, -, -, -, lx⟩ := X5.out
      obtain ⟨e0, e1, e2, -, -, -, ly⟩ := Y5.out
      obtain ⟨i0, i1, i2, -, -, -, lu⟩ := U5.out
      obtain ⟨o0, o1, o2, f0, f1, f2, lr⟩ := R5.out
      go_wp2_with fail
      refine (yes_p _ _).mono ?_
      rintro e w6 ⟨rfl, b6⟩
      have z6 := b6.size
      have X6 := Lib.hid (X5.out.below b6 (by omega)); have Y6 := Lib.hid (Y5.out.below b6 (by omega)); have U6 := Lib.hid (U5.out.below b6 (by omega)); have R6 := Lib.hid (R5.out.below b6 (by omega)); have B6 := Lib.hid (B5.out.trans (b6.mono (by omega)))
      clear c0 c1 c2 e0 e1 e2 i0 i1 i2 o0 o1 o2 f0 f1 f2 lx ly lu lr
      obtain ⟨c0, c1, c2, -, -, -, lx⟩ := X6.out
      obtain ⟨e0, e1, e2, -, -, -, ly⟩ := Y6.out
      obtain ⟨i0, i1, i2, -, -, -, lu⟩ := U6.out
      obtain ⟨o0, o1, o2, f0, f1, f2, lr⟩ := R6.out
      go_wp2
      change bodyPost _ _ _ _ _ (put3 w6 (w.heap.size + 3) _ _ _)
      have s0 := fun v0 v1 v2 => (put3_box R6.out v0 v1 v2).c0
      have s1 := fun v0 v1 v2 => (put3_box R6.out v0 v1 v2).c1
      have s2 := fun v0 v1 v2 => (put3_box R6.out v0 v1 v2).c2
      refine bodyPost_ret (v := RR) ?_ rfl ⟨HRR.out, B6.out.trans ((put3_below _ _ _ _ _).mono (by omega))⟩
      simp [results, Tryz.results52, go_sem, s0, s1, s2, hRR, yes, num]
  · obtain ⟨bb, hbb⟩ : ∃ bb, (n == 0) = bb := ⟨_, rfl⟩
    rw [hbb] at hRR
    cases bb
    all_goals
      go_enter Tryz.func52, Tryz.ntmps52
      go_wp2_with (first | rw [← W0.out, ← W1.out, ← W2.out, ← W3.out, Z0.out, Z1.out, Z2.out] | rw [← W0.out, ← W1.out, ← W2.out, ← W3.out, Z0.out, Z1.out] | rw [← W0.out, ← W1.out, ← W2.out, ← W3.out])
      refine (Hdv.out w3).mono ?_
      rintro e w4 ⟨rfl, nd, rfl⟩
      have b4 : Below w3.heap.size w3 (w3.drewN nd) := below_drewN (Below.refl _ _) _
      have X4 : Hid (Bx (w3.drewN nd) _ _ _ _) := Lib.hid (X3.out.below b4 lx); have Y4 : Hid (Bx (w3.drewN nd) _ _ _ _) := Lib.hid (Y3.out.below b4 ly); have U4 : Hid (Bx (w3.drewN nd) _ _ _ _) := Lib.hid (U3.out.below b4 lu); have R4 : Hid (Bx (w3.drewN nd) _ _ _ _) := Lib.hid (R3.out.below b4 lr); have B4 := Lib.hid (B3.out.trans (b4.mono (by omega)))
      obtain ⟨w4, hw4⟩ : ∃ w4, w4 = w3.drewN nd := ⟨_, rfl⟩
      have z4 : w4.heap.size = w3.heap.size := by rw [hw4]; rfl
      rw [← hw4] at X4 Y4 U4 R4 B4 b4 ⊢
      clear hw4 b4
      clear c0 c1 c2 e0 e1 e2 i0 i1 i2 o0 o1 o2 f0 f1 f2 lx ly lu lr
      obtain ⟨c0, c1, c2, -, -, -, lx⟩ := X4.out
      obtain ⟨e0, e1, e2, -, -, -, ly⟩ := Y4.out
      obtain ⟨i0, i1, i2, -, -, -, lu⟩ := U4.out
      obtain ⟨o0, o1, o2, f0, f1, f2, lr⟩ := R4.out
      go_wp2_with fail
      refine (yes_p _ _).mono ?_
      rintro e w6 ⟨rfl, b6⟩
      have z6 := b6.size
      have X6 := Lib.hid (X4.out.below b6 (by omega)); have Y6 := Lib.hid (Y4.out.below b6 (by omega)); have U6 := Lib.hid (U4.out.below b6 (by omega)); have R6 := Lib.hid (R4.out.below b6 (by omega)); have B6 := Lib.hid (B4.out.trans (b6.mono (by omega)))
      clear c0 c1 c2 e0 e1 e2 i0 i1 i2 o0 o1 o2 f0 f1 f2 lx ly lu lr
      obtain ⟨c0, c1, c2, -, -, -, lx⟩ := X6.out
      obtain ⟨e0, e1, e2, -, -, -, ly⟩ := Y6.out
      obtain ⟨i0, i1, i2, -, -, -, lu⟩ := U6.out
      obtain ⟨o0, o1, o2, f0, f1, f2, lr⟩ := R6.out
      go_wp2
      change bodyPost _ _ _ _ _ (put3 w6 (w.heap.size + 3) _ _ _)
      have s0 := fun v0 v1 v2 => (put3_box R6.out v0 v1 v2).c0
      have s1 := fun v0 v1 v2 => (put3_box R6.out v0 v1 v2).c1
      have s2 := fun v0 v1 v2 => (put3_box R6.out v0 v1 v2).c2
      refine bodyPost_ret (v := RR) ?_ rfl ⟨HRR.out, B6.out.trans ((put3_below _ _ _ _ _).mono (by omega))⟩
      simp [results, Tryz.results52, go_sem, s0, s1, s2, hRR, yes, num]
  · by_cases hn0 : n = 0
    · subst hn0
      go_enter Tryz.func52, Tryz.ntmps52
      go_wp2_with (first | rw [← W0.out, ← W1.out, ← W2.out, ← W3.out, Z0.out, Z1.out, Z2.out] | rw [← W0.out, ← W1.out, ← W2.out, ← W3.out, Z0.out, Z1.out] | rw [← W0.out, ← W1.out, ← W2.out, ← W3.out])
      refine (Hdv.out w3).mono ?_
      rintro e w4 ⟨rfl, nd, rfl⟩
      have b4 : Below w3.heap.size w3 (w3.drewN nd) := below_drewN (Below.refl _ _) _
      have X4 : Hid (Bx (w3.drewN nd) _ _ _ _) := Lib.hid (X3.out.below b4 lx); have Y4 : Hid (Bx (w3.drewN nd) _ _ _ _) := Lib.hid (Y3.out.below b4 ly); have U4 : Hid (Bx (w3.drewN nd) _ _ _ _) := Lib.hid (U3.out.below b4 lu); have R4 : Hid (Bx (w3.drewN nd) _ _ _ _) := Lib.hid (R3.out.below b4 lr); have B4 := Lib.hid (B3.out.trans (b4.mono (by omega)))
      obtain ⟨w4, hw4⟩ : ∃ w4, w4 = w3.drewN nd := ⟨_, rfl⟩
      have z4 : w4.heap.size = w3.heap.size := by rw [hw4]; rfl
      rw [← hw4] at X4 Y4 U4 R4 B4 b4 ⊢
      clear hw4 b4
      clear c0 c1 c2 e0 e1 e2 i0 i1 i2 o0 o1 o2 f0 f1 f2 lx ly lu lr
      obtain ⟨c0, c1, c2, -, -, -, lx⟩ := X4.out
      obtain ⟨e0, e1, e2, -, -, -, ly⟩ := Y4.out
      obtain ⟨i0, i1, i2, -, -, -, lu⟩ := U4.out
      obtain ⟨o0, o1, o2, f0, f1, f2, lr⟩ := R4.out
      go_wp2
      change bodyPost _ _ _ _ _ (put3 w4 (w.heap.size + 3) _ _ _)
      have s0 := fun v0 v1 v2 => (put3_box R4.out v0 v1 v2).c0
      have s1 := fun v0 v1 v2 => (put3_box R4.out v0 v1 v2).c1
      have s2 := fun v0 v1 v2 => (put3_box R4.out v0 v1 v2).c2
      refine bodyPost_ret (v := RR) ?_ rfl ⟨HRR.out, B4.out.trans ((put3_below _ _ _ _ _).mono (by omega))⟩
      simp [results, Tryz.results52, go_sem, s0, s1, s2, hRR]
    · have d0 : (n != 0) = true := by simpa using hn0
      go_enter Tryz.func52, Tryz.ntmps52
      go_wp2_with (first | rw [← W0.out, ← W1.out, ← W2.out, ← W3.out, Z0.out, Z1.out, Z2.out] | rw [← W0.out, ← W1.out, ← W2.out, ← W3.out, Z0.out, Z1.out] | rw [← W0.out, ← W1.out, ← W2.out, ← W3.out])
      refine (Hdv.out w3).mono ?_
      rintro e w4 ⟨rfl, nd, rfl⟩
      have b4 : Below w3.heap.size w3 (w3.drewN nd) := below_drewN (Below.refl _ _) _
      have X4 : Hid (Bx (w3.drewN nd) _ _ _ _) := Lib.hid (X3.out.below b4 lx); have Y4 : Hid (Bx (w3.drewN nd) _ _ _ _) := Lib.hid (Y3.out.below b4 ly); have U4 : Hid (Bx (w3.drewN nd) _ _ _ _) := Lib.hid (U3.out.below b4 lu); have R4 : Hid (Bx (w3.drewN nd) _ _ _ _) := Lib.hid (R3.out.below b4 lr); have B4 := Lib.hid (B3.out.trans (b4.mono (by omega)))
      obtain ⟨w4, hw4⟩ : ∃ w4, w4 = w3.drewN nd := ⟨_, rfl⟩
      have z4 : w4.heap.size = w3.heap.size := by rw [hw4]; rfl
      rw [← hw4] at X4 Y4 U4 R4 B4 b4 ⊢
      clear hw4 b4
      clear c0 c1 c2 e0 e1 e2 i0 i1 i2 o0 o1 o2 f0 f1 f2 lx ly lu lr
      obtain ⟨c0, c1, c2, -, -, -, lx⟩ := X4.out
      obtain ⟨e0, e1, e2, -, -, -, ly⟩ := Y4.out
      obtain ⟨i0, i1, i2, -, -, -, lu⟩ := U4.out
      obtain ⟨o0, o1, o2, f0, f1, f2, lr⟩ := R4.out
      go_wp2
      change bodyPost _ _ _ _ _ (put3 w4 (w.heap.size + 3) _ _ _)
      have s0 := fun v0 v1 v2 => (put3_box R4.out v0 v1 v2).c0
      have s1 := fun v0 v1 v2 => (put3_box R4.out v0 v1 v2).c1
      have s2 := fun v0 v1 v2 => (put3_box R4.out v0 v1 v2).c2
      refine bodyPost_ret (v := RR) ?_ rfl ⟨HRR.out, B4.out.trans ((put3_below _ _ _ _ _).mono (by omega))⟩
      simp [results, Tryz.results52, go_sem, s0, s1, s2, hRR, hn0]
end Go.Proofs.YtoalncojijmelaaGreatDoor

/-
  The document's texted.
-/
namespace Go.Proofs.YtoalncojijmelaaGreatDoor
open Go.RowKit Vl

theorem turned97 (s : List UInt8) (h : s.length ≤ 1000000) (w : World) : Calls Tryz.prog 63 #[st s, .int .u8 97] w (RetV w (st (turned s 97))) := turned_c s h 97 (by decide) w
theorem turned65 (s : List UInt8) (h : s.length ≤ 1000000) (w : World) : Calls Tryz.prog 63 #[st s, .int .u8 65] w (RetV w (st (turned s 65))) := turned_c s h 65 (by decide) w
set_option maxRecDepth 100000 in
set_option maxHeartbeats 4000000 in
theorem texted_c (op : Int) (a b c : V) (hop : op = 9 ∨ op = 10 ∨ op = 11 ∨ op = 12 ∨ op = 13 ∨ op = 18 ∨ op = 19 ∨ op = 20 ∨ op = 21) (ha : I a.n) (hla : a.s.length ≤ 1000) (hlb : b.s.length ≤ 1000) (w : World) :
    Calls Tryz.prog 53 #[.int .i64 op, vv a, vv b, vv c] w (RetV w (vv (tex op a b c))) := by
  have hfl := figures_len ha
  obtain ⟨RR, hRR⟩ : ∃ RR, RR = vv (tex op a b c) := ⟨_, rfl⟩
  have hrek : vv (tex op a b c) = RR := hRR.symm
  unfold tex at hRR
  have HRR := Lib.hid (show Ending.returned RR = Ending.returned (vv (tex op a b c)) by rw [hrek])
  obtain ⟨R0, hR0⟩ : ∃ R0, R0 = vv (tex op a b c) := ⟨_, rfl⟩
  rw [← hR0] at HRR ⊢
  clear hrek hR0
  obtain ⟨t, n, s⟩ := a
  obtain ⟨t', n', s'⟩ := b
  obtain ⟨t2, n2, s2⟩ := c
  dsimp only at *
  obtain ⟨w0, hw0⟩ : ∃ w0, w0 = w.alloc (.cells #[.bool t, .int .i64 n, .string ⟨s.toArray⟩] 32) := ⟨_, rfl⟩
  have z0 : w0.heap.size = w.heap.size + 1 := by rw [hw0]; simp
  have b0 : Below w.heap.size w w0 := by rw [hw0]; exact (Below.refl _ _).alloc (Nat.le_refl _) _
  have x0 : Bx w0 w.heap.size (.bool t) (.int .i64 n) (.string ⟨s.toArray⟩) := by rw [hw0]; exact Bx.made _ _ _ _ _
  obtain ⟨w1, hw1⟩ : ∃ w1, w1 = w0.alloc (.cells #[.bool t', .int .i64 n', .string ⟨s'.toArray⟩] 32) := ⟨_, rfl⟩
  have z1 : w1.heap.size = w.heap.size + 2 := by rw [hw1]; simp [z0]
  have b1 : Below w0.heap.size w0 w1 := by rw [hw1]; exact (Below.refl _ _).alloc (Nat.le_refl _) _
  have y1 : Bx w1 w0.heap.size (.bool t') (.int .i64 n') (.string ⟨s'.toArray⟩) := by rw [hw1]; exact Bx.made _ _ _ _ _
  rw [z0] at y1
  obtain ⟨w2, hw2⟩ : ∃ w2, w2 = w1.alloc (.cells #[.bool t2, .int .i64 n2, .string ⟨s2.toArray⟩] 32) := ⟨_, rfl⟩
  have z2 : w2.heap.size = w.heap.size + 3 := by rw [hw2]; simp [z1]
  have b2 : Below w1.heap.size w1 w2 := by rw [hw2]; exact (Below.refl _ _).alloc (Nat.le_refl _) _
  have u2 : Bx w2 w1.heap.size (.bool t2) (.int .i64 n2) (.string ⟨s2.toArray⟩) := by rw [hw2]; exact Bx.made _ _ _ _ _
  rw [z1] at u2
  obtain ⟨w3, hw3⟩ : ∃ w3, w3 = w2.alloc (.cells #[.bool false, .int .i64 0, .string ⟨#[]⟩] 32) := ⟨_, rfl⟩
  have z3 : w3.heap.size = w.heap.size + 4 := by rw [hw3]; simp [z2]
  have b3 : Below w2.heap.size w2 w3 := by rw [hw3]; exact (Below.refl _ _).alloc (Nat.le_refl _) _
  have r3 : Bx w3 w2.heap.size (.bool false) (.int .i64 0) (.string ⟨#[]⟩) := by rw [hw3]; exact Bx.made _ _ _ _ _
  rw [z2] at r3
  have b23 : Below w1.heap.size w1 w3 := b2.trans (b3.mono (by omega))
  have b13 : Below w0.heap.size w0 w3 := b1.trans (b23.mono (by omega))
  have x3 := x0.below b13 x0.lt
  have y3 := y1.below b23 y1.lt
  have u3 := u2.below b3 u2.lt
  have bw3 := b0.trans (b13.mono (by omega))
  have W0 := Lib.hid hw0; have W1 := Lib.hid hw1; have W2 := Lib.hid hw2; have W3 := Lib.hid hw3; have Z0 := Lib.hid z0; have Z1 := Lib.hid z1; have Z2 := Lib.hid z2
  have X3 := Lib.hid x3; have Y3 := Lib.hid y3; have U3 := Lib.hid u3; have R3 := Lib.hid r3; have B3 := Lib.hid bw3
  clear hw0 hw1 hw2 hw3 b0 x0 b1 y1 b2 u2 b3 b23 b13 z0 z1 z2 x3 y3 u3 r3 bw3
  obtain ⟨c0, c1, c2, -, -, -, lx⟩ := X3.out
  obtain ⟨e0, e1, e2, -, -, -, ly⟩ := Y3.out
  obtain ⟨i0, i1, i2, -, -, -, lu⟩ := U3.out
  obtain ⟨o0, o1, o2, f0, f1, f2, lr⟩ := R3.out
  have k1 : ¬ 9223372036854775807 < s.length + s'.length := by omega
  rcases hop with rfl | rfl | rfl | rfl | rfl | rfl | rfl | rfl | rfl
  · go_enter Tryz.func53, Tryz.ntmps53
    go_wp2_with (first | rw [← W0.out, ← W1.out, ← W2.out, ← W3.out, Z0.out, Z1.out, Z2.out] | rw [← W0.out, ← W1.out, ← W2.out, ← W3.out, Z0.out, Z1.out] | rw [← W0.out, ← W1.out, ← W2.out, ← W3.out])
    refine (text_p (s ++ s') (by rw [List.length_append]; omega) _).mono ?_
    rintro e w6 ⟨rfl, b6⟩
    have z6 := b6.size
    have X6 := Lib.hid (X3.out.below b6 (by omega)); have Y6 := Lib.hid (Y3.out.below b6 (by omega)); have U6 := Lib.hid (U3.out.below b6 (by omega)); have R6 := Lib.hid (R3.out.below b6 (by omega)); have B6 := Lib.hid (B3.out.trans (b6.mono (by omega)))
    clear c0 c1 c2 e0 e1 e2 i0 i1 i2 o0 o1 o2 f0 f1 f2 lx ly lu lr
    obtain ⟨c0, c1, c2, -, -, -, lx⟩ := X6.out
    obtain ⟨e0, e1, e2, -, -, -, ly⟩ := Y6.out
    obtain ⟨i0, i1, i2, -, -, -, lu⟩ := U6.out
    obtain ⟨o0, o1, o2, f0, f1, f2, lr⟩ := R6.out
    go_wp2
    change bodyPost _ _ _ _ _ (put3 w6 (w.heap.size + 3) _ _ _)
    have s0 := fun v0 v1 v2 => (put3_box R6.out v0 v1 v2).c0
    have s1 := fun v0 v1 v2 => (put3_box R6.out v0 v1 v2).c1
    have s2 := fun v0 v1 v2 => (put3_box R6.out v0 v1 v2).c2
    refine bodyPost_ret (v := RR) ?_ rfl ⟨HRR.out, B6.out.trans ((put3_below _ _ _ _ _).mono (by omega))⟩
    simp [results, Tryz.results53, go_sem, s0, s1, s2, hRR, txt]
  · go_enter Tryz.func53, Tryz.ntmps53
    go_wp2_with (first | rw [← W0.out, ← W1.out, ← W2.out, ← W3.out, Z0.out, Z1.out, Z2.out] | rw [← W0.out, ← W1.out, ← W2.out, ← W3.out, Z0.out, Z1.out] | rw [← W0.out, ← W1.out, ← W2.out, ← W3.out])
    refine (num_p _ _).mono ?_
    rintro e w6 ⟨rfl, b6⟩
    have z6 := b6.size
    have X6 := Lib.hid (X3.out.below b6 (by omega)); have Y6 := Lib.hid (Y3.out.below b6 (by omega)); have U6 := Lib.hid (U3.out.below b6 (by omega)); have R6 := Lib.hid (R3.out.below b6 (by omega)); have B6 := Lib.hid (B3.out.trans (b6.mono (by omega)))
    clear c0 c1 c2 e0 e1 e2 i0 i1 i2 o0 o1 o2 f0 f1 f2 lx ly lu lr
    obtain ⟨c0, c1, c2, -, -, -, lx⟩ := X6.out
    obtain ⟨e0, e1, e2, -, -, -, ly⟩ := Y6.out
    obtain ⟨i0, i1, i2, -, -, -, lu⟩ := U6.out
    obtain ⟨o0, o1, o2, f0, f1, f2, lr⟩ := R6.out
    go_wp2
    change bodyPost _ _ _ _ _ (put3 w6 (w.heap.size + 3) _ _ _)
    have s0 := fun v0 v1 v2 => (put3_box R6.out v0 v1 v2).c0
    have s1 := fun v0 v1 v2 => (put3_box R6.out v0 v1 v2).c1
    have s2 := fun v0 v1 v2 => (put3_box R6.out v0 v1 v2).c2
    refine bodyPost_ret (v := RR) ?_ rfl ⟨HRR.out, B6.out.trans ((put3_below _ _ _ _ _).mono (by omega))⟩
    simp [results, Tryz.results53, go_sem, s0, s1, s2, hRR, num]
  · go_enter Tryz.func53, Tryz.ntmps53
    go_wp2_with (first | rw [← W0.out, ← W1.out, ← W2.out, ← W3.out, Z0.out, Z1.out, Z2.out] | rw [← W0.out, ← W1.out, ← W2.out, ← W3.out, Z0.out, Z1.out] | rw [← W0.out, ← W1.out, ← W2.out, ← W3.out])
    refine (slice_c s (by omega) n' n2 _).mono ?_
    rintro e w4 ⟨rfl, rfl⟩
    go_wp2_with fail
    refine (text_p (slc s n' n2) (by have := slc_len s n' n2; omega) _).mono ?_
    rintro e w6 ⟨rfl, b6⟩
    have z6 := b6.size
    have X6 := Lib.hid (X3.out.below b6 (by omega)); have Y6 := Lib.hid (Y3.out.below b6 (by omega)); have U6 := Lib.hid (U3.out.below b6 (by omega)); have R6 := Lib.hid (R3.out.below b6 (by omega)); have B6 := Lib.hid (B3.out.trans (b6.mono (by omega)))
    clear c0 c1 c2 e0 e1 e2 i0 i1 i2 o0 o1 o2 f0 f1 f2 lx ly lu lr
    obtain ⟨c0, c1, c2, -, -, -, lx⟩ := X6.out
    obtain ⟨e0, e1, e2, -, -, -, ly⟩ := Y6.out
    obtain ⟨i0, i1, i2, -, -, -, lu⟩ := U6.out
    obtain ⟨o0, o1, o2, f0, f1, f2, lr⟩ := R6.out
    go_wp2
    change bodyPost _ _ _ _ _ (put3 w6 (w.heap.size + 3) _ _ _)
    have s0 := fun v0 v1 v2 => (put3_box R6.out v0 v1 v2).c0
    have s1 := fun v0 v1 v2 => (put3_box R6.out v0 v1 v2).c1
    have s2 := fun v0 v1 v2 => (put3_box R6.out v0 v1 v2).c2
    refine bodyPost_ret (v := RR) ?_ rfl ⟨HRR.out, B6.out.trans ((put3_below _ _ _ _ _).mono (by omega))⟩
    simp [results, Tryz.results53, go_sem, s0, s1, s2, hRR, txt]
  · go_enter Tryz.func53, Tryz.ntmps53
    go_wp2_with (first | rw [← W0.out, ← W1.out, ← W2.out, ← W3.out, Z0.out, Z1.out, Z2.out] | rw [← W0.out, ← W1.out, ← W2.out, ← W3.out, Z0.out, Z1.out] | rw [← W0.out, ← W1.out, ← W2.out, ← W3.out])
    refine (turned97 s (by omega) _).mono ?_
    rintro e w4 ⟨rfl, b4⟩
    have z4 := b4.size
    have X4 := Lib.hid (X3.out.below b4 (by omega)); have Y4 := Lib.hid (Y3.out.below b4 (by omega)); have U4 := Lib.hid (U3.out.below b4 (by omega)); have R4 := Lib.hid (R3.out.below b4 (by omega)); have B4 := Lib.hid (B3.out.trans (b4.mono (by omega)))
    clear c0 c1 c2 e0 e1 e2 i0 i1 i2 o0 o1 o2 f0 f1 f2 lx ly lu lr
    obtain ⟨c0, c1, c2, -, -, -, lx⟩ := X4.out
    obtain ⟨e0, e1, e2, -, -, -, ly⟩ := Y4.out
    obtain ⟨i0, i1, i2, -, -, -, lu⟩ := U4.out
    obtain ⟨o0, o1, o2, f0, f1, f2, lr⟩ := R4.out
    go_wp2_with fail
    refine (text_p (turned s 97) (by rw [turned_len]; omega) _).mono ?_
    rintro e w6 ⟨rfl, b6⟩
    have z6 := b6.size
    have X6 := Lib.hid (X4.out.below b6 (by omega)); have Y6 := Lib.hid (Y4.out.below b6 (by omega)); have U6 := Lib.hid (U4.out.below b6 (by omega)); have R6 := Lib.hid (R4.out.below b6 (by omega)); have B6 := Lib.hid (B4.out.trans (b6.mono (by omega)))
    clear c0 c1 c2 e0 e1 e2 i0 i1 i2 o0 o1 o2 f0 f1 f2 lx ly lu lr
    obtain ⟨c0, c1, c2, -, -, -, lx⟩ := X6.out
    obtain ⟨e0, e1, e2, -, -, -, ly⟩ := Y6.out
    obtain ⟨i0, i1, i2, -, -, -, lu⟩ := U6.out
    obtain ⟨o0, o1, o2, f0, f1, f2, lr⟩ := R6.out
    go_wp2
    change bodyPost _ _ _ _ _ (put3 w6 (w.heap.size + 3) _ _ _)
    have s0 := fun v0 v1 v2 => (put3_box R6.out v0 v1 v2).c0
    have s1 := fun v0 v1 v2 => (put3_box R6.out v0 v1 v2).c1
    have s2 := fun v0 v1 v2 => (put3_box R6.out v0 v1 v2).c2
    refine bodyPost_ret (v := RR) ?_ rfl ⟨HRR.out, B6.out.trans ((put3_below _ _ _ _ _).mono (by omega))⟩
    simp [results, Tryz.results53, go_sem, s0, s1, s2, hRR, txt]
  · go_enter Tryz.func53, Tryz.ntmps53
    go_wp2_with (first | rw [← W0.out, ← W1.out, ← W2.out, ← W3.out, Z0.out, Z1.out, Z2.out] | rw [← W0.out, ← W1.out, ← W2.out, ← W3.out, Z0.out, Z1.out] | rw [← W0.out, ← W1.out, ← W2.out, ← W3.out])
    refine (turned65 s (by omega) _).mono ?_
    rintro e w4 ⟨rfl, b4⟩
    have z4 := b4.size
    have X4 := Lib.hid (X3.out.below b4 (by omega)); have Y4 := Lib.hid (Y3.out.below b4 (by omega)); have U4 := Lib.hid (U3.out.below b4 (by omega)); have R4 := Lib.hid (R3.out.below b4 (by omega)); have B4 := Lib.hid (B3.out.trans (b4.mono (by omega)))
    clear c0 c1 c2 e0 e1 e2 i0 i1 i2 o0 o1 o2 f0 f1 f2 lx ly lu lr
    obtain ⟨c0, c1, c2, -, -, -, lx⟩ := X4.out
    obtain ⟨e0, e1, e2, -, -, -, ly⟩ := Y4.out
    obtain ⟨i0, i1, i2, -, -, -, lu⟩ := U4.out
    obtain ⟨o0, o1, o2, f0, f1, f2, lr⟩ := R4.out
    go_wp2_with fail
    refine (text_p (turned s 65) (by rw [turned_len]; omega) _).mono ?_
    rintro e w6 ⟨rfl, b6⟩
    have z6 := b6.size
    have X6 := Lib.hid (X4.out.below b6 (by omega)); have Y6 := Lib.hid (Y4.out.below b6 (by omega)); have U6 := Lib.hid (U4.out.below b6 (by omega)); have R6 := Lib.hid (R4.out.below b6 (by omega)); have B6 := Lib.hid (B4.out.trans (b6.mono (by omega)))
    clear c0 c1 c2 e0 e1 e2 i0 i1 i2 o0 o1 o2 f0 f1 f2 lx ly lu lr
    obtain ⟨c0, c1, c2, -, -, -, lx⟩ := X6.out
    obtain ⟨e0, e1, e2, -, -, -, ly⟩ := Y6.out
    obtain ⟨i0, i1, i2, -, -, -, lu⟩ := U6.out
    obtain ⟨o0, o1, o2, f0, f1, f2, lr⟩ := R6.out
    go_wp2
    change bodyPost _ _ _ _ _ (put3 w6 (w.heap.size + 3) _ _ _)
    have s0 := fun v0 v1 v2 => (put3_box R6.out v0 v1 v2).c0
    have s1 := fun v0 v1 v2 => (put3_box R6.out v0 v1 v2).c1
    have s2 := fun v0 v1 v2 => (put3_box R6.out v0 v1 v2).c2
    refine bodyPost_ret (v := RR) ?_ rfl ⟨HRR.out, B6.out.trans ((put3_below _ _ _ _ _).mono (by omega))⟩
    simp [results, Tryz.results53, go_sem, s0, s1, s2, hRR, txt]
  · go_enter Tryz.func53, Tryz.ntmps53
    go_wp2_with (first | rw [← W0.out, ← W1.out, ← W2.out, ← W3.out, Z0.out, Z1.out, Z2.out] | rw [← W0.out, ← W1.out, ← W2.out, ← W3.out, Z0.out, Z1.out] | rw [← W0.out, ← W1.out, ← W2.out, ← W3.out])
    refine (number_c s (by omega) _).mono ?_
    rintro e w4 ⟨rfl, rfl⟩
    go_wp2_with fail
    refine (num_p _ _).mono ?_
    rintro e w6 ⟨rfl, b6⟩
    have z6 := b6.size
    have X6 := Lib.hid (X3.out.below b6 (by omega)); have Y6 := Lib.hid (Y3.out.below b6 (by omega)); have U6 := Lib.hid (U3.out.below b6 (by omega)); have R6 := Lib.hid (R3.out.below b6 (by omega)); have B6 := Lib.hid (B3.out.trans (b6.mono (by omega)))
    clear c0 c1 c2 e0 e1 e2 i0 i1 i2 o0 o1 o2 f0 f1 f2 lx ly lu lr
    obtain ⟨c0, c1, c2, -, -, -, lx⟩ := X6.out
    obtain ⟨e0, e1, e2, -, -, -, ly⟩ := Y6.out
    obtain ⟨i0, i1, i2, -, -, -, lu⟩ := U6.out
    obtain ⟨o0, o1, o2, f0, f1, f2, lr⟩ := R6.out
    go_wp2
    change bodyPost _ _ _ _ _ (put3 w6 (w.heap.size + 3) _ _ _)
    have s0 := fun v0 v1 v2 => (put3_box R6.out v0 v1 v2).c0
    have s1 := fun v0 v1 v2 => (put3_box R6.out v0 v1 v2).c1
    have s2 := fun v0 v1 v2 => (put3_box R6.out v0 v1 v2).c2
    refine bodyPost_ret (v := RR) ?_ rfl ⟨HRR.out, B6.out.trans ((put3_below _ _ _ _ _).mono (by omega))⟩
    simp [results, Tryz.results53, go_sem, s0, s1, s2, hRR, num]
  · go_enter Tryz.func53, Tryz.ntmps53
    go_wp2_with (first | rw [← W0.out, ← W1.out, ← W2.out, ← W3.out, Z0.out, Z1.out, Z2.out] | rw [← W0.out, ← W1.out, ← W2.out, ← W3.out, Z0.out, Z1.out] | rw [← W0.out, ← W1.out, ← W2.out, ← W3.out])
    refine (figuresI_c n ha _).mono ?_
    rintro e w4 ⟨rfl, b4⟩
    have z4 := b4.size
    have X4 := Lib.hid (X3.out.below b4 (by omega)); have Y4 := Lib.hid (Y3.out.below b4 (by omega)); have U4 := Lib.hid (U3.out.below b4 (by omega)); have R4 := Lib.hid (R3.out.below b4 (by omega)); have B4 := Lib.hid (B3.out.trans (b4.mono (by omega)))
    clear c0 c1 c2 e0 e1 e2 i0 i1 i2 o0 o1 o2 f0 f1 f2 lx ly lu lr
    obtain ⟨c0, c1, c2, -, -, -, lx⟩ := X4.out
    obtain ⟨e0, e1, e2, -, -, -, ly⟩ := Y4.out
    obtain ⟨i0, i1, i2, -, -, -, lu⟩ := U4.out
    obtain ⟨o0, o1, o2, f0, f1, f2, lr⟩ := R4.out
    go_wp2_with fail
    refine (text_p (figures n) (by omega) _).mono ?_
    rintro e w6 ⟨rfl, b6⟩
    have z6 := b6.size
    have X6 := Lib.hid (X4.out.below b6 (by omega)); have Y6 := Lib.hid (Y4.out.below b6 (by omega)); have U6 := Lib.hid (U4.out.below b6 (by omega)); have R6 := Lib.hid (R4.out.below b6 (by omega)); have B6 := Lib.hid (B4.out.trans (b6.mono (by omega)))
    clear c0 c1 c2 e0 e1 e2 i0 i1 i2 o0 o1 o2 f0 f1 f2 lx ly lu lr
    obtain ⟨c0, c1, c2, -, -, -, lx⟩ := X6.out
    obtain ⟨e0, e1, e2, -, -, -, ly⟩ := Y6.out
    obtain ⟨i0, i1, i2, -, -, -, lu⟩ := U6.out
    obtain ⟨o0, o1, o2, f0, f1, f2, lr⟩ := R6.out
    go_wp2
    change bodyPost _ _ _ _ _ (put3 w6 (w.heap.size + 3) _ _ _)
    have s0 := fun v0 v1 v2 => (put3_box R6.out v0 v1 v2).c0
    have s1 := fun v0 v1 v2 => (put3_box R6.out v0 v1 v2).c1
    have s2 := fun v0 v1 v2 => (put3_box R6.out v0 v1 v2).c2
    refine bodyPost_ret (v := RR) ?_ rfl ⟨HRR.out, B6.out.trans ((put3_below _ _ _ _ _).mono (by omega))⟩
    simp [results, Tryz.results53, go_sem, s0, s1, s2, hRR, txt]
  · go_enter Tryz.func53, Tryz.ntmps53
    go_wp2_with (first | rw [← W0.out, ← W1.out, ← W2.out, ← W3.out, Z0.out, Z1.out, Z2.out] | rw [← W0.out, ← W1.out, ← W2.out, ← W3.out, Z0.out, Z1.out] | rw [← W0.out, ← W1.out, ← W2.out, ← W3.out])
    refine (hash_c s (by omega) _).mono ?_
    rintro e w4 ⟨rfl, rfl⟩
    go_wp2_with fail
    refine (num_p _ _).mono ?_
    rintro e w6 ⟨rfl, b6⟩
    have z6 := b6.size
    have X6 := Lib.hid (X3.out.below b6 (by omega)); have Y6 := Lib.hid (Y3.out.below b6 (by omega)); have U6 := Lib.hid (U3.out.below b6 (by omega)); have R6 := Lib.hid (R3.out.below b6 (by omega)); have B6 := Lib.hid (B3.out.trans (b6.mono (by omega)))
    clear c0 c1 c2 e0 e1 e2 i0 i1 i2 o0 o1 o2 f0 f1 f2 lx ly lu lr
    obtain ⟨c0, c1, c2, -, -, -, lx⟩ := X6.out
    obtain ⟨e0, e1, e2, -, -, -, ly⟩ := Y6.out
    obtain ⟨i0, i1, i2, -, -, -, lu⟩ := U6.out
    obtain ⟨o0, o1, o2, f0, f1, f2, lr⟩ := R6.out
    go_wp2
    change bodyPost _ _ _ _ _ (put3 w6 (w.heap.size + 3) _ _ _)
    have s0 := fun v0 v1 v2 => (put3_box R6.out v0 v1 v2).c0
    have s1 := fun v0 v1 v2 => (put3_box R6.out v0 v1 v2).c1
    have s2 := fun v0 v1 v2 => (put3_box R6.out v0 v1 v2).c2
    refine bodyPost_ret (v := RR) ?_ rfl ⟨HRR.out, B6.out.trans ((put3_below _ _ _ _ _).mono (by omega))⟩
    simp [results, Tryz.results53, go_sem, s0, s1, s2, hRR, num]
  · go_enter Tryz.func53, Tryz.ntmps53
    go_wp2_with (first | rw [← W0.out, ← W1.out, ← W2.out, ← W3.out, Z0.out, Z1.out, Z2.out] | rw [← W0.out, ← W1.out, ← W2.out, ← W3.out, Z0.out, Z1.out] | rw [← W0.out, ← W1.out, ← W2.out, ← W3.out])
    refine (find_c s s' (by omega) (by omega) _).mono ?_
    rintro e w4 ⟨rfl, rfl⟩
    go_wp2_with fail
    refine (num_p _ _).mono ?_
    rintro e w6 ⟨rfl, b6⟩
    have z6 := b6.size
    have X6 := Lib.hid (X3.out.below b6 (by omega)); have Y6 := Lib.hid (Y3.out.below b6 (by omega)); have U6 := Lib.hid (U3.out.below b6 (by omega)); have R6 := Lib.hid (R3.out.below b6 (by omega)); have B6 := Lib.hid (B3.out.trans (b6.mono (by omega)))
    clear c0 c1 c2 e0 e1 e2 i0 i1 i2 o0 o1 o2 f0 f1 f2 lx ly lu lr
    obtain ⟨c0, c1, c2, -, -, -, lx⟩ := X6.out
    obtain ⟨e0, e1, e2, -, -, -, ly⟩ := Y6.out
    obtain ⟨i0, i1, i2, -, -, -, lu⟩ := U6.out
    obtain ⟨o0, o1, o2, f0, f1, f2, lr⟩ := R6.out
    go_wp2
    change bodyPost _ _ _ _ _ (put3 w6 (w.heap.size + 3) _ _ _)
    have s0 := fun v0 v1 v2 => (put3_box R6.out v0 v1 v2).c0
    have s1 := fun v0 v1 v2 => (put3_box R6.out v0 v1 v2).c1
    have s2 := fun v0 v1 v2 => (put3_box R6.out v0 v1 v2).c2
    refine bodyPost_ret (v := RR) ?_ rfl ⟨HRR.out, B6.out.trans ((put3_below _ _ _ _ _).mono (by omega))⟩
    simp [results, Tryz.results53, go_sem, s0, s1, s2, hRR, num]
end Go.Proofs.YtoalncojijmelaaGreatDoor

/-
  The document's Do.
-/
namespace Go.Proofs.YtoalncojijmelaaGreatDoor
open Go.RowKit Vl

/-- The cells of values. -/
def vvs (l : List V) : List Value := l.flatMap fun v => [.bool v.t, .int .i64 v.n, st v.s]
theorem vvs_len (l : List V) : (vvs l).length = l.length * 3 := by
  induction l with
  | nil => rfl
  | cons v l ih => unfold vvs at ih ⊢; rw [List.flatMap_cons, List.length_append, ih]; simp; omega
theorem vvs_get : ∀ (l : List V) (k : Nat) (v : V), l[k]? = some v → (vvs l)[k * 3]? = some (.bool v.t) ∧ (vvs l)[k * 3 + 1]? = some (.int .i64 v.n) ∧ (vvs l)[k * 3 + 2]? = some (st v.s)
  | [], k, v, h => by simp at h
  | x :: l, 0, v, h => by
    simp at h; subst h
    exact ⟨rfl, rfl, rfl⟩
  | x :: l, k + 1, v, h => by
    have ih := vvs_get l k v (by simpa using h)
    have e : vvs (x :: l) = [.bool x.t, .int .i64 x.n, st x.s] ++ vvs l := rfl
    rw [e, show (k + 1) * 3 = k * 3 + 3 by omega, show k * 3 + 3 + 1 = (k * 3 + 1) + 3 by omega, show k * 3 + 3 + 2 = (k * 3 + 2) + 3 by omega]
    rw [List.getElem?_append_right (by simp), List.getElem?_append_right (by simp), List.getElem?_append_right (by simp)]
    simpa using ih
theorem vvs_at {w : World} {B n c k : Nat} {A : Option Addr} {l : List V} (h : Rc 3 w B A n c (vvs l)) (hk : k < n) :
    ∃ b o v, A = some ⟨b, o, none⟩ ∧ b < B ∧ w.cell? ⟨b, o + k * 3, none⟩ = some (.bool v.t) ∧ w.cell? ⟨b, o + k * 3 + 1, none⟩ = some (.int .i64 v.n) ∧ w.cell? ⟨b, o + k * 3 + 2, none⟩ = some (st v.s) ∧ l[k]? = some v := by
  have hl : l.length = n := by have := h.1; rw [vvs_len] at this; omega
  obtain ⟨b, o, e, hb, hc⟩ := h.2.2.2 (by omega)
  have hkl : k < l.length := by omega
  have hg := List.getElem?_eq_getElem hkl
  obtain ⟨g1, g2, g3⟩ := vvs_get l k _ hg
  exact ⟨b, o, l[k], e, hb, hc _ _ g1, by rw [Nat.add_assoc]; exact hc _ _ g2, by rw [Nat.add_assoc]; exact hc _ _ g3, hg⟩
theorem bsty : Sl Tryz.prog 47 4 (.bool false) 1 1 := ⟨Tryz.underlying47, by kernel_rfl, rfl, by omega⟩
theorem isV_len {v : V} (h : isV v = true) : v.s.length ≤ 1000 := by
  cases ht : v.t with
  | false => rw [isV_number h ht]; simp
  | true => exact (isV_text h ht).2
def DoRel (w1 : World) (n : Nat) (l : List V) (o i : Value) (wr : World) : Prop :=
  ∃ A c, ∃ k : Nat, o = .slice A k c ∧ i = .int .i64 (k : Int) ∧ k ≤ n ∧ Oc 1 wr 4 w1.heap.size A k c (lvb ((l.take k).map (·.t))) ∧ (l.take k).all isV = true ∧ Below w1.heap.size w1 wr
def RetD (w : World) (r : V × Nat) (e : Ending) (w' : World) : Prop := e = .returned (.tuple #[vv r.1, .int .i64 (r.2 : Int)]) ∧ Below w.heap.size w w'

set_option maxRecDepth 100000 in
set_option maxHeartbeats 4000000 in
theorem do_c (op : Int) (A : Option Addr) (n c : Nat) (l : List V) (w : World) (hr : Rc 3 w w.heap.size A n c (vvs l)) (hn : n ≤ 1000000) (hI : ∀ v ∈ l, I v.n) :
    Calls Tryz.prog 33 #[.int .i64 op, .slice A n c] w (RetD w (doV op l)) := by
  have hl : l.length = n := by have := hr.1; rw [vvs_len] at this; omega
  obtain ⟨w1, hw1⟩ : ∃ w1, w1 = w.alloc (.cells #[.bool false, .int .i64 0, .string ⟨#[]⟩] 32) := ⟨_, rfl⟩
  have z1 : w1.heap.size = w.heap.size + 1 := by rw [hw1]; simp
  have b1 : Below w.heap.size w w1 := by rw [hw1]; exact (Below.refl _ _).alloc (Nat.le_refl _) _
  have x1 : Bx w1 w.heap.size (.bool false) (.int .i64 0) (.string ⟨#[]⟩) := by rw [hw1]; exact Bx.made _ _ _ _ _
  obtain ⟨w2, hw2⟩ : ∃ w2, w2 = w1.alloc (.cells #[] 4) := ⟨_, rfl⟩
  have b2 : Below w1.heap.size w1 w2 := by rw [hw2]; exact (Below.refl _ _).alloc (Nat.le_refl _) _
  have own2 : Oc 1 w2 4 w1.heap.size (some ⟨w1.heap.size, 0, none⟩) 0 0 [] := by rw [hw2]; exact Oc.made0 1 _ _
  have hr1 := (hr.below b1).more (B' := w1.heap.size) (by omega)
  obtain ⟨R, hR⟩ : ∃ R, R = doV op l := ⟨_, rfl⟩
  rw [← hR]
  have W1 := Lib.hid hw1; have W2 := Lib.hid hw2; have Z1 := Lib.hid z1; have B1 := Lib.hid b1; have X1 := Lib.hid x1; have B2 := Lib.hid b2; have Own2 := Lib.hid own2; have Hr := Lib.hid hr1; have HI := Lib.hid hI; have HR := Lib.hid hR; have Hl := Lib.hid hl
  have zl : w.heap.size < w1.heap.size := by omega
  clear hw1 hw2 b1 x1 b2 own2 hr hr1 hI hR hl z1
  go_enter Tryz.func33, Tryz.ntmps33
  go_wp2_with (first | rw [← W1.out, ← W2.out, Z1.out] | rw [← W1.out, ← W2.out])
  go_loopw [6, 7] (fun o i wr => DoRel w1 n l o i wr) (fun _ i _ => n - (intOf i).toNat)
  case atStart => exact ⟨_, _, 0, by first | rfl | rw [Z1.out], rfl, Nat.zero_le _, Own2.out, rfl, B2.out⟩
  case round =>
    obtain ⟨A3, c3, k, rfl, rfl, hk, hown, hall, hbel⟩ := hrel
    rename World => wr
    have z3 := hbel.size
    by_cases hlt : k < n
    · obtain ⟨b, o, v, rfl, hb, hc0, hc1, hc2, hv⟩ := vvs_at (Hr.out.below hbel) hlt
      have htk : l.take (k + 1) = l.take k ++ [v] := by rw [List.take_add_one, hv]; rfl
      have Hv := Lib.hid hv; have Htk := Lib.hid htk; have Hown := Lib.hid hown; have Hall := Lib.hid hall; have Hbel := Lib.hid hbel
      have hbw : b < wr.heap.size := by omega
      obtain ⟨t, m, s⟩ := v
      dsimp only at hc0 hc1 hc2
      have hct : wr.cell? ⟨b, o + k * 3, none⟩ = some (.bool t) := hc0
      obtain ⟨ok, hok⟩ : ∃ ok, ok = isV ⟨t, m, s⟩ := ⟨_, rfl⟩
      have his := is_c ⟨t, m, s⟩ wr
      rw [← hok] at his
      have His := Lib.hid his; have Hok := Lib.hid hok
      clear hv htk hown hall hbel his hok
      go_wp2_with fail
      refine His.out.mono ?_
      rintro e w4 ⟨rfl, b4⟩
      have z4 := b4.size
      have bb4 := Hbel.out.trans (b4.mono z3)
      have hct4 : w4.cell? ⟨b, o + k * 3, none⟩ = some (.bool t) := (b4.cell (p := ⟨b, o + k * 3, none⟩) hbw).trans hct
      clear hc0 hc1 hc2 hct
      cases ok with
      | false =>
        have hRv : R = (v0, 1) := by
          rw [HR.out]
          unfold doV
          rw [if_neg]
          intro q
          have := List.all_eq_true.1 q _ (List.mem_of_getElem? Hv.out)
          rw [← Hok.out] at this
          cases this
        subst hRv
        have x4 := X1.out.below bb4 (by omega)
        have X4 := Lib.hid x4; have BB4 := Lib.hid (B1.out.trans (bb4.mono (by omega)))
        obtain ⟨o0, o1, o2, f0, f1, f2, lr⟩ := x4
        clear b4 bb4 hct4
        go_wp2
        change bodyPost _ _ _ _ _ (put3 w4 w.heap.size _ _ _)
        have s0 := fun v0 v1 v2 => (put3_box X4.out v0 v1 v2).c0
        have s1 := fun v0 v1 v2 => (put3_box X4.out v0 v1 v2).c1
        have s2 := fun v0 v1 v2 => (put3_box X4.out v0 v1 v2).c2
        refine bodyPost_ret (v := .tuple #[vv v0, .int .i64 1]) ?_ rfl ⟨rfl, BB4.out.trans (put3_below _ _ _ _ _)⟩
        simp [results, Tryz.results33, go_sem, s0, s1, s2, v0]
      | true =>
        obtain ⟨w5, hw5⟩ : ∃ w5, w5 = w4.alloc (.cells #[.bool t] 4) := ⟨_, rfl⟩
        have b5 : Below w4.heap.size w4 w5 := by rw [hw5]; exact (Below.refl _ _).alloc (Nat.le_refl _) _
        have hrow : Rc 1 w5 (w4.heap.size + 1) (some ⟨w4.heap.size, 0, none⟩) 1 1 [.bool t] := by rw [hw5]; exact Rc.lit (z := 1) w4 _ #[.bool t] 1 rfl (by simp [maxLen])
        have b45 := b4.trans (b5.mono z4)
        have own5 := Hown.out.keep b45
        have bb5 := Hbel.out.trans (b45.mono z3)
        have z5 := bb5.size
        have W5 := Lib.hid hw5; have Hrow := Lib.hid hrow; have Own5 := Lib.hid own5; have BB5 := Lib.hid bb5
        have hws : lvb ((l.take (k + 1)).map (·.t)) = lvb ((l.take k).map (·.t)) ++ [.bool t] := by rw [Htk.out]; simp [lvb]
        obtain ⟨N, hN⟩ : ∃ N, N = lvb ((l.take (k + 1)).map (·.t)) := ⟨_, rfl⟩
        rw [← hN] at hws
        have HN := Lib.hid hN
        have hal : (l.take (k + 1)).all isV = true := by rw [Htk.out, List.all_append, Hall.out]; simp [← Hok.out]
        have Hws := Lib.hid hws.symm; have Hal := Lib.hid hal
        clear hw5 hrow own5 bb5 b45 b5 b4 bb4 hws hal hN
        go_wp2_with (at_builtin; rw [← W5.out]; go_must (refine Sl.wpAppAt bsty rfl (.tmp 27) (.tmp 33) rfl (n := k) (m := 1) (N := k + 1) (ws := N) rfl rfl Own5.out Hrow.out ?hs1 rfl Hws.out ?hs4 ?hs5 ?hs6 ?_))
        case hs1 => simp [Value.oneCell']
        case hs4 => omega
        case hs5 => omega
        case hs6 => exact z5
        intro A8 c8 w8 hown8 hg8
        have b8 := hg8.belowC Own5.out z5
        have bw8 := BB5.out.trans b8
        have Hown8 := Lib.hid hown8
        clear hown8 hg8
        go_wp2
        go_roundw
        case rel => exact ⟨A8, c8, k + 1, rfl, by go_num, hlt, by rw [← HN.out]; exact Hown8.out, Hal.out, bw8⟩
        case measure => simp [intOf]; omega
    · obtain rfl : k = n := by omega
      rw [List.take_of_length_le (by have := Hl.out; omega)] at hown hall
      have hrc := result_c op A3 k c3 (l.map (·.t)) wr hown.rc hn
      obtain ⟨rb, hrb⟩ : ∃ rb, rb = (res op (l.map (·.t))).1 := ⟨_, rfl⟩
      obtain ⟨re, hre⟩ : ∃ re, re = (res op (l.map (·.t))).2 := ⟨_, rfl⟩
      rw [← hrb, ← hre] at hrc
      have Hrc := Lib.hid hrc; have Hre := Lib.hid hre; have Hall := Lib.hid hall; have Hbel := Lib.hid hbel
      clear hrc hrb hre hall hown hbel
      go_wp2_with fail
      refine Hrc.out.mono ?_
      rintro e w5' ⟨rfl, q, rfl⟩
      have b5 : Below w1.heap.size w1 (wr.drewN q) := below_drewN Hbel.out _
      obtain ⟨w5, hw5⟩ : ∃ w5, w5 = wr.drewN q := ⟨_, rfl⟩
      have z5 : w5.heap.size = wr.heap.size := by rw [hw5]; rfl
      rw [← hw5] at b5 ⊢
      have B5 := Lib.hid b5
      clear hw5 b5
      by_cases he : re = 0
      · subst he
        obtain ⟨hV, -, hlen, -⟩ := do_kind op l Hall.out (by unfold doV; rw [if_pos Hall.out, if_pos Hre.out.symm])
        have hop := kd_op (op := op) (by
          intro e
          have := Hre.out
          unfold res at this
          rw [if_pos e] at this
          cases this)
        have hx0 : 0 < k := by
          have h1 := Hl.out
          rcases hop with rfl | rfl | rfl | rfl | rfl | rfl | rfl | rfl | rfl | rfl | rfl | rfl | rfl | rfl | rfl | rfl | rfl | rfl <;> (have h2 : l.length = _ := hlen; simp [ar, kd] at h2; omega)
        obtain ⟨b, o, v, rfl, hb, hc0, hc1, hc2, hv⟩ := vvs_at (Hr.out.below B5.out) hx0
        have hbw : b < w5.heap.size := by omega
        have gd0 : l.getD 0 v0 = v := by rw [List.getD_eq_getElem?_getD, hv]; rfl
        have hVa : isV v = true := List.all_eq_true.1 Hall.out v (List.mem_of_getElem? hv)
        have hIa : I v.n := HI.out v (List.mem_of_getElem? hv)
        obtain ⟨t, m, s⟩ := v
        dsimp only at hc0 hc1 hc2 hIa
        simp only [Nat.zero_mul, Nat.add_zero] at hc0 hc1 hc2
        have hc0' := hc0
        have z5' := z5
        clear z5 hv
        by_cases hk2 : 1 < k
        · obtain ⟨b', o', v', hE, -, hd0, hd1, hd2, hv'⟩ := vvs_at (Hr.out.below B5.out) hk2
          injection hE with hE
          injection hE with hE1 hE2
          subst hE1 hE2
          have gd1 : l.getD 1 v0 = v' := by rw [List.getD_eq_getElem?_getD, hv']; rfl
          have hVb : isV v' = true := List.all_eq_true.1 Hall.out v' (List.mem_of_getElem? hv')
          have hIb : I v'.n := HI.out v' (List.mem_of_getElem? hv')
          obtain ⟨t1, m1, s1⟩ := v'
          dsimp only at hd0 hd1 hd2 hIb
          clear hv'
          have d1 : decide ((1 : Int) < (k : Int)) = true := by simp; omega
          have d1' : decide (1 < k) = true := decide_eq_true hk2
          by_cases hk3 : 2 < k
          · obtain ⟨b', o', v', hE, -, hh0, hh1, hh2, hv'⟩ := vvs_at (Hr.out.below B5.out) hk3
            injection hE with hE
            injection hE with hE1 hE2
            subst hE1 hE2
            have gd2 : l.getD 2 v0 = v' := by rw [List.getD_eq_getElem?_getD, hv']; rfl
            obtain ⟨t2, m2, s2⟩ := v'
            dsimp only at hh0 hh1 hh2
            clear hv'
            have d2 : decide ((2 : Int) < (k : Int)) = true := by simp; omega
            have d2' : decide (2 < k) = true := decide_eq_true hk3
            have raw := fun (x y z : Obj) (k : Nat) => (show (((w5.alloc x).alloc y).alloc z).cell? ⟨b, k, none⟩ = w5.cell? ⟨b, k, none⟩ by rw [World.cell?_alloc_lt _ _ _ (by simp; omega), World.cell?_alloc_lt _ _ _ (by simp; omega), World.cell?_alloc_lt _ _ _ hbw])
            have ra0 := (raw (.cells #[.bool t, .int .i64 m, .string ⟨s.toArray⟩] 32) (.cells #[.bool false, .int .i64 0, .string ⟨#[]⟩] 32) (.cells #[.bool false, .int .i64 0, .string ⟨#[]⟩] 32) (o + 1 * 3 )).trans hd0
            have ra1 := (raw (.cells #[.bool t, .int .i64 m, .string ⟨s.toArray⟩] 32) (.cells #[.bool false, .int .i64 0, .string ⟨#[]⟩] 32) (.cells #[.bool false, .int .i64 0, .string ⟨#[]⟩] 32) (o + 1 * 3 + 1)).trans hd1
            have ra2 := (raw (.cells #[.bool t, .int .i64 m, .string ⟨s.toArray⟩] 32) (.cells #[.bool false, .int .i64 0, .string ⟨#[]⟩] 32) (.cells #[.bool false, .int .i64 0, .string ⟨#[]⟩] 32) (o + 1 * 3 + 2)).trans hd2
            simp only [Nat.one_mul] at ra0 ra1 ra2
            have rb0 := (raw (.cells #[.bool t, .int .i64 m, .string ⟨s.toArray⟩] 32) (.cells #[.bool t1, .int .i64 m1, .string ⟨s1.toArray⟩] 32) (.cells #[.bool false, .int .i64 0, .string ⟨#[]⟩] 32) (o + 2 * 3 )).trans hh0
            have rb1 := (raw (.cells #[.bool t, .int .i64 m, .string ⟨s.toArray⟩] 32) (.cells #[.bool t1, .int .i64 m1, .string ⟨s1.toArray⟩] 32) (.cells #[.bool false, .int .i64 0, .string ⟨#[]⟩] 32) (o + 2 * 3 + 1)).trans hh1
            have rb2 := (raw (.cells #[.bool t, .int .i64 m, .string ⟨s.toArray⟩] 32) (.cells #[.bool t1, .int .i64 m1, .string ⟨s1.toArray⟩] 32) (.cells #[.bool false, .int .i64 0, .string ⟨#[]⟩] 32) (o + 2 * 3 + 2)).trans hh2
            simp only [Nat.reduceMul] at rb0 rb1 rb2
            obtain ⟨w6, hw6⟩ : ∃ w6, w6 = w5.alloc (.cells #[.bool t, .int .i64 m, .string ⟨s.toArray⟩] 32) := ⟨_, rfl⟩
            obtain ⟨w7, hw7⟩ : ∃ w7, w7 = w6.alloc (.cells #[.bool t1, .int .i64 m1, .string ⟨s1.toArray⟩] 32) := ⟨_, rfl⟩
            obtain ⟨w8, hw8⟩ : ∃ w8, w8 = w7.alloc (.cells #[.bool t2, .int .i64 m2, .string ⟨s2.toArray⟩] 32) := ⟨_, rfl⟩
            have b58 : Below w5.heap.size w5 w8 := by rw [hw8, hw7, hw6]; exact (((Below.refl _ _).alloc (Nat.le_refl _) _).alloc (by simp) _).alloc (by simp; omega) _
            have hlast : w1.heap.size ≤ w8.heap.size := by have := b58.size; omega
            have BL := Lib.hid (B5.out.trans (b58.mono (by omega)))
            have W6 := Lib.hid hw6; have W7 := Lib.hid hw7; have W8 := Lib.hid hw8
            have hla : s.length ≤ 1000 := isV_len (v := ⟨t, m, s⟩) hVa
            have hlb : s1.length ≤ 1000 := isV_len (v := ⟨t1, m1, s1⟩) hVb
            clear raw z5' b58 hw6 hw7 hw8 hb hbw hc0' hV hVa hd0 hd1 hd2 hVb hh0 hh1 hh2
            rcases (show op ≤ 8 ∨ (8 < op ∧ op < 14) ∨ (14 ≤ op ∧ op ≤ 17) ∨ 17 < op by omega) with hc | hc | hc | hc
            · have q1 : op ≤ 8 := hc
              have d8 : decide (op ≤ 8) = true := decide_eq_true q1
              obtain ⟨X, hX⟩ : ∃ X, X = rek op ⟨t, m, s⟩ ⟨t1, m1, s1⟩ ⟨t2, m2, s2⟩ := ⟨_, rfl⟩
              have hRv : R = (X, 0) := by
                rw [HR.out, hX]
                unfold doV
                rw [if_pos Hall.out, if_pos Hre.out.symm, if_pos (by omega), gd0, gd1, gd2]
              have hcall := reckoned_c op ⟨t, m, s⟩ ⟨t1, m1, s1⟩ ⟨t2, m2, s2⟩ (by omega) hIa hIb w8
              rw [← hX] at hcall
              obtain ⟨rt, rn, rs⟩ := X
              subst hRv
              have Hcall := Lib.hid hcall
              clear hcall hX HR Hall Hre gd0 gd1 gd2 hop hIa
              go_wp2_with fail
              rw [← W6.out, ← W7.out, ← W8.out]
              refine Hcall.out.mono ?_
              rintro e w20 ⟨rfl, b20⟩
              have bl20 := BL.out.trans (b20.mono hlast)
              have x20 := X1.out.below bl20 zl
              have X20 := Lib.hid x20; have BW20 := Lib.hid (B1.out.trans (bl20.mono (by omega)))
              obtain ⟨o0, o1, o2, f0, f1, f2, lr⟩ := x20
              clear b20 bl20 ra0 ra1 ra2 rb0 rb1 rb2
              go_wp2
              change bodyPost _ _ _ _ _ (put3 w20 w.heap.size _ _ _)
              have s0 := fun v0 v1 v2 => (put3_box X20.out v0 v1 v2).c0
              have s1 := fun v0 v1 v2 => (put3_box X20.out v0 v1 v2).c1
              have s2 := fun v0 v1 v2 => (put3_box X20.out v0 v1 v2).c2
              refine bodyPost_ret (v := .tuple #[vv ⟨rt, rn, rs⟩, .int .i64 0]) ?_ rfl ⟨rfl, BW20.out.trans (put3_below _ _ _ _ _)⟩
              simp [results, Tryz.results33, go_sem, s0, s1, s2]
            · obtain ⟨q1, q2⟩ := hc
              have d8 : decide (op ≤ 8) = false := decide_eq_false (by omega)
              have d14 : decide (14 ≤ op) = false := decide_eq_false (by omega)
              obtain ⟨X, hX⟩ : ∃ X, X = tex op ⟨t, m, s⟩ ⟨t1, m1, s1⟩ ⟨t2, m2, s2⟩ := ⟨_, rfl⟩
              have hRv : R = (X, 0) := by
                rw [HR.out, hX]
                unfold doV
                rw [if_pos Hall.out, if_pos Hre.out.symm, if_neg (by omega), gd0, gd1, gd2]
              have hcall := texted_c op ⟨t, m, s⟩ ⟨t1, m1, s1⟩ ⟨t2, m2, s2⟩ (by omega) hIa hla hlb w8
              rw [← hX] at hcall
              obtain ⟨rt, rn, rs⟩ := X
              subst hRv
              have Hcall := Lib.hid hcall
              clear hcall hX HR Hall Hre gd0 gd1 gd2 hop hIa
              go_wp2_with fail
              rw [← W6.out, ← W7.out, ← W8.out]
              refine Hcall.out.mono ?_
              rintro e w20 ⟨rfl, b20⟩
              have bl20 := BL.out.trans (b20.mono hlast)
              have x20 := X1.out.below bl20 zl
              have X20 := Lib.hid x20; have BW20 := Lib.hid (B1.out.trans (bl20.mono (by omega)))
              obtain ⟨o0, o1, o2, f0, f1, f2, lr⟩ := x20
              clear b20 bl20 ra0 ra1 ra2 rb0 rb1 rb2
              go_wp2
              change bodyPost _ _ _ _ _ (put3 w20 w.heap.size _ _ _)
              have s0 := fun v0 v1 v2 => (put3_box X20.out v0 v1 v2).c0
              have s1 := fun v0 v1 v2 => (put3_box X20.out v0 v1 v2).c1
              have s2 := fun v0 v1 v2 => (put3_box X20.out v0 v1 v2).c2
              refine bodyPost_ret (v := .tuple #[vv ⟨rt, rn, rs⟩, .int .i64 0]) ?_ rfl ⟨rfl, BW20.out.trans (put3_below _ _ _ _ _)⟩
              simp [results, Tryz.results33, go_sem, s0, s1, s2]
            · obtain ⟨q1, q2⟩ := hc
              have d8 : decide (op ≤ 8) = false := decide_eq_false (by omega)
              have d14 : decide (14 ≤ op) = true := decide_eq_true (by omega)
              have d17 : decide (op ≤ 17) = true := decide_eq_true (by omega)
              obtain ⟨X, hX⟩ : ∃ X, X = rek op ⟨t, m, s⟩ ⟨t1, m1, s1⟩ ⟨t2, m2, s2⟩ := ⟨_, rfl⟩
              have hRv : R = (X, 0) := by
                rw [HR.out, hX]
                unfold doV
                rw [if_pos Hall.out, if_pos Hre.out.symm, if_pos (by omega), gd0, gd1, gd2]
              have hcall := reckoned_c op ⟨t, m, s⟩ ⟨t1, m1, s1⟩ ⟨t2, m2, s2⟩ (by omega) hIa hIb w8
              rw [← hX] at hcall
              obtain ⟨rt, rn, rs⟩ := X
              subst hRv
              have Hcall := Lib.hid hcall
              clear hcall hX HR Hall Hre gd0 gd1 gd2 hop hIa
              go_wp2_with fail
              rw [← W6.out, ← W7.out, ← W8.out]
              refine Hcall.out.mono ?_
              rintro e w20 ⟨rfl, b20⟩
              have bl20 := BL.out.trans (b20.mono hlast)
              have x20 := X1.out.below bl20 zl
              have X20 := Lib.hid x20; have BW20 := Lib.hid (B1.out.trans (bl20.mono (by omega)))
              obtain ⟨o0, o1, o2, f0, f1, f2, lr⟩ := x20
              clear b20 bl20 ra0 ra1 ra2 rb0 rb1 rb2
              go_wp2
              change bodyPost _ _ _ _ _ (put3 w20 w.heap.size _ _ _)
              have s0 := fun v0 v1 v2 => (put3_box X20.out v0 v1 v2).c0
              have s1 := fun v0 v1 v2 => (put3_box X20.out v0 v1 v2).c1
              have s2 := fun v0 v1 v2 => (put3_box X20.out v0 v1 v2).c2
              refine bodyPost_ret (v := .tuple #[vv ⟨rt, rn, rs⟩, .int .i64 0]) ?_ rfl ⟨rfl, BW20.out.trans (put3_below _ _ _ _ _)⟩
              simp [results, Tryz.results33, go_sem, s0, s1, s2]
            · have q1 : 17 < op := hc
              have d8 : decide (op ≤ 8) = false := decide_eq_false (by omega)
              have d14 : decide (14 ≤ op) = true := decide_eq_true (by omega)
              have d17 : decide (op ≤ 17) = false := decide_eq_false (by omega)
              obtain ⟨X, hX⟩ : ∃ X, X = tex op ⟨t, m, s⟩ ⟨t1, m1, s1⟩ ⟨t2, m2, s2⟩ := ⟨_, rfl⟩
              have hRv : R = (X, 0) := by
                rw [HR.out, hX]
                unfold doV
                rw [if_pos Hall.out, if_pos Hre.out.symm, if_neg (by omega), gd0, gd1, gd2]
              have hcall := texted_c op ⟨t, m, s⟩ ⟨t1, m1, s1⟩ ⟨t2, m2, s2⟩ (by omega) hIa hla hlb w8
              rw [← hX] at hcall
              obtain ⟨rt, rn, rs⟩ := X
              subst hRv
              have Hcall := Lib.hid hcall
              clear hcall hX HR Hall Hre gd0 gd1 gd2 hop hIa
              go_wp2_with fail
              rw [← W6.out, ← W7.out, ← W8.out]
              refine Hcall.out.mono ?_
              rintro e w20 ⟨rfl, b20⟩
              have bl20 := BL.out.trans (b20.mono hlast)
              have x20 := X1.out.below bl20 zl
              have X20 := Lib.hid x20; have BW20 := Lib.hid (B1.out.trans (bl20.mono (by omega)))
              obtain ⟨o0, o1, o2, f0, f1, f2, lr⟩ := x20
              clear b20 bl20 ra0 ra1 ra2 rb0 rb1 rb2
              go_wp2
              change bodyPost _ _ _ _ _ (put3 w20 w.heap.size _ _ _)
              have s0 := fun v0 v1 v2 => (put3_box X20.out v0 v1 v2).c0
              have s1 := fun v0 v1 v2 => (put3_box X20.out v0 v1 v2).c1
              have s2 := fun v0 v1 v2 => (put3_box X20.out v0 v1 v2).c2
              refine bodyPost_ret (v := .tuple #[vv ⟨rt, rn, rs⟩, .int .i64 0]) ?_ rfl ⟨rfl, BW20.out.trans (put3_below _ _ _ _ _)⟩
              simp [results, Tryz.results33, go_sem, s0, s1, s2]
          · have gd2 : l.getD 2 v0 = v0 := by rw [List.getD_eq_getElem?_getD, List.getElem?_eq_none (by have := Hl.out; omega)]; rfl
            have d2 : decide ((2 : Int) < (k : Int)) = false := by simp; omega
            have d2' : decide (2 < k) = false := decide_eq_false hk3
            have raw := fun (x y z : Obj) (k : Nat) => (show (((w5.alloc x).alloc y).alloc z).cell? ⟨b, k, none⟩ = w5.cell? ⟨b, k, none⟩ by rw [World.cell?_alloc_lt _ _ _ (by simp; omega), World.cell?_alloc_lt _ _ _ (by simp; omega), World.cell?_alloc_lt _ _ _ hbw])
            have ra0 := (raw (.cells #[.bool t, .int .i64 m, .string ⟨s.toArray⟩] 32) (.cells #[.bool false, .int .i64 0, .string ⟨#[]⟩] 32) (.cells #[.bool false, .int .i64 0, .string ⟨#[]⟩] 32) (o + 1 * 3 )).trans hd0
            have ra1 := (raw (.cells #[.bool t, .int .i64 m, .string ⟨s.toArray⟩] 32) (.cells #[.bool false, .int .i64 0, .string ⟨#[]⟩] 32) (.cells #[.bool false, .int .i64 0, .string ⟨#[]⟩] 32) (o + 1 * 3 + 1)).trans hd1
            have ra2 := (raw (.cells #[.bool t, .int .i64 m, .string ⟨s.toArray⟩] 32) (.cells #[.bool false, .int .i64 0, .string ⟨#[]⟩] 32) (.cells #[.bool false, .int .i64 0, .string ⟨#[]⟩] 32) (o + 1 * 3 + 2)).trans hd2
            simp only [Nat.one_mul] at ra0 ra1 ra2
            obtain ⟨w6, hw6⟩ : ∃ w6, w6 = w5.alloc (.cells #[.bool t, .int .i64 m, .string ⟨s.toArray⟩] 32) := ⟨_, rfl⟩
            obtain ⟨w7, hw7⟩ : ∃ w7, w7 = w6.alloc (.cells #[.bool t1, .int .i64 m1, .string ⟨s1.toArray⟩] 32) := ⟨_, rfl⟩
            obtain ⟨w8, hw8⟩ : ∃ w8, w8 = w7.alloc (.cells #[.bool false, .int .i64 0, .string ⟨#[]⟩] 32) := ⟨_, rfl⟩
            have b58 : Below w5.heap.size w5 w8 := by rw [hw8, hw7, hw6]; exact (((Below.refl _ _).alloc (Nat.le_refl _) _).alloc (by simp) _).alloc (by simp; omega) _
            have hlast : w1.heap.size ≤ w8.heap.size := by have := b58.size; omega
            have BL := Lib.hid (B5.out.trans (b58.mono (by omega)))
            have W6 := Lib.hid hw6; have W7 := Lib.hid hw7; have W8 := Lib.hid hw8
            have hla : s.length ≤ 1000 := isV_len (v := ⟨t, m, s⟩) hVa
            have hlb : s1.length ≤ 1000 := isV_len (v := ⟨t1, m1, s1⟩) hVb
            clear raw z5' b58 hw6 hw7 hw8 hb hbw hc0' hV hVa hd0 hd1 hd2 hVb
            rcases (show op ≤ 8 ∨ (8 < op ∧ op < 14) ∨ (14 ≤ op ∧ op ≤ 17) ∨ 17 < op by omega) with hc | hc | hc | hc
            · have q1 : op ≤ 8 := hc
              have d8 : decide (op ≤ 8) = true := decide_eq_true q1
              obtain ⟨X, hX⟩ : ∃ X, X = rek op ⟨t, m, s⟩ ⟨t1, m1, s1⟩ v0 := ⟨_, rfl⟩
              have hRv : R = (X, 0) := by
                rw [HR.out, hX]
                unfold doV
                rw [if_pos Hall.out, if_pos Hre.out.symm, if_pos (by omega), gd0, gd1, gd2]
              have hcall := reckoned_c op ⟨t, m, s⟩ ⟨t1, m1, s1⟩ v0 (by omega) hIa hIb w8
              rw [← hX] at hcall
              obtain ⟨rt, rn, rs⟩ := X
              subst hRv
              have Hcall := Lib.hid hcall
              clear hcall hX HR Hall Hre gd0 gd1 gd2 hop hIa
              go_wp2_with fail
              rw [← W6.out, ← W7.out, ← W8.out]
              refine Hcall.out.mono ?_
              rintro e w20 ⟨rfl, b20⟩
              have bl20 := BL.out.trans (b20.mono hlast)
              have x20 := X1.out.below bl20 zl
              have X20 := Lib.hid x20; have BW20 := Lib.hid (B1.out.trans (bl20.mono (by omega)))
              obtain ⟨o0, o1, o2, f0, f1, f2, lr⟩ := x20
              clear b20 bl20 ra0 ra1 ra2
              go_wp2
              change bodyPost _ _ _ _ _ (put3 w20 w.heap.size _ _ _)
              have s0 := fun v0 v1 v2 => (put3_box X20.out v0 v1 v2).c0
              have s1 := fun v0 v1 v2 => (put3_box X20.out v0 v1 v2).c1
              have s2 := fun v0 v1 v2 => (put3_box X20.out v0 v1 v2).c2
              refine bodyPost_ret (v := .tuple #[vv ⟨rt, rn, rs⟩, .int .i64 0]) ?_ rfl ⟨rfl, BW20.out.trans (put3_below _ _ _ _ _)⟩
              simp [results, Tryz.results33, go_sem, s0, s1, s2]
            · obtain ⟨q1, q2⟩ := hc
              have d8 : decide (op ≤ 8) = false := decide_eq_false (by omega)
              have d14 : decide (14 ≤ op) = false := decide_eq_false (by omega)
              obtain ⟨X, hX⟩ : ∃ X, X = tex op ⟨t, m, s⟩ ⟨t1, m1, s1⟩ v0 := ⟨_, rfl⟩
              have hRv : R = (X, 0) := by
                rw [HR.out, hX]
                unfold doV
                rw [if_pos Hall.out, if_pos Hre.out.symm, if_neg (by omega), gd0, gd1, gd2]
              have hcall := texted_c op ⟨t, m, s⟩ ⟨t1, m1, s1⟩ v0 (by omega) hIa hla hlb w8
              rw [← hX] at hcall
              obtain ⟨rt, rn, rs⟩ := X
              subst hRv
              have Hcall := Lib.hid hcall
              clear hcall hX HR Hall Hre gd0 gd1 gd2 hop hIa
              go_wp2_with fail
              rw [← W6.out, ← W7.out, ← W8.out]
              refine Hcall.out.mono ?_
              rintro e w20 ⟨rfl, b20⟩
              have bl20 := BL.out.trans (b20.mono hlast)
              have x20 := X1.out.below bl20 zl
              have X20 := Lib.hid x20; have BW20 := Lib.hid (B1.out.trans (bl20.mono (by omega)))
              obtain ⟨o0, o1, o2, f0, f1, f2, lr⟩ := x20
              clear b20 bl20 ra0 ra1 ra2
              go_wp2
              change bodyPost _ _ _ _ _ (put3 w20 w.heap.size _ _ _)
              have s0 := fun v0 v1 v2 => (put3_box X20.out v0 v1 v2).c0
              have s1 := fun v0 v1 v2 => (put3_box X20.out v0 v1 v2).c1
              have s2 := fun v0 v1 v2 => (put3_box X20.out v0 v1 v2).c2
              refine bodyPost_ret (v := .tuple #[vv ⟨rt, rn, rs⟩, .int .i64 0]) ?_ rfl ⟨rfl, BW20.out.trans (put3_below _ _ _ _ _)⟩
              simp [results, Tryz.results33, go_sem, s0, s1, s2]
            · obtain ⟨q1, q2⟩ := hc
              have d8 : decide (op ≤ 8) = false := decide_eq_false (by omega)
              have d14 : decide (14 ≤ op) = true := decide_eq_true (by omega)
              have d17 : decide (op ≤ 17) = true := decide_eq_true (by omega)
              obtain ⟨X, hX⟩ : ∃ X, X = rek op ⟨t, m, s⟩ ⟨t1, m1, s1⟩ v0 := ⟨_, rfl⟩
              have hRv : R = (X, 0) := by
                rw [HR.out, hX]
                unfold doV
                rw [if_pos Hall.out, if_pos Hre.out.symm, if_pos (by omega), gd0, gd1, gd2]
              have hcall := reckoned_c op ⟨t, m, s⟩ ⟨t1, m1, s1⟩ v0 (by omega) hIa hIb w8
              rw [← hX] at hcall
              obtain ⟨rt, rn, rs⟩ := X
              subst hRv
              have Hcall := Lib.hid hcall
              clear hcall hX HR Hall Hre gd0 gd1 gd2 hop hIa
              go_wp2_with fail
              rw [← W6.out, ← W7.out, ← W8.out]
              refine Hcall.out.mono ?_
              rintro e w20 ⟨rfl, b20⟩
              have bl20 := BL.out.trans (b20.mono hlast)
              have x20 := X1.out.below bl20 zl
              have X20 := Lib.hid x20; have BW20 := Lib.hid (B1.out.trans (bl20.mono (by omega)))
              obtain ⟨o0, o1, o2, f0, f1, f2, lr⟩ := x20
              clear b20 bl20 ra0 ra1 ra2
              go_wp2
              change bodyPost _ _ _ _ _ (put3 w20 w.heap.size _ _ _)
              have s0 := fun v0 v1 v2 => (put3_box X20.out v0 v1 v2).c0
              have s1 := fun v0 v1 v2 => (put3_box X20.out v0 v1 v2).c1
              have s2 := fun v0 v1 v2 => (put3_box X20.out v0 v1 v2).c2
              refine bodyPost_ret (v := .tuple #[vv ⟨rt, rn, rs⟩, .int .i64 0]) ?_ rfl ⟨rfl, BW20.out.trans (put3_below _ _ _ _ _)⟩
              simp [results, Tryz.results33, go_sem, s0, s1, s2]
            · have q1 : 17 < op := hc
              have d8 : decide (op ≤ 8) = false := decide_eq_false (by omega)
              have d14 : decide (14 ≤ op) = true := decide_eq_true (by omega)
              have d17 : decide (op ≤ 17) = false := decide_eq_false (by omega)
              obtain ⟨X, hX⟩ : ∃ X, X = tex op ⟨t, m, s⟩ ⟨t1, m1, s1⟩ v0 := ⟨_, rfl⟩
              have hRv : R = (X, 0) := by
                rw [HR.out, hX]
                unfold doV
                rw [if_pos Hall.out, if_pos Hre.out.symm, if_neg (by omega), gd0, gd1, gd2]
              have hcall := texted_c op ⟨t, m, s⟩ ⟨t1, m1, s1⟩ v0 (by omega) hIa hla hlb w8
              rw [← hX] at hcall
              obtain ⟨rt, rn, rs⟩ := X
              subst hRv
              have Hcall := Lib.hid hcall
              clear hcall hX HR Hall Hre gd0 gd1 gd2 hop hIa
              go_wp2_with fail
              rw [← W6.out, ← W7.out, ← W8.out]
              refine Hcall.out.mono ?_
              rintro e w20 ⟨rfl, b20⟩
              have bl20 := BL.out.trans (b20.mono hlast)
              have x20 := X1.out.below bl20 zl
              have X20 := Lib.hid x20; have BW20 := Lib.hid (B1.out.trans (bl20.mono (by omega)))
              obtain ⟨o0, o1, o2, f0, f1, f2, lr⟩ := x20
              clear b20 bl20 ra0 ra1 ra2
              go_wp2
              change bodyPost _ _ _ _ _ (put3 w20 w.heap.size _ _ _)
              have s0 := fun v0 v1 v2 => (put3_box X20.out v0 v1 v2).c0
              have s1 := fun v0 v1 v2 => (put3_box X20.out v0 v1 v2).c1
              have s2 := fun v0 v1 v2 => (put3_box X20.out v0 v1 v2).c2
              refine bodyPost_ret (v := .tuple #[vv ⟨rt, rn, rs⟩, .int .i64 0]) ?_ rfl ⟨rfl, BW20.out.trans (put3_below _ _ _ _ _)⟩
              simp [results, Tryz.results33, go_sem, s0, s1, s2]
        · have gd1 : l.getD 1 v0 = v0 := by rw [List.getD_eq_getElem?_getD, List.getElem?_eq_none (by have := Hl.out; omega)]; rfl
          have gd2 : l.getD 2 v0 = v0 := by rw [List.getD_eq_getElem?_getD, List.getElem?_eq_none (by have := Hl.out; omega)]; rfl
          have d1 : decide ((1 : Int) < (k : Int)) = false := by simp; omega
          have d1' : decide (1 < k) = false := decide_eq_false hk2
          have d2 : decide ((2 : Int) < (k : Int)) = false := by simp; omega
          have d2' : decide (2 < k) = false := decide_eq_false (by omega)
          have raw := fun (x y z : Obj) (k : Nat) => (show (((w5.alloc x).alloc y).alloc z).cell? ⟨b, k, none⟩ = w5.cell? ⟨b, k, none⟩ by rw [World.cell?_alloc_lt _ _ _ (by simp; omega), World.cell?_alloc_lt _ _ _ (by simp; omega), World.cell?_alloc_lt _ _ _ hbw])
          obtain ⟨w6, hw6⟩ : ∃ w6, w6 = w5.alloc (.cells #[.bool t, .int .i64 m, .string ⟨s.toArray⟩] 32) := ⟨_, rfl⟩
          obtain ⟨w7, hw7⟩ : ∃ w7, w7 = w6.alloc (.cells #[.bool false, .int .i64 0, .string ⟨#[]⟩] 32) := ⟨_, rfl⟩
          obtain ⟨w8, hw8⟩ : ∃ w8, w8 = w7.alloc (.cells #[.bool false, .int .i64 0, .string ⟨#[]⟩] 32) := ⟨_, rfl⟩
          have b58 : Below w5.heap.size w5 w8 := by rw [hw8, hw7, hw6]; exact (((Below.refl _ _).alloc (Nat.le_refl _) _).alloc (by simp) _).alloc (by simp; omega) _
          have hlast : w1.heap.size ≤ w8.heap.size := by have := b58.size; omega
          have BL := Lib.hid (B5.out.trans (b58.mono (by omega)))
          have W6 := Lib.hid hw6; have W7 := Lib.hid hw7; have W8 := Lib.hid hw8
          have hla : s.length ≤ 1000 := isV_len (v := ⟨t, m, s⟩) hVa
          clear raw z5' b58 hw6 hw7 hw8 hb hbw hc0' hV hVa
          rcases (show op ≤ 8 ∨ (8 < op ∧ op < 14) ∨ (14 ≤ op ∧ op ≤ 17) ∨ 17 < op by omega) with hc | hc | hc | hc
          · have q1 : op ≤ 8 := hc
            have d8 : decide (op ≤ 8) = true := decide_eq_true q1
            obtain ⟨X, hX⟩ : ∃ X, X = rek op ⟨t, m, s⟩ v0 v0 := ⟨_, rfl⟩
            have hRv : R = (X, 0) := by
              rw [HR.out, hX]
              unfold doV
              rw [if_pos Hall.out, if_pos Hre.out.symm, if_pos (by omega), gd0, gd1, gd2]
            have hcall := reckoned_c op ⟨t, m, s⟩ v0 v0 (by omega) hIa (by unfold v0 I; dsimp only; omega) w8
            rw [← hX] at hcall
            obtain ⟨rt, rn, rs⟩ := X
            subst hRv
            have Hcall := Lib.hid hcall
            clear hcall hX HR Hall Hre gd0 gd1 gd2 hop hIa
            go_wp2_with fail
            rw [← W6.out, ← W7.out, ← W8.out]
            refine Hcall.out.mono ?_
            rintro e w20 ⟨rfl, b20⟩
            have bl20 := BL.out.trans (b20.mono hlast)
            have x20 := X1.out.below bl20 zl
            have X20 := Lib.hid x20; have BW20 := Lib.hid (B1.out.trans (bl20.mono (by omega)))
            obtain ⟨o0, o1, o2, f0, f1, f2, lr⟩ := x20
            clear b20 bl20
            go_wp2
            change bodyPost _ _ _ _ _ (put3 w20 w.heap.size _ _ _)
            have s0 := fun v0 v1 v2 => (put3_box X20.out v0 v1 v2).c0
            have s1 := fun v0 v1 v2 => (put3_box X20.out v0 v1 v2).c1
            have s2 := fun v0 v1 v2 => (put3_box X20.out v0 v1 v2).c2
            refine bodyPost_ret (v := .tuple #[vv ⟨rt, rn, rs⟩, .int .i64 0]) ?_ rfl ⟨rfl, BW20.out.trans (put3_below _ _ _ _ _)⟩
            simp [results, Tryz.results33, go_sem, s0, s1, s2]
          · obtain ⟨q1, q2⟩ := hc
            have d8 : decide (op ≤ 8) = false := decide_eq_false (by omega)
            have d14 : decide (14 ≤ op) = false := decide_eq_false (by omega)
            obtain ⟨X, hX⟩ : ∃ X, X = tex op ⟨t, m, s⟩ v0 v0 := ⟨_, rfl⟩
            have hRv : R = (X, 0) := by
              rw [HR.out, hX]
              unfold doV
              rw [if_pos Hall.out, if_pos Hre.out.symm, if_neg (by omega), gd0, gd1, gd2]
            have hcall := texted_c op ⟨t, m, s⟩ v0 v0 (by omega) hIa hla (by unfold v0; simp) w8
            rw [← hX] at hcall
            obtain ⟨rt, rn, rs⟩ := X
            subst hRv
            have Hcall := Lib.hid hcall
            clear hcall hX HR Hall Hre gd0 gd1 gd2 hop hIa
            go_wp2_with fail
            rw [← W6.out, ← W7.out, ← W8.out]
            refine Hcall.out.mono ?_
            rintro e w20 ⟨rfl, b20⟩
            have bl20 := BL.out.trans (b20.mono hlast)
            have x20 := X1.out.below bl20 zl
            have X20 := Lib.hid x20; have BW20 := Lib.hid (B1.out.trans (bl20.mono (by omega)))
            obtain ⟨o0, o1, o2, f0, f1, f2, lr⟩ := x20
            clear b20 bl20
            go_wp2
            change bodyPost _ _ _ _ _ (put3 w20 w.heap.size _ _ _)
            have s0 := fun v0 v1 v2 => (put3_box X20.out v0 v1 v2).c0
            have s1 := fun v0 v1 v2 => (put3_box X20.out v0 v1 v2).c1
            have s2 := fun v0 v1 v2 => (put3_box X20.out v0 v1 v2).c2
            refine bodyPost_ret (v := .tuple #[vv ⟨rt, rn, rs⟩, .int .i64 0]) ?_ rfl ⟨rfl, BW20.out.trans (put3_below _ _ _ _ _)⟩
            simp [results, Tryz.results33, go_sem, s0, s1, s2]
          · obtain ⟨q1, q2⟩ := hc
            have d8 : decide (op ≤ 8) = false := decide_eq_false (by omega)
            have d14 : decide (14 ≤ op) = true := decide_eq_true (by omega)
            have d17 : decide (op ≤ 17) = true := decide_eq_true (by omega)
            obtain ⟨X, hX⟩ : ∃ X, X = rek op ⟨t, m, s⟩ v0 v0 := ⟨_, rfl⟩
            have hRv : R = (X, 0) := by
              rw [HR.out, hX]
              unfold doV
              rw [if_pos Hall.out, if_pos Hre.out.symm, if_pos (by omega), gd0, gd1, gd2]
            have hcall := reckoned_c op ⟨t, m, s⟩ v0 v0 (by omega) hIa (by unfold v0 I; dsimp only; omega) w8
            rw [← hX] at hcall
            obtain ⟨rt, rn, rs⟩ := X
            subst hRv
            have Hcall := Lib.hid hcall
            clear hcall hX HR Hall Hre gd0 gd1 gd2 hop hIa
            go_wp2_with fail
            rw [← W6.out, ← W7.out, ← W8.out]
            refine Hcall.out.mono ?_
            rintro e w20 ⟨rfl, b20⟩
            have bl20 := BL.out.trans (b20.mono hlast)
            have x20 := X1.out.below bl20 zl
            have X20 := Lib.hid x20; have BW20 := Lib.hid (B1.out.trans (bl20.mono (by omega)))
            obtain ⟨o0, o1, o2, f0, f1, f2, lr⟩ := x20
            clear b20 bl20
            go_wp2
            change bodyPost _ _ _ _ _ (put3 w20 w.heap.size _ _ _)
            have s0 := fun v0 v1 v2 => (put3_box X20.out v0 v1 v2).c0
            have s1 := fun v0 v1 v2 => (put3_box X20.out v0 v1 v2).c1
            have s2 := fun v0 v1 v2 => (put3_box X20.out v0 v1 v2).c2
            refine bodyPost_ret (v := .tuple #[vv ⟨rt, rn, rs⟩, .int .i64 0]) ?_ rfl ⟨rfl, BW20.out.trans (put3_below _ _ _ _ _)⟩
            simp [results, Tryz.results33, go_sem, s0, s1, s2]
          · have q1 : 17 < op := hc
            have d8 : decide (op ≤ 8) = false := decide_eq_false (by omega)
            have d14 : decide (14 ≤ op) = true := decide_eq_true (by omega)
            have d17 : decide (op ≤ 17) = false := decide_eq_false (by omega)
            obtain ⟨X, hX⟩ : ∃ X, X = tex op ⟨t, m, s⟩ v0 v0 := ⟨_, rfl⟩
            have hRv : R = (X, 0) := by
              rw [HR.out, hX]
              unfold doV
              rw [if_pos Hall.out, if_pos Hre.out.symm, if_neg (by omega), gd0, gd1, gd2]
            have hcall := texted_c op ⟨t, m, s⟩ v0 v0 (by omega) hIa hla (by unfold v0; simp) w8
            rw [← hX] at hcall
            obtain ⟨rt, rn, rs⟩ := X
            subst hRv
            have Hcall := Lib.hid hcall
            clear hcall hX HR Hall Hre gd0 gd1 gd2 hop hIa
            go_wp2_with fail
            rw [← W6.out, ← W7.out, ← W8.out]
            refine Hcall.out.mono ?_
            rintro e w20 ⟨rfl, b20⟩
            have bl20 := BL.out.trans (b20.mono hlast)
            have x20 := X1.out.below bl20 zl
            have X20 := Lib.hid x20; have BW20 := Lib.hid (B1.out.trans (bl20.mono (by omega)))
            obtain ⟨o0, o1, o2, f0, f1, f2, lr⟩ := x20
            clear b20 bl20
            go_wp2
            change bodyPost _ _ _ _ _ (put3 w20 w.heap.size _ _ _)
            have s0 := fun v0 v1 v2 => (put3_box X20.out v0 v1 v2).c0
            have s1 := fun v0 v1 v2 => (put3_box X20.out v0 v1 v2).c1
            have s2 := fun v0 v1 v2 => (put3_box X20.out v0 v1 v2).c2
            refine bodyPost_ret (v := .tuple #[vv ⟨rt, rn, rs⟩, .int .i64 0]) ?_ rfl ⟨rfl, BW20.out.trans (put3_below _ _ _ _ _)⟩
            simp [results, Tryz.results33, go_sem, s0, s1, s2]
      · have dre : ((re : Int) != 0) = true := by simpa using he
        have hRv : R = (v0, re) := by
          rw [HR.out]
          unfold doV
          rw [if_pos Hall.out, if_neg (by rw [← Hre.out]; exact he), ← Hre.out]
        subst hRv
        have x5 := X1.out.below B5.out (by omega)
        have X5 := Lib.hid x5
        obtain ⟨o0, o1, o2, f0, f1, f2, lr⟩ := x5
        have bw5 := B1.out.trans (B5.out.mono (by omega))
        clear he
        go_wp2
        change bodyPost _ _ _ _ _ (put3 w5 w.heap.size _ _ _)
        have s0 := fun v0 v1 v2 => (put3_box X5.out v0 v1 v2).c0
        have s1 := fun v0 v1 v2 => (put3_box X5.out v0 v1 v2).c1
        have s2 := fun v0 v1 v2 => (put3_box X5.out v0 v1 v2).c2
        refine bodyPost_ret (v := .tuple #[vv v0, .int .i64 (re : Int)]) ?_ rfl ⟨rfl, bw5.trans (put3_below _ _ _ _ _)⟩
        simp [results, Tryz.results33, go_sem, s0, s1, s2, v0]
end Go.Proofs.YtoalncojijmelaaGreatDoor
