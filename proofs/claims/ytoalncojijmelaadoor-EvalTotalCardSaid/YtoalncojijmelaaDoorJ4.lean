/-
  Joined: V1 V2 V3 V4 PA V5 V6 V7 V8 V9 VA VB VC VD.
-/
import Derived.Test.YtoalncojijmelaaDoorJ2
import Derived.Test.YtoalncojijmelaaDoorJ3
import Derived.Test.YtoalncojijmelaaDoorProg
import Derived.Lib.Hide
import Derived.Lib.MinMax
import Derived.BigQuiet
import Derived.Deep.QuietTactic
import Derived.Test.YtoalncojijmelaaDoorJ7
/-
  Values in memory; the document's clip, Num, Text, yes, Is.
-/
namespace Go.Proofs.YtoalncojijmelaaDoor
open Go.RowKit Vl

theorem ext_eq (l : List UInt8) (a b : Nat) : (ByteArray.mk l.toArray).extract a b = ByteArray.mk ((l.take b).drop a).toArray := by
  have h : ((ByteArray.mk l.toArray).extract a b).data.toList = ((l.take b).drop a) := by
    simp [ByteArray.data_extract, List.extract_eq_take_drop, List.drop_take]
  cases h2 : (ByteArray.mk l.toArray).extract a b with
  | mk x => rw [h2] at h; rw [← h]
/-- A text as a value of the model's. -/
abbrev st (s : List UInt8) : Value := .string ⟨s.toArray⟩
abbrev vv (v : V) : Value := .agg #[.bool v.t, .int .i64 v.n, st v.s]

/-- A block of three cells. -/
structure Bx (w : World) (g : Nat) (v0 v1 v2 : Value) : Prop where
  c0 : w.cell? ⟨g, 0, none⟩ = some v0
  c1 : w.cell? ⟨g, 1, none⟩ = some v1
  c2 : w.cell? ⟨g, 2, none⟩ = some v2
  f0 : w.frozen? ⟨g, 0, none⟩ = false
  f1 : w.frozen? ⟨g, 1, none⟩ = false
  f2 : w.frozen? ⟨g, 2, none⟩ = false
  lt : g < w.heap.size
theorem Bx.made (w : World) (T : TypeId) (v0 v1 v2 : Value) : Bx (w.alloc (.cells #[v0, v1, v2] T)) w.heap.size v0 v1 v2 := ⟨by simp, by simp, by simp, by simp, by simp, by simp, by simp⟩
theorem Bx.keep {w w' : World} {g : Nat} {v0 v1 v2 : Value} (h : Bx w g v0 v1 v2) (hs : w.heap.size ≤ w'.heap.size) (hg : w'.heap[g]? = w.heap[g]?) : Bx w' g v0 v1 v2 := by
  have c : ∀ k, w'.cell? ⟨g, k, none⟩ = w.cell? ⟨g, k, none⟩ := fun k => by unfold World.cell?; rw [hg]
  have f : ∀ k, w'.frozen? ⟨g, k, none⟩ = w.frozen? ⟨g, k, none⟩ := fun k => by unfold World.frozen?; rw [hg]
  exact ⟨(c 0).trans h.c0, (c 1).trans h.c1, (c 2).trans h.c2, (f 0).trans h.f0, (f 1).trans h.f1, (f 2).trans h.f2, Nat.lt_of_lt_of_le h.lt hs⟩
theorem Bx.below {w w' : World} {g B : Nat} {v0 v1 v2 : Value} (h : Bx w g v0 v1 v2) (hb : Below B w w') (hg : g < B) : Bx w' g v0 v1 v2 := h.keep hb.size (hb.block g hg)
def put3 (w : World) (g : Nat) (v0 v1 v2 : Value) : World := ((w.setCell ⟨g, 0, none⟩ v0).setCell ⟨g, 1, none⟩ v1).setCell ⟨g, 2, none⟩ v2
theorem put3_below (w : World) (g : Nat) (v0 v1 v2 : Value) : Below g w (put3 w g v0 v1 v2) :=
  (((Below.refl g w).setCell (Nat.le_refl _) _).setCell (Nat.le_refl _) _).setCell (Nat.le_refl _) _
theorem put3_box {w : World} {g : Nat} {a b c : Value} (h : Bx w g a b c) (v0 v1 v2 : Value) : Bx (put3 w g v0 v1 v2) g v0 v1 v2 := by
  unfold put3
  have z : (((w.setCell ⟨g, 0, none⟩ v0).setCell ⟨g, 1, none⟩ v1).setCell ⟨g, 2, none⟩ v2).heap.size = w.heap.size := by simp
  have f : ∀ j, (((w.setCell ⟨g, 0, none⟩ v0).setCell ⟨g, 1, none⟩ v1).setCell ⟨g, 2, none⟩ v2).frozen? ⟨g, j, none⟩ = w.frozen? ⟨g, j, none⟩ := fun j => by simp
  have c0 : (w.setCell ⟨g, 0, none⟩ v0).cell? ⟨g, 0, none⟩ = some v0 := World.cell?_setCell_same w _ _ h.c0
  have c1 : (w.setCell ⟨g, 0, none⟩ v0).cell? ⟨g, 1, none⟩ = some b := (World.cell?_setCell_other w _ _ _ (by simp)).trans h.c1
  have c2 : (w.setCell ⟨g, 0, none⟩ v0).cell? ⟨g, 2, none⟩ = some c := (World.cell?_setCell_other w _ _ _ (by simp)).trans h.c2
  have d0 := (World.cell?_setCell_other (w.setCell ⟨g, 0, none⟩ v0) ⟨g, 1, none⟩ ⟨g, 0, none⟩ v1 (by simp)).trans c0
  have d1 : ((w.setCell ⟨g, 0, none⟩ v0).setCell ⟨g, 1, none⟩ v1).cell? ⟨g, 1, none⟩ = some v1 := World.cell?_setCell_same _ _ _ c1
  have d2 := (World.cell?_setCell_other (w.setCell ⟨g, 0, none⟩ v0) ⟨g, 1, none⟩ ⟨g, 2, none⟩ v1 (by simp)).trans c2
  exact ⟨(World.cell?_setCell_other _ ⟨g, 2, none⟩ ⟨g, 0, none⟩ v2 (by simp)).trans d0, (World.cell?_setCell_other _ ⟨g, 2, none⟩ ⟨g, 1, none⟩ v2 (by simp)).trans d1, World.cell?_setCell_same _ _ _ d2, (f 0).trans h.f0, (f 1).trans h.f1, (f 2).trans h.f2, by rw [z]; exact h.lt⟩
/-- What a call that keeps the blocks below hands over. -/
def RetV (w : World) (v : Value) (e : Ending) (w' : World) : Prop := e = .returned v ∧ Below w.heap.size w w'

end Go.Proofs.YtoalncojijmelaaDoor

/-
  The document's yes, Is, Compare, div, slice.
-/
namespace Go.Proofs.YtoalncojijmelaaDoor
open Go.RowKit Vl
set_option maxRecDepth 100000 in
theorem is_c (v : V) (w : World) : Calls Tryd.prog 10 #[vv v] w (RetV w (.bool (isV v))) := by
  obtain ⟨t, n, s⟩ := v
  obtain ⟨o, ho⟩ : ∃ o, o = isV ⟨t, n, s⟩ := ⟨_, rfl⟩
  rw [← ho]
  unfold isV at ho
  dsimp only at ho ⊢
  cases t
  · obtain ⟨w0, hw0⟩ : ∃ w0, w0 = w.alloc (.cells #[.bool false, .int .i64 n, .string ⟨s.toArray⟩] 37) := ⟨_, rfl⟩
    have b0 : Below w.heap.size w w0 := by rw [hw0]; exact (Below.refl _ _).alloc (Nat.le_refl _) _
    have x0 : Bx w0 w.heap.size (.bool false) (.int .i64 n) (.string ⟨s.toArray⟩) := by rw [hw0]; exact Bx.made _ _ _ _ _
    have W0 := Lib.hid hw0; have B0 := Lib.hid b0
    obtain ⟨c0, c1, c2, -, -, -, -⟩ := x0
    have d1 : s.isEmpty = o := by rw [ho]; cases s <;> rfl
    clear ho hw0 b0
    go_enter Tryd.func10, Tryd.ntmps10
    go_wp2_with (rw [← W0.out])
    go_ret
    exact ⟨by first | rfl | simp [← d1], B0.out⟩
  · obtain ⟨X, hX⟩ : ∃ X : ByteArray, X = ⟨s.toArray⟩ := ⟨_, rfl⟩
    have hXs : X.size = s.length := by rw [hX]; rfl
    show Calls _ _ #[.agg #[.bool true, .int .i64 n, .string ⟨s.toArray⟩]] _ _
    rw [← hX]
    obtain ⟨w0, hw0⟩ : ∃ w0, w0 = w.alloc (.cells #[.bool true, .int .i64 n, .string X] 37) := ⟨_, rfl⟩
    have b0 : Below w.heap.size w w0 := by rw [hw0]; exact (Below.refl _ _).alloc (Nat.le_refl _) _
    have x0 : Bx w0 w.heap.size (.bool true) (.int .i64 n) (.string X) := by rw [hw0]; exact Bx.made _ _ _ _ _
    have W0 := Lib.hid hw0; have B0 := Lib.hid b0
    obtain ⟨c0, c1, c2, -, -, -, -⟩ := x0
    clear hw0 b0
    rw [if_pos rfl] at ho
    by_cases hn : n = 0
    · subst hn
      have d2 : decide (X.size ≤ 1000) = o := by rw [hXs, ho]; rfl
      clear ho hX hXs
      go_enter Tryd.func10, Tryd.ntmps10
      go_wp2_with (rw [← W0.out])
      go_ret
      exact ⟨by rw [← d2]; simp; omega, B0.out⟩
    · have d1 : (n == 0) = false := by simpa using hn
      have hof : o = false := by rw [ho, d1]; rfl
      subst hof
      clear ho hX hXs
      go_enter Tryd.func10, Tryd.ntmps10
      go_wp2_with (rw [← W0.out])
      go_ret
      exact ⟨rfl, B0.out⟩
end Go.Proofs.YtoalncojijmelaaDoor

/-
  The document's Compare, div, slice.
-/
namespace Go.Proofs.YtoalncojijmelaaDoor
open Go.RowKit Vl
end Go.Proofs.YtoalncojijmelaaDoor

/-
  The document's slice, Hash, number.
-/
namespace Go.Proofs.YtoalncojijmelaaDoor
open Go.RowKit Vl
theorem str_drop (s : ByteArray) (k : Nat) (h : k < s.size) : s.data.toList.drop k = s[k] :: s.data.toList.drop (k + 1) := by
  have h2 : k < s.data.toList.length := by rw [Array.length_toList]; exact h
  rw [List.drop_eq_getElem_cons h2]
  rfl
theorem hs_cons (c : UInt8) (l : List UInt8) (h : Nat) : hs (c :: l) h = hs l (hstep h c) := by unfold hs; exact List.foldl_cons ..
theorem hs_nil (h : Nat) : hs [] h = h := by unfold hs; exact List.foldl_nil ..
theorem hs_lt (M : Nat) (hM : ∀ h c, hstep h c < M) (l : List UInt8) : ∀ h : Nat, h < M → hs l h < M := by
  induction l with
  | nil => intro h hh; rw [hs_nil]; exact hh
  | cons c l ih => intro h _; rw [hs_cons]; exact ih _ (hM h c)
def HsRel (X : ByteArray) (n N : Nat) (h i : Value) : Prop := ∃ k q : Nat, k ≤ n ∧ h = .int .u32 (q : Int) ∧ i = .int .i64 (k : Int) ∧ Hid (hs (X.data.toList.drop k) q = N ∧ q < 4294967296)

end Go.Proofs.YtoalncojijmelaaDoor

/-
  The program's Num, Text, truth, kindOf, isValue, cmp.Compare, Compare, Hash.
-/
namespace Go.Proofs.YtoalncojijmelaaDoor
open Go.RowKit Vl

set_option maxRecDepth 100000 in
theorem pnum_c (n : Int) (w : World) : Calls Tryd.prog 42 #[.int .i64 n] w (RetV w (.agg #[.bool false, .int .i64 n, .string ⟨#[]⟩])) := by
  go_enter Tryd.func42, Tryd.ntmps42
  go_wp2
  refine bodyPost_ret (v := .agg #[.bool false, .int .i64 n, .string ⟨#[]⟩]) ?_ rfl ⟨rfl, (Below.refl _ _).alloc (Nat.le_refl _) _⟩
  simp [results, Tryd.results42, go_sem]
set_option maxRecDepth 100000 in
theorem ptext_c (s : List UInt8) (hs : s.length ≤ 1000000) (w : World) : Calls Tryd.prog 43 #[st s] w (RetV w (.agg #[.bool true, .int .i64 0, .string ⟨(s.take 1000).toArray⟩])) := by
  obtain ⟨X, hX⟩ : ∃ X : ByteArray, X = ⟨s.toArray⟩ := ⟨_, rfl⟩
  have hXs : X.size = s.length := by rw [hX]; rfl
  obtain ⟨q, hq⟩ : ∃ q, q = min s.length 1000 := ⟨_, rfl⟩
  have ht : s.take q = s.take 1000 := by
    rcases Nat.le_total s.length 1000 with h | h
    · rw [List.take_of_length_le (by omega), List.take_of_length_le h]
    · rw [show q = 1000 by omega]
  have e1 : X.extract 0 q = ⟨(s.take 1000).toArray⟩ := by rw [hX, ext_eq, List.drop_zero, ht]
  have e2 : min (X.size : Int) 1000 = (q : Int) := by omega
  have e3 : q ≤ X.size := by omega
  have E1 := Lib.hid e1
  show Calls _ _ #[.string ⟨s.toArray⟩] _ _
  rw [← hX]
  clear hq e1 hs hXs hX ht
  go_enter Tryd.func43, Tryd.ntmps43
  go_wp2
  refine bodyPost_ret (v := .agg #[.bool true, .int .i64 0, .string ⟨(s.take 1000).toArray⟩]) ?_ rfl ⟨rfl, (Below.refl _ _).alloc (Nat.le_refl _) _⟩
  simp [results, Tryd.results43, go_sem, E1.out]

set_option maxRecDepth 100000 in
theorem truth_c (b : Bool) (w : World) : Calls Tryd.prog 68 #[.bool b] w (RetV w (vv (yes b))) := by
  obtain ⟨w0, hw0⟩ : ∃ w0, w0 = w.alloc (.cells #[.bool false, .int .i64 0, .string ⟨#[]⟩] 37) := ⟨_, rfl⟩
  have b0 : Below w.heap.size w w0 := by rw [hw0]; exact (Below.refl _ _).alloc (Nat.le_refl _) _
  have x0 : Bx w0 w.heap.size (.bool false) (.int .i64 0) (.string ⟨#[]⟩) := by rw [hw0]; exact Bx.made _ _ _ _ _
  have W0 := Lib.hid hw0; have B0 := Lib.hid b0; have X0 := Lib.hid x0
  clear hw0 b0 x0
  cases b
  all_goals
    go_enter Tryd.func68, Tryd.ntmps68
    go_wp2_with (rw [← W0.out])
    refine (pnum_c _ _).mono ?_
    rintro e w1 ⟨rfl, b1⟩
    have x1 := X0.out.below b1 X0.out.lt
    have B1 := Lib.hid (B0.out.trans (b1.mono B0.out.size))
    have X1 := Lib.hid x1
    obtain ⟨c0, c1, c2, f0, f1, f2, hlt⟩ := x1
    clear b1
    go_wp2
    change bodyPost _ _ _ _ _ (put3 w1 w.heap.size _ _ _)
    have s0 := fun v0 v1 v2 => (put3_box X1.out v0 v1 v2).c0
    have s1 := fun v0 v1 v2 => (put3_box X1.out v0 v1 v2).c1
    have s2 := fun v0 v1 v2 => (put3_box X1.out v0 v1 v2).c2
    refine bodyPost_ret (v := vv (yes _)) ?_ rfl ⟨rfl, B1.out.trans (put3_below _ _ _ _ _)⟩
    simp [results, Tryd.results68, go_sem, s0, s1, s2, yes, num]

theorem kindOf_c (b : Bool) (w : World) : Calls Tryd.prog 81 #[.bool b] w fun e w' => e = .returned (.int .u8 (if b then 2 else 1)) ∧ w' = w := by
  cases b
  all_goals
    go_enter Tryd.func81, Tryd.ntmps81
    go_wp2
    go_ret
    exact ⟨rfl, rfl⟩

set_option maxRecDepth 100000 in
theorem isValue_c (v : V) (w : World) : Calls Tryd.prog 65 #[vv v] w (RetV w (.bool (isV v))) := by
  obtain ⟨t, n, s⟩ := v
  obtain ⟨o, ho⟩ : ∃ o, o = isV ⟨t, n, s⟩ := ⟨_, rfl⟩
  rw [← ho]
  unfold isV at ho
  dsimp only at ho ⊢
  cases t
  · obtain ⟨w0, hw0⟩ : ∃ w0, w0 = w.alloc (.cells #[.bool false, .int .i64 n, .string ⟨s.toArray⟩] 37) := ⟨_, rfl⟩
    have b0 : Below w.heap.size w w0 := by rw [hw0]; exact (Below.refl _ _).alloc (Nat.le_refl _) _
    have x0 : Bx w0 w.heap.size (.bool false) (.int .i64 n) (.string ⟨s.toArray⟩) := by rw [hw0]; exact Bx.made _ _ _ _ _
    have W0 := Lib.hid hw0; have B0 := Lib.hid b0
    obtain ⟨c0, c1, c2, -, -, -, -⟩ := x0
    have d1 : s.isEmpty = o := by rw [ho]; cases s <;> rfl
    clear ho hw0 b0
    go_enter Tryd.func65, Tryd.ntmps65
    go_wp2_with (rw [← W0.out])
    go_ret
    exact ⟨by first | rfl | simp [← d1], B0.out⟩
  · obtain ⟨X, hX⟩ : ∃ X : ByteArray, X = ⟨s.toArray⟩ := ⟨_, rfl⟩
    have hXs : X.size = s.length := by rw [hX]; rfl
    show Calls _ _ #[.agg #[.bool true, .int .i64 n, .string ⟨s.toArray⟩]] _ _
    rw [← hX]
    obtain ⟨w0, hw0⟩ : ∃ w0, w0 = w.alloc (.cells #[.bool true, .int .i64 n, .string X] 37) := ⟨_, rfl⟩
    have b0 : Below w.heap.size w w0 := by rw [hw0]; exact (Below.refl _ _).alloc (Nat.le_refl _) _
    have x0 : Bx w0 w.heap.size (.bool true) (.int .i64 n) (.string X) := by rw [hw0]; exact Bx.made _ _ _ _ _
    have W0 := Lib.hid hw0; have B0 := Lib.hid b0
    obtain ⟨c0, c1, c2, -, -, -, -⟩ := x0
    clear hw0 b0
    rw [if_pos rfl] at ho
    by_cases hn : n = 0
    · subst hn
      have d2 : decide (X.size ≤ 1000) = o := by rw [hXs, ho]; rfl
      clear ho hX hXs
      go_enter Tryd.func65, Tryd.ntmps65
      go_wp2_with (rw [← W0.out])
      go_ret
      exact ⟨by rw [← d2]; simp; omega, B0.out⟩
    · have d1 : (n == 0) = false := by simpa using hn
      have hof : o = false := by rw [ho, d1]; rfl
      subst hof
      clear ho hX hXs
      go_enter Tryd.func65, Tryd.ntmps65
      go_wp2_with (rw [← W0.out])
      go_ret
      exact ⟨rfl, B0.out⟩

def scmp (s t : List UInt8) : Int := if Go.Op.bytesLess s t = true then -1 else if Go.Op.bytesLess t s = true then 1 else 0
def icmp (a b : Int) : Int := if a < b then -1 else if b < a then 1 else 0
set_option maxRecDepth 100000 in
theorem scmp_c (s t : List UInt8) (w : World) : Calls Tryd.prog 76 #[st s, st t] w fun e w' => e = .returned (.int .i64 (scmp s t)) ∧ w' = w := by
  unfold scmp
  cases h1 : Go.Op.bytesLess s t with
  | true =>
    rw [if_pos rfl]
    go_enter Tryd.func76, Tryd.ntmps76
    go_wp2
    go_ret
    exact ⟨rfl, rfl⟩
  | false =>
    rw [if_neg (by decide)]
    by_cases h3 : s = t
    · subst h3
      rw [h1, if_neg (by decide)]
      have d3 : (s == s) = true := beq_iff_eq.2 rfl
      go_enter Tryd.func76, Tryd.ntmps76
      go_wp2
      go_ret
      exact ⟨rfl, rfl⟩
    · have h2 : Go.Op.bytesLess t s = true := by
        rcases less_tri s t with h | h | h
        · rw [h1] at h; cases h
        · exact absurd h h3
        · exact h
      rw [if_pos h2]
      have d3 : (s == t) = false := beq_eq_false_iff_ne.2 h3
      clear h3 h2
      go_enter Tryd.func76, Tryd.ntmps76
      go_wp2
      go_ret
      exact ⟨rfl, rfl⟩
set_option maxRecDepth 100000 in
theorem icmp_c (a b : Int) (w : World) : Calls Tryd.prog 77 #[.int .i64 a, .int .i64 b] w fun e w' => e = .returned (.int .i64 (icmp a b)) ∧ w' = w := by
  unfold icmp
  by_cases h1 : a < b
  · rw [if_pos h1]
    have d1 : decide (a < b) = true := decide_eq_true h1
    clear h1
    go_enter Tryd.func77, Tryd.ntmps77
    go_wp2
    go_ret
    exact ⟨rfl, rfl⟩
  · rw [if_neg h1]
    have d1 : decide (a < b) = false := decide_eq_false h1
    by_cases h2 : b < a
    · rw [if_pos h2]
      have d2 : decide (b < a) = true := decide_eq_true h2
      clear h1 h2
      go_enter Tryd.func77, Tryd.ntmps77
      go_wp2
      go_ret
      exact ⟨rfl, rfl⟩
    · rw [if_neg h2]
      have d2 : decide (b < a) = false := decide_eq_false h2
      clear h1 h2
      go_enter Tryd.func77, Tryd.ntmps77
      go_wp2
      go_ret
      exact ⟨rfl, rfl⟩
theorem cmp_tt (n : Int) (s t : List UInt8) : cmp ⟨true, n, s⟩ ⟨true, n, t⟩ = scmp s t := by
  unfold cmp scmp
  rw [if_neg (by simp)]
  dsimp only
  cases h1 : Go.Op.bytesLess s t with
  | true => rw [if_pos (.inr ⟨rfl, rfl⟩), if_pos rfl]
  | false =>
    rw [if_neg (by rintro (q | ⟨-, q⟩) <;> first | omega | cases q)]
    rcases less_tri s t with h | h | h
    · rw [h1] at h; cases h
    · subst h; rw [if_pos ⟨rfl, rfl⟩, h1]; rfl
    · have hst : s ≠ t := by rintro rfl; rw [less_irrefl] at h; cases h
      rw [if_neg (fun q => hst q.2), h, if_neg (by decide), if_pos rfl]
theorem cmp_nn (a b : Int) (s : List UInt8) : cmp ⟨false, a, s⟩ ⟨false, b, s⟩ = icmp a b := by
  unfold cmp icmp
  rw [if_neg (by simp)]
  dsimp only
  by_cases h : a < b
  · rw [if_pos (.inl h), if_pos h]
  · rw [if_neg (by rintro (q | ⟨-, q⟩); exact h q; rw [less_irrefl] at q; cases q), if_neg h]
    by_cases h2 : a = b
    · subst h2; rw [if_pos ⟨rfl, rfl⟩, if_neg h]
    · rw [if_neg (fun q => h2 q.1), if_pos (by omega)]

set_option maxRecDepth 100000 in
set_option maxHeartbeats 1000000 in
theorem pcompare_c (a b : V) (w : World) (ha : isV a = true) (hb : isV b = true) : Calls Tryd.prog 69 #[vv a, vv b] w (RetV w (.int .i64 (cmp a b))) := by
  obtain ⟨t, n, s⟩ := a
  obtain ⟨t', n', s'⟩ := b
  obtain ⟨o, ho⟩ : ∃ o, o = cmp ⟨t, n, s⟩ ⟨t', n', s'⟩ := ⟨_, rfl⟩
  rw [← ho]
  obtain ⟨w0, hw0⟩ : ∃ w0, w0 = w.alloc (.cells #[.bool t, .int .i64 n, .string ⟨s.toArray⟩] 37) := ⟨_, rfl⟩
  have z0 : w0.heap.size = w.heap.size + 1 := by rw [hw0]; simp
  have b0 : Below w.heap.size w w0 := by rw [hw0]; exact (Below.refl _ _).alloc (Nat.le_refl _) _
  have x0 : Bx w0 w.heap.size (.bool t) (.int .i64 n) (.string ⟨s.toArray⟩) := by rw [hw0]; exact Bx.made _ _ _ _ _
  obtain ⟨w1, hw1⟩ : ∃ w1, w1 = w0.alloc (.cells #[.bool t', .int .i64 n', .string ⟨s'.toArray⟩] 37) := ⟨_, rfl⟩
  have b01 : Below w0.heap.size w0 w1 := by rw [hw1]; exact (Below.refl _ _).alloc (Nat.le_refl _) _
  have y1 : Bx w1 w0.heap.size (.bool t') (.int .i64 n') (.string ⟨s'.toArray⟩) := by rw [hw1]; exact Bx.made _ _ _ _ _
  rw [z0] at y1
  have x1 := x0.below b01 x0.lt
  have b1 := b0.trans (b01.mono (by omega))
  have W0 := Lib.hid hw0; have W1 := Lib.hid hw1; have Z0 := Lib.hid z0; have B1 := Lib.hid b1
  obtain ⟨c0, c1, c2, -, -, -, -⟩ := x1
  obtain ⟨e0, e1, e2, -, -, -, -⟩ := y1
  clear hw0 hw1 z0 b0 x0 b01 b1
  cases t <;> cases t'
  · have k1 := isV_number ha rfl
    have k2 := isV_number hb rfl
    dsimp only at k1 k2
    subst k1 k2
    rw [cmp_nn] at ho
    have hc := fun W => icmp_c n n' W
    rw [← ho] at hc
    have Hc := Lib.hid hc
    clear hc ho ha hb
    go_enter Tryd.func69, Tryd.ntmps69
    go_wp2_with (first | rw [← W0.out, ← W1.out, Z0.out] | rw [← W0.out, ← W1.out])
    refine (Hc.out _).mono ?_
    rintro e w2 ⟨rfl, rfl⟩
    go_wp2
    go_ret
    exact ⟨rfl, B1.out⟩
  · obtain rfl : o = -1 := by rw [ho]; unfold cmp; rw [if_pos (by simp), if_pos rfl]
    clear ho ha hb
    go_enter Tryd.func69, Tryd.ntmps69
    go_wp2_with (first | rw [← W0.out, ← W1.out, Z0.out] | rw [← W0.out, ← W1.out])
    go_ret
    exact ⟨rfl, B1.out⟩
  · obtain rfl : o = 1 := by rw [ho]; unfold cmp; rw [if_pos (by simp), if_neg (by simp)]
    clear ho ha hb
    go_enter Tryd.func69, Tryd.ntmps69
    go_wp2_with (first | rw [← W0.out, ← W1.out, Z0.out] | rw [← W0.out, ← W1.out])
    go_ret
    exact ⟨rfl, B1.out⟩
  · have k1 := (isV_text ha rfl).1
    have k2 := (isV_text hb rfl).1
    dsimp only at k1 k2
    subst k1 k2
    rw [cmp_tt] at ho
    have hc := fun W => scmp_c s s' W
    rw [← ho] at hc
    have Hc := Lib.hid hc
    clear hc ho ha hb
    go_enter Tryd.func69, Tryd.ntmps69
    go_wp2_with (first | rw [← W0.out, ← W1.out, Z0.out] | rw [← W0.out, ← W1.out])
    refine (Hc.out _).mono ?_
    rintro e w2 ⟨rfl, rfl⟩
    go_wp2
    go_ret
    exact ⟨rfl, B1.out⟩
end Go.Proofs.YtoalncojijmelaaDoor

/-
  The document's number.
-/
namespace Go.Proofs.YtoalncojijmelaaDoor
open Go.RowKit Vl

theorem digs_cons (c : UInt8) (l : List UInt8) (n : Nat) : digs (c :: l) n = if c.toNat < 48 ∨ 57 < c.toNat then none else digs l (10 * n + (c.toNat - 48)) := rfl
def NuRel (Y : ByteArray) (m : Nat) (D : Option Nat) (n i : Value) : Prop := ∃ k q : Nat, k ≤ m ∧ n = .int .i64 (q : Int) ∧ i = .int .i64 (k : Int) ∧ Hid (digs (Y.data.toList.drop k) q = D ∧ q < 10 ^ k)
/-- What a sign and the digits' number come to. -/
def sgn (g : Int) (D : Option Nat) : Int := match D with | some n => g * (n : Int) | none => 0
theorem number_sgn (s : List UInt8) : (∃ r, s = 45 :: r ∧ number s = sgn (-1) (numD r)) ∨ ((∀ c ∈ s.head?, c ≠ 45) ∧ number s = sgn 1 (numD s)) := by
  cases s with
  | nil => exact .inr ⟨fun c h => (by cases h), rfl⟩
  | cons c r =>
    by_cases h : c = 45
    · subst h
      refine .inl ⟨r, rfl, ?_⟩
      show (match numD r with | some n => -(n : Int) | none => 0) = _
      unfold sgn
      cases numD r with
      | none => rfl
      | some n => simp
    · refine .inr ⟨fun x hx => by simp at hx; subst hx; exact h, ?_⟩
      have e : number (c :: r) = match numD (c :: r) with | some n => (n : Int) | none => 0 := by
        unfold number
        split
        · rename_i heq; injection heq with h1 h2; exact absurd h1 h
        · rfl
      rw [e]
      unfold sgn
      cases numD (c :: r) with
      | none => rfl
      | some n => simp

end Go.Proofs.YtoalncojijmelaaDoor

/-
  The document's figures, Figures.
-/
namespace Go.Proofs.YtoalncojijmelaaDoor
open Go.RowKit Vl

theorem bty : U8 Tryd.prog 106 5 9 := ⟨Tryd.underlying106, Tryd.underlying5, Tryd.underlying9, by kernel_rfl⟩

theorem pow20 : (10 : Nat) ^ (19 + 1) = 100000000000000000000 := by decide +kernel

end Go.Proofs.YtoalncojijmelaaDoor

/-
  The document's turned, find.
-/
namespace Go.Proofs.YtoalncojijmelaaDoor
open Go.RowKit Vl

def TuRel (base : Nat) (w : World) (X : ByteArray) (f : UInt8) (o i : Value) (wr : World) : Prop :=
  ∃ A c, ∃ k : Nat, k ≤ X.size ∧ o = .slice A k c ∧ i = .int .i64 (k : Int) ∧ Own wr 5 base A c (turned (X.data.toList.take k) f) ∧ Below base w wr
theorem str_take (s : ByteArray) (k : Nat) (h : k < s.size) : s.data.toList.take (k + 1) = s.data.toList.take k ++ [s[k]] := by
  have h2 : k < s.data.toList.length := by rw [Array.length_toList]; exact h
  rw [List.take_add_one, List.getElem?_eq_getElem h2]
  rfl
theorem turned_snoc (l : List UInt8) (c f : UInt8) : turned (l ++ [c]) f = turned l f ++ [trn f c] := by simp [turned]

end Go.Proofs.YtoalncojijmelaaDoor

/-
  The document's find, kinds, Arity.
-/
namespace Go.Proofs.YtoalncojijmelaaDoor
open Go.RowKit Vl

theorem fnd_zero (s t : List UInt8) (i : Nat) : fnd s t i 0 = -1 := rfl
theorem fnd_succ (s t : List UInt8) (i k : Nat) : fnd s t i (k + 1) = if i + t.length ≤ s.length then (if (s.drop i).take t.length = t then (i : Int) else fnd s t (i + 1) k) else -1 := rfl
def FnRel (s t : List UInt8) (n : Nat) (N : Int) (i : Value) : Prop := ∃ k : Nat, k ≤ n + 1 ∧ i = .int .i64 (k : Int) ∧ Hid (fnd s t k (n + 1 - k) = N)

end Go.Proofs.YtoalncojijmelaaDoor

/-
  The document's kinds, Arity.
-/
namespace Go.Proofs.YtoalncojijmelaaDoor
open Go.RowKit Vl

theorem kd_none {op : Int} (h : ¬ (4 ≤ op ∧ op ≤ 21)) : kd op = ([], []) := by
  unfold kd
  repeat rw [if_neg (by omega)]
set_option maxRecDepth 100000 in
set_option maxHeartbeats 2000000 in
theorem kinds_c (op : Int) (w : World) : Calls Tryd.prog 26 #[.int .i64 op] w fun e w' => e = .returned (.tuple #[st (kd op).1, st (kd op).2]) ∧ w = w' := by
  by_cases h : 4 ≤ op ∧ op ≤ 21
  · have hc : op = 4 ∨ op = 5 ∨ op = 6 ∨ op = 7 ∨ op = 8 ∨ op = 9 ∨ op = 10 ∨ op = 11 ∨ op = 12 ∨ op = 13 ∨ op = 14 ∨ op = 15 ∨ op = 16 ∨ op = 17 ∨ op = 18 ∨ op = 19 ∨ op = 20 ∨ op = 21 := by omega
    clear h
    rcases hc with rfl | rfl | rfl | rfl | rfl | rfl | rfl | rfl | rfl | rfl | rfl | rfl | rfl | rfl | rfl | rfl | rfl | rfl
    all_goals
      go_enter Tryd.func26, Tryd.ntmps26
      go_wp2
      go_ret2
      exact ⟨rfl, rfl⟩
  · rw [kd_none h]
    have d4 : (op == 4) = false := beq_eq_false_iff_ne.2 (by omega)
    have d5 : (op == 5) = false := beq_eq_false_iff_ne.2 (by omega)
    have d6 : (op == 6) = false := beq_eq_false_iff_ne.2 (by omega)
    have d7 : (op == 7) = false := beq_eq_false_iff_ne.2 (by omega)
    have d8 : (op == 8) = false := beq_eq_false_iff_ne.2 (by omega)
    have d9 : (op == 9) = false := beq_eq_false_iff_ne.2 (by omega)
    have d10 : (op == 10) = false := beq_eq_false_iff_ne.2 (by omega)
    have d11 : (op == 11) = false := beq_eq_false_iff_ne.2 (by omega)
    have d12 : (op == 12) = false := beq_eq_false_iff_ne.2 (by omega)
    have d13 : (op == 13) = false := beq_eq_false_iff_ne.2 (by omega)
    have d14 : (op == 14) = false := beq_eq_false_iff_ne.2 (by omega)
    have d15 : (op == 15) = false := beq_eq_false_iff_ne.2 (by omega)
    have d16 : (op == 16) = false := beq_eq_false_iff_ne.2 (by omega)
    have d17 : (op == 17) = false := beq_eq_false_iff_ne.2 (by omega)
    have d18 : (op == 18) = false := beq_eq_false_iff_ne.2 (by omega)
    have d19 : (op == 19) = false := beq_eq_false_iff_ne.2 (by omega)
    have d20 : (op == 20) = false := beq_eq_false_iff_ne.2 (by omega)
    have d21 : (op == 21) = false := beq_eq_false_iff_ne.2 (by omega)
    clear h
    go_enter Tryd.func26, Tryd.ntmps26
    go_wp2
    go_ret2
    exact ⟨rfl, rfl⟩
set_option maxRecDepth 100000 in
theorem arity_c (op : Int) (w : World) : Calls Tryd.prog 20 #[.int .i64 op] w fun e w' => e = .returned (.int .i64 (ar op : Int)) ∧ w = w' := by
  obtain ⟨K, hK⟩ : ∃ K, K = kd op := ⟨_, rfl⟩
  have hc := kinds_c op w
  rw [← hK] at hc
  have ha : ar op = K.1.length := by rw [hK]; rfl
  rw [ha]
  have Hc := Lib.hid hc
  clear hK hc ha
  go_enter Tryd.func20, Tryd.ntmps20
  go_wp2_with fail
  refine Hc.out.mono ?_
  rintro e w1 ⟨rfl, rfl⟩
  go_wp2
  go_ret
  exact ⟨rfl, rfl⟩
end Go.Proofs.YtoalncojijmelaaDoor

/-
  The document's Result.
-/
namespace Go.Proofs.YtoalncojijmelaaDoor
open Go.RowKit Vl

/-- The cells of flags. -/
def lvb (L : List Bool) : List Value := L.map .bool
theorem lvb_at {w : World} {B m c k : Nat} {A : Option Addr} {I : List Bool} (h : Rc 1 w B A m c (lvb I)) (hk : k < m) :
    ∃ b o q, A = some ⟨b, o, none⟩ ∧ b < B ∧ w.cell? ⟨b, o + k, none⟩ = some (.bool q) ∧ I[k]? = some q := by
  obtain ⟨b, o, x, rfl, hb, hc, hx⟩ := h.at_ (k := k) hk
  unfold lvb at hx
  rw [List.getElem?_map] at hx
  obtain ⟨q, hq, rfl⟩ := Option.map_eq_some_iff.1 hx
  exact ⟨b, o, q, rfl, hb, hc, hq⟩
theorem lvb_len1 {w : World} {B m c : Nat} {A : Option Addr} {I : List Bool} (h : Rc 1 w B A m c (lvb I)) : I.length = m := by
  have := h.len1
  unfold lvb at this
  rw [List.length_map] at this
  exact this
theorem rg_cons (c : UInt8) (k : List UInt8) (b : Bool) (l : List Bool) (o : Option Bool) : rg (c :: k) (b :: l) o = if c = 110 ∧ b = true ∨ c = 116 ∧ b = false then none else if c = 97 ∧ (o = some (!b)) then none else rg k l (if c = 97 then some b else o) := rfl
theorem rg_nil (l : List Bool) (o : Option Bool) : rg [] l o = some o := rfl
theorem kd_mem (op : Int) : (∀ c ∈ (kd op).1, c = 110 ∨ c = 116 ∨ c = 97) ∧ ((kd op).2 = [97] → 97 ∈ (kd op).1) ∧ (kd op).1.length ≤ 3 := by
  unfold kd
  repeat' split
  all_goals (refine ⟨fun c hc => ?_, fun h => ?_, ?_⟩ <;> simp_all <;> rcases hc with h | h <;> simp [h])
/-- Which kind was last, and where. -/
def An (L : List Bool) (k : Nat) (o : Option Bool) (av : Int) : Prop := (o = none ∧ av = -1) ∨ ∃ (j : Nat) (b : Bool), o = some b ∧ av = (j : Int) ∧ j < k ∧ L[j]? = some b
def RsRel (Y : ByteArray) (L : List Bool) (n : Nat) (G : Option (Option Bool)) (w : World) (a i : Value) (wr : World) : Prop :=
  ∃ (k : Nat) (av : Int) (o : Option Bool), k ≤ n ∧ a = .int .i64 av ∧ i = .int .i64 (k : Int) ∧ Hid (An L k o av) ∧ Hid (rg (Y.data.toList.drop k) (L.drop k) o = G) ∧ ∃ q, wr = w.drewN q
/-- An 'a' was seen, or not yet. -/
theorem rg_some {k : List UInt8} : ∀ {l : List Bool} {o o' : Option Bool}, rg k l o = some o' → (97 ∈ k ∨ o ≠ none) → o' ≠ none := by
  induction k with
  | nil => intro l o o' h h2; rw [rg_nil] at h; injection h with h; subst h; exact h2.resolve_left (by simp)
  | cons c k ih =>
    intro l o o' h h2
    cases l with
    | nil => simp [rg] at h
    | cons b l =>
      rw [rg_cons] at h
      split at h
      · cases h
      · split at h
        · cases h
        · refine ih h ?_
          by_cases hc : c = 97
          · exact .inr (by rw [if_pos hc]; simp)
          · rw [if_neg hc]
            rcases h2 with h2 | h2
            · rcases List.mem_cons.1 h2 with h2 | h2
              · exact absurd h2.symm hc
              · exact .inl h2
            · exact .inr h2

set_option maxRecDepth 100000 in
set_option maxHeartbeats 4000000 in
theorem result_c (op : Int) (A : Option Addr) (n c : Nat) (L : List Bool) (w : World) (hr : Rc 1 w w.heap.size A n c (lvb L)) (hn : n ≤ 1000000) :
    Calls Tryd.prog 21 #[.int .i64 op, .slice A n c] w fun e w' => e = .returned (.tuple #[.bool (res op L).1, .int .i64 ((res op L).2 : Int)]) ∧ ∃ q, w' = w.drewN q := by
  have hLl := lvb_len1 hr
  obtain ⟨hmem, hin, hk3⟩ := kd_mem op
  have hkc := kinds_c op w
  obtain ⟨K, hK⟩ : ∃ K, K = (kd op).1 := ⟨_, rfl⟩
  obtain ⟨T, hT⟩ : ∃ T, T = (kd op).2 := ⟨_, rfl⟩
  have hres : res op L = if K = [] then (false, 1) else if L.length ≠ K.length then (false, 11) else match rg K L none with | none => (false, 11) | some o => if T = [97] then (o.getD false, 0) else (T == [116], 0) := by rw [hK, hT]; rfl
  rw [← hK] at hmem hk3
  rw [← hK, ← hT] at hkc hin
  obtain ⟨R, hR⟩ : ∃ R, R = res op L := ⟨_, rfl⟩
  rw [← hR] at hres ⊢
  have Hkc := Lib.hid hkc
  clear hK hT hR hkc
  by_cases hK0 : K = []
  · rw [if_pos hK0] at hres
    subst hK0 hres
    go_enter Tryd.func21, Tryd.ntmps21
    go_wp2_with fail
    refine Hkc.out.mono ?_
    rintro e w1 ⟨rfl, rfl⟩
    go_wp2
    go_ret2
    exact ⟨rfl, 0, rfl⟩
  · rw [if_neg hK0] at hres
    have dK : (K == []) = false := beq_eq_false_iff_ne.2 hK0
    have dK' : K.isEmpty = false := by cases K with | nil => exact absurd rfl hK0 | cons _ _ => rfl
    by_cases hln : n = K.length
    · rw [if_neg (by rw [hLl, hln]; simp)] at hres
      obtain ⟨Y, hY⟩ : ∃ Y : ByteArray, Y = ⟨K.toArray⟩ := ⟨_, rfl⟩
      have hYl : Y.data.toList = K := by rw [hY]
      have hYs : Y.size = K.length := by rw [hY]; rfl
      have hKY : st K = .string Y := by rw [hY]
      rw [hKY] at Hkc
      have hn3 : Y.size ≤ 3 := by rw [hYs]; exact hk3
      have hnY : n = Y.size := by rw [hYs, hln]
      obtain ⟨G, hG⟩ : ∃ G, G = rg K L none := ⟨_, rfl⟩
      rw [← hG] at hres
      have HG := Lib.hid (show rg (Y.data.toList.drop 0) (L.drop 0) none = G by rw [hYl, hG, List.drop_zero, List.drop_zero])
      have Hmem := Lib.hid (show ∀ c ∈ Y.data.toList, c = 110 ∨ c = 116 ∨ c = 97 by rw [hYl]; exact hmem)
      have Hin := Lib.hid (show T = [97] → ∀ o, G = some o → o ≠ none from fun h o ho => rg_some (by rw [← hG]; exact ho) (.inl (hin h)))
      have HLl := Lib.hid hLl
      have hYe : (Y.toList.isEmpty) = false := by
        have h1 : Y.toList = K := by
          rw [hY]
          simp
        rw [h1]; exact dK'
      have hYe2 : Y.data.isEmpty = false := by rw [hY]; cases K with | nil => exact absurd rfl hK0 | cons _ _ => rfl
      have Hr := Lib.hid hr
      have Hres := Lib.hid hres
      subst hnY
      clear hY hYl hYs hKY hG hmem hin hLl hk3 hK0 dK dK' hln hr hres
      go_enter Tryd.func21, Tryd.ntmps21
      go_wp2_with fail
      refine Hkc.out.mono ?_
      rintro e w1 ⟨rfl, rfl⟩
      go_wp2
      go_loopw [8, 9] (fun a i wr => RsRel Y L Y.size G w a i wr) (fun _ i _ => Y.size - (intOf i).toNat)
      case atStart => exact ⟨0, -1, none, Nat.zero_le _, rfl, rfl, Lib.hid (.inl ⟨rfl, rfl⟩), HG, 0, rfl⟩
      case round =>
        obtain ⟨k, av, o, hk, rfl, rfl, Han, Hrg, q, rfl⟩ := hrel
        by_cases hlt : k < Y.size
        · have hrW : Rc 1 (w.drewN q) (w.drewN q).heap.size A Y.size c (lvb L) := Hr.out
          obtain ⟨b1, o1, x, rfl, hb1, hc1, hx⟩ := lvb_at hrW hlt
          have hd := str_drop Y k hlt
          have hLd : L.drop k = x :: L.drop (k + 1) := by
            have h2 : k < L.length := by rw [HLl.out]; exact hlt
            rw [List.drop_eq_getElem_cons h2]
            rw [List.getElem?_eq_getElem h2] at hx
            injection hx with hx
            rw [hx]
          have hrg := Hrg.out
          rw [hd, hLd, rg_cons] at hrg
          have hcm := Hmem.out Y[k] (by
            have h2 : k < Y.data.toList.length := by rw [Array.length_toList]; exact hlt
            exact List.getElem_mem h2)
          have Hx := Lib.hid hx
          clear hd hLd hx hrW Hrg
          rcases hcm with hcm | hcm | hcm
          · have hcn : (Y[k]).toNat = 110 := by rw [hcm]; rfl
            rw [hcm] at hrg
            cases x
            · rw [if_neg (by simp), if_neg (by simp), if_neg (by decide)] at hrg
              have Hrg2 := Lib.hid hrg
              clear hrg hcm
              go_wp2_with fail
              go_quiet (fail)
              go_wp2
              go_roundw
              case rel => exact ⟨k + 1, av, o, hlt, rfl, by go_num, Lib.hid (Han.out.imp id fun ⟨j, b, h1, h2, h3, h4⟩ => ⟨j, b, h1, h2, by omega, h4⟩), Hrg2, _, rfl⟩
              case measure => simp [intOf]; omega
            · rw [if_pos (by simp)] at hrg
              have hR : R = (false, 11) := by rw [Hres.out, ← hrg]
              subst hR
              clear hrg hcm Hres
              go_wp2
              go_ret2
              exact ⟨rfl, q, rfl⟩
          · have hcn : (Y[k]).toNat = 116 := by rw [hcm]; rfl
            rw [hcm] at hrg
            cases x
            · rw [if_pos (by simp)] at hrg
              have hR : R = (false, 11) := by rw [Hres.out, ← hrg]
              subst hR
              clear hrg hcm Hres
              go_wp2
              go_ret2
              exact ⟨rfl, q, rfl⟩
            · rw [if_neg (by simp), if_neg (by simp), if_neg (by decide)] at hrg
              have Hrg2 := Lib.hid hrg
              clear hrg hcm
              go_wp2_with fail
              go_quiet (fail)
              go_wp2
              go_roundw
              case rel => exact ⟨k + 1, av, o, hlt, rfl, by go_num, Lib.hid (Han.out.imp id fun ⟨j, b, h1, h2, h3, h4⟩ => ⟨j, b, h1, h2, by omega, h4⟩), Hrg2, _, rfl⟩
              case measure => simp [intOf]; omega
          · have hcn : (Y[k]).toNat = 97 := by rw [hcm]; rfl
            rw [hcm, if_neg (by simp)] at hrg
            rcases Han.out with ⟨ho, hav⟩ | ⟨j, b, ho, hav, hjk, hLj⟩
            · subst ho hav
              rw [if_neg (by simp), if_pos rfl] at hrg
              have Hrg2 := Lib.hid hrg
              have Han2 := Lib.hid (show An L (k + 1) (some x) (k : Int) from .inr ⟨k, x, rfl, rfl, by omega, Hx.out⟩)
              clear hrg hcm
              go_wp2_with fail
              go_quiet (fail)
              go_wp2
              go_roundw
              case rel => exact ⟨k + 1, (k : Int), some x, hlt, rfl, by go_num, Han2, Hrg2, _, rfl⟩
              case measure => simp [intOf]; omega
            · subst ho hav
              obtain ⟨b2, o2, y, hE, hb2, hc2, hy⟩ := lvb_at (show Rc 1 (w.drewN q) (w.drewN q).heap.size (some ⟨b1, o1, none⟩) Y.size c (lvb L) from Hr.out) (k := j) (by omega)
              injection hE with hE
              injection hE with hE1 hE2
              subst hE1 hE2
              obtain rfl : y = b := by rw [hLj] at hy; injection hy with hy; exact hy.symm
              have hjs : j < Y.size := by omega
              have hc1' : w.cell? ⟨b1, o1 + k, none⟩ = some (.bool x) := hc1
              have hc2' : w.cell? ⟨b1, o1 + j, none⟩ = some (.bool y) := hc2
              have hj0 : decide ((0 : Int) ≤ (j : Int)) = true := by simp
              have hj1 : decide ((j : Int) < (Y.size : Int)) = true := by simp; omega
              clear hy hLj
              by_cases hyx : y = !x
              · rw [if_pos (by rw [hyx]; simp)] at hrg
                have hR : R = (false, 11) := by rw [Hres.out, ← hrg]
                subst hR
                clear hrg hcm Hres
                cases x <;> cases y <;> first | (simp at hyx; done) | skip
                all_goals
                  clear hyx
                  go_wp2_with fail
                  go_quiet (fail)
                  go_wp2
                  go_ret2
                  exact ⟨rfl, _, rfl⟩
              · rw [if_neg (by simpa using hyx), if_pos rfl] at hrg
                have Hrg2 := Lib.hid hrg
                have Han2 := Lib.hid (show An L (k + 1) (some x) (k : Int) from .inr ⟨k, x, rfl, rfl, by omega, Hx.out⟩)
                clear hrg hcm
                cases x <;> cases y <;> first | (simp at hyx; done) | skip
                all_goals
                  clear hyx
                  go_wp2_with fail
                  go_quiet (fail)
                  go_wp2
                  go_roundw
                  case rel => exact ⟨k + 1, (k : Int), _, hlt, rfl, by go_num, Han2, Hrg2, _, rfl⟩
                  case measure => simp [intOf]; omega
        · obtain rfl : k = Y.size := by omega
          have hrg := Hrg.out
          rw [List.drop_of_length_le (l := Y.data.toList) (by rw [Array.length_toList]; exact Nat.le_refl _), rg_nil] at hrg
          have hres2 := Hres.out
          rw [← hrg] at hres2
          dsimp only at hres2
          by_cases hT : T = [97]
          · rw [if_pos hT] at hres2
            have hon := Hin.out hT o hrg.symm
            rcases Han.out with ⟨ho, hav⟩ | ⟨j, b, ho, hav, hjk, hLj⟩
            · exact absurd ho hon
            · subst ho hav hT
              obtain ⟨b2, o2, y, rfl, hb2, hc2, hy⟩ := lvb_at (show Rc 1 (w.drewN q) (w.drewN q).heap.size A Y.size c (lvb L) from Hr.out) (k := j) (by omega)
              obtain rfl : y = b := by rw [hLj] at hy; injection hy with hy; exact hy.symm
              have hR : R = (y, 0) := hres2
              subst hR
              clear hres2 hon hrg hy hLj Han Hrg Hin Hres
              go_wp2
              go_ret2
              exact ⟨rfl, q, rfl⟩
          · rw [if_neg hT] at hres2
            have dT : (T == [97]) = false := beq_eq_false_iff_ne.2 hT
            subst hres2
            clear hrg Han Hrg Hin hT
            go_wp2
            go_ret2
            exact ⟨rfl, q, rfl⟩
    · rw [if_pos (by rw [hLl]; exact hln)] at hres
      subst hres
      have d1 : ((n : Int) != (K.length : Int)) = true := by simpa using fun e => hln (by omega)
      clear hin hmem hr hLl hln
      go_enter Tryd.func21, Tryd.ntmps21
      go_wp2_with fail
      refine Hkc.out.mono ?_
      rintro e w1 ⟨rfl, rfl⟩
      go_wp2
      go_ret2
      exact ⟨rfl, 0, rfl⟩
end Go.Proofs.YtoalncojijmelaaDoor

/-
  The document's reckoned.
-/
namespace Go.Proofs.YtoalncojijmelaaDoor
open Go.RowKit Vl
end Go.Proofs.YtoalncojijmelaaDoor

/-
  The document's texted.
-/
namespace Go.Proofs.YtoalncojijmelaaDoor
open Go.RowKit Vl
end Go.Proofs.YtoalncojijmelaaDoor

/-
  The document's Do.
-/
namespace Go.Proofs.YtoalncojijmelaaDoor
open Go.RowKit Vl

/-- The cells of values. -/
def vvs (l : List V) : List Value := l.flatMap fun v => [.bool v.t, .int .i64 v.n, st v.s]
theorem vvs_len (l : List V) : (vvs l).length = l.length * 3 := by
  induction l with
  | nil => rfl
  | cons v l ih => unfold vvs at ih ⊢; rw [List.flatMap_cons, List.length_append, ih]; simp; omega
theorem vvs_get : ∀ (l : List V) (k : Nat) (v : V), l[k]? = some v → (vvs l)[k * 3]? = some (.bool v.t) ∧ (vvs l)[k * 3 + 1]? = some (.int .i64 v.n) ∧ (vvs l)[k * 3 + 2]? = some (st v.s)
  | [], k, v, h => by simp at h
  | x :: l, 0, v, h => by
    simp at h; subst h
    exact ⟨rfl, rfl, rfl⟩
  | x :: l, k + 1, v, h => by
    have ih := vvs_get l k v (by simpa using h)
    have e : vvs (x :: l) = [.bool x.t, .int .i64 x.n, st x.s] ++ vvs l := rfl
    rw [e, show (k + 1) * 3 = k * 3 + 3 by omega, show k * 3 + 3 + 1 = (k * 3 + 1) + 3 by omega, show k * 3 + 3 + 2 = (k * 3 + 2) + 3 by omega]
    rw [List.getElem?_append_right (by simp), List.getElem?_append_right (by simp), List.getElem?_append_right (by simp)]
    simpa using ih
theorem vvs_at {w : World} {B n c k : Nat} {A : Option Addr} {l : List V} (h : Rc 3 w B A n c (vvs l)) (hk : k < n) :
    ∃ b o v, A = some ⟨b, o, none⟩ ∧ b < B ∧ w.cell? ⟨b, o + k * 3, none⟩ = some (.bool v.t) ∧ w.cell? ⟨b, o + k * 3 + 1, none⟩ = some (.int .i64 v.n) ∧ w.cell? ⟨b, o + k * 3 + 2, none⟩ = some (st v.s) ∧ l[k]? = some v := by
  have hl : l.length = n := by have := h.1; rw [vvs_len] at this; omega
  obtain ⟨b, o, e, hb, hc⟩ := h.2.2.2 (by omega)
  have hkl : k < l.length := by omega
  have hg := List.getElem?_eq_getElem hkl
  obtain ⟨g1, g2, g3⟩ := vvs_get l k _ hg
  exact ⟨b, o, l[k], e, hb, hc _ _ g1, by rw [Nat.add_assoc]; exact hc _ _ g2, by rw [Nat.add_assoc]; exact hc _ _ g3, hg⟩
theorem bsty : Sl Tryd.prog 28 4 (.bool false) 1 1 := ⟨Tryd.underlying28, by kernel_rfl, rfl, by omega⟩
theorem isV_len {v : V} (h : isV v = true) : v.s.length ≤ 1000 := by
  cases ht : v.t with
  | false => rw [isV_number h ht]; simp
  | true => exact (isV_text h ht).2
def DoRel (w1 : World) (n : Nat) (l : List V) (o i : Value) (wr : World) : Prop :=
  ∃ A c, ∃ k : Nat, o = .slice A k c ∧ i = .int .i64 (k : Int) ∧ k ≤ n ∧ Oc 1 wr 4 w1.heap.size A k c (lvb ((l.take k).map (·.t))) ∧ (l.take k).all isV = true ∧ Below w1.heap.size w1 wr
def RetD (w : World) (r : V × Nat) (e : Ending) (w' : World) : Prop := e = .returned (.tuple #[vv r.1, .int .i64 (r.2 : Int)]) ∧ Below w.heap.size w w'

end Go.Proofs.YtoalncojijmelaaDoor
