import Derived.Test.YtkekmokdlgocaaaGreatDoorJW4
import Derived.Test.YtkekmokdlgocaaaGreatDoorJW6
import Derived.Lib.Index
set_option maxRecDepth 100000
set_option maxHeartbeats 4000000
namespace Go.Proofs.YtkekmokdlgocaaaGreatDoor.Sq
def clamp (a : Int) (n : Nat) : Nat := (min (max a 0) (n : Int)).toNat
theorem clamp_le (a : Int) (n : Nat) : clamp a n ≤ n := by unfold clamp; omega
theorem clamp_at (a n : Nat) (h : a ≤ n) : clamp (a : Int) n = a := by unfold clamp; omega
end Go.Proofs.YtkekmokdlgocaaaGreatDoor.Sq
namespace Go.Proofs.YtkekmokdlgocaaaGreatDoor.Sq.Sm
abbrev R := List (List UInt8)
def mark : List UInt8 → Nat
 | [] => 0
 | x :: r => if x = 255 ∧ r[0]? = some 83 then 0 else mark r + 1
theorem mark_le : ∀ b, mark b ≤ b.length
 | [] => Nat.le_refl _
 | x :: r => by have := mark_le r; rw [mark]; split <;> simp <;> omega
def isM (b : List UInt8) (j : Nat) : Prop := b[j]? = some 255 ∧ b[j + 1]? = some 83
theorem mark_at : ∀ b, mark b < b.length → isM b (mark b)
 | [], h => by simp at h
 | x :: r, h => by
  rw [mark] at h ⊢
  split
  ·rename_i h1
   exact ⟨by simp [h1.1], by simpa using h1.2⟩
  ·rename_i h1
   rw [if_neg h1] at h
   have := mark_at r (by simpa using h)
   exact ⟨by simpa using this.1, by simpa using this.2⟩
theorem mark_no : ∀ (b : List UInt8) (j : Nat), j < mark b → ¬ isM b j
 | [], j, h => by simp [mark] at h
 | x :: r, j, h => by
  rw [mark] at h
  split at h
  ·omega
  ·rename_i h1
   cases j with
   | zero => rintro ⟨h2, h3⟩; exact h1 ⟨by simpa using h2, by simpa using h3⟩
   | succ j => rintro ⟨h2, h3⟩; exact mark_no r j (by omega) ⟨by simpa using h2, by simpa using h3⟩
theorem mark_eq (b : List UInt8) (k : Nat) (hk : k ≤ b.length) (hno : ∀ j, j < k → ¬ isM b j) (hat : k < b.length → isM b k) : mark b = k := by
 have h1 := mark_le b
 rcases Nat.lt_trichotomy (mark b) k with h | h | h
 ·exact absurd (mark_at b (by omega)) (hno _ h)
 ·exact h
 ·exact absurd (hat (by omega)) (mark_no b k h)
theorem isM_lt {b : List UInt8} {j : Nat} (h : isM b j) : j + 1 < b.length := by
 rcases Nat.lt_or_ge (j + 1) b.length with h' | h'
 ·exact h'
 ·have := h.2; rw [List.getElem?_eq_none h'] at this; cases this
def nxt (b : List UInt8) (k : Nat) : Nat := k + mark (b.drop k)
theorem isM_drop (b : List UInt8) (k j : Nat) : isM (b.drop k) j ↔ isM b (k + j) := by simp [isM, List.getElem?_drop, Nat.add_assoc]
theorem nxt_le {b : List UInt8} {k : Nat} (h : k ≤ b.length) : k ≤ nxt b k ∧ nxt b k ≤ b.length := by
 have := mark_le (b.drop k)
 rw [List.length_drop] at this
 unfold nxt; omega
theorem nxt_at {b : List UInt8} {k : Nat} (h : nxt b k < b.length) : isM b (nxt b k) := (isM_drop b k _).1 (mark_at _ (by rw [List.length_drop]; unfold nxt at h; omega))
theorem nxt_no {b : List UInt8} {k j : Nat} (h1 : k ≤ j) (h2 : j < nxt b k) : ¬ isM b j := fun h => mark_no (b.drop k) (j - k) (by unfold nxt at h2; omega) ((isM_drop b k _).2 (by rwa [show k + (j - k) = j by omega]))
theorem nxt_eq {b : List UInt8} {k m : Nat} (h1 : k ≤ m) (h2 : m ≤ b.length) (hno : ∀ j, k ≤ j → j < m → ¬ isM b j) (hat : m < b.length → isM b m) : nxt b k = m := by
 have := mark_eq (b.drop k) (m - k) (by rw [List.length_drop]; omega) (fun j hj h => hno (k + j) (by omega) (by omega) ((isM_drop b k j).1 h))
  (fun h => (isM_drop b k _).2 (by rw [show k + (m - k) = m by omega]; exact hat (by rw [List.length_drop] at h; omega)))
 unfold nxt; omega
theorem nxt_self {b : List UInt8} {k : Nat} (h : isM b k) : nxt b k = k := nxt_eq (Nat.le_refl _) (by have := isM_lt h; omega) (fun j h1 h2 => by omega) (fun _ => h)
theorem nxt_end (b : List UInt8) : nxt b b.length = b.length := nxt_eq (Nat.le_refl _) (Nat.le_refl _) (fun j h1 h2 => by omega) (fun h => by omega)
theorem nxt_two {b : List UInt8} {f : Nat} (h : isM b f) : f + 2 ≤ nxt b (f + 1) := by
 have hl := isM_lt h
 have h1 := nxt_le (b := b) (k := f + 1) (by omega)
 rcases Nat.lt_or_ge (nxt b (f + 1)) (f + 2) with h2 | h2
 ·have e : nxt b (f + 1) = f + 1 := by omega
  have h3 := nxt_at (b := b) (k := f + 1) (by omega)
  rw [e] at h3
  have := h3.1
  rw [h.2] at this
  cases this
 ·exact h2
theorem nxt_two' {b : List UInt8} {f : Nat} (h : isM b f) : nxt b (f + 2) = nxt b (f + 1) := by
 have hl := isM_lt h
 have h1 := nxt_le (b := b) (k := f + 1) (by omega)
 exact nxt_eq (nxt_two h) h1.2 (fun j h3 h4 => nxt_no (by omega) h4) (fun h5 => nxt_at h5)
theorem index_mark : ∀ b : List UInt8, Lib.index b [255, 83] = if mark b < b.length then (mark b : Int) else -1
 | [] => rfl
 | x :: r => by
  have ih := index_mark r
  have hm := mark_le r
  rw [Lib.index]
  by_cases h : x = 255 ∧ r[0]? = some 83
  ·obtain ⟨rfl, h2⟩ := h
   have hp : ([255, 83] : List UInt8).isPrefixOf (255 :: r) = true := by
    cases r with
    | nil => simp at h2
    | cons y r => simp at h2; subst h2; simp [List.isPrefixOf]
   have e : mark (255 :: r) = 0 := by rw [mark, if_pos ⟨rfl, h2⟩]
   rw [if_pos hp, e, if_pos (by simp)]
   rfl
  ·have hp : ([255, 83] : List UInt8).isPrefixOf (x :: r) = false := by
    apply Bool.eq_false_iff.2
    intro e
    cases r with
    | nil => simp [List.isPrefixOf] at e
    | cons y r =>
     simp [List.isPrefixOf] at e
     exact h ⟨e.1.symm, by simp [e.2]⟩
   rw [hp, mark, if_neg h, ih]
   by_cases h3 : mark r < r.length
   ·have h4 : mark r + 1 < (x :: r).length := by simpa using h3
    rw [if_pos h3, if_pos h4]
    have e : ((mark r : Int) == -1) = false := by rw [beq_eq_false_iff_ne]; omega
    simp [e]
   ·have h4 : ¬ mark r + 1 < (x :: r).length := by simpa using h3
    rw [if_neg h3, if_neg h4]
    simp
def une : List UInt8 → Option (List UInt8)
 | [] => some []
 | x :: r => if x = 255 then (match r with | [] => none | y :: t => if y = 0 then (une t).map (255 :: ·) else none) else (une r).map (x :: ·)
theorem une_ff (t : List UInt8) : une (255 :: 0 :: t) = (une t).map (255 :: ·) := by rw [une]; simp
theorem une_bad {y : UInt8} (t : List UInt8) (h : y ≠ 0) : une (255 :: y :: t) = none := by rw [une]; simp [h]
theorem une_end : une [255] = none := by rw [une]; simp
theorem une_no {x : UInt8} (t : List UInt8) (h : x ≠ 255) : une (x :: t) = (une t).map (x :: ·) := by cases t <;> simp [une, h]
theorem une_len : ∀ (n : Nat) (b s : List UInt8), b.length ≤ n → une b = some s → s.length ≤ b.length
 | 0, b, s, hn, h => by
  obtain rfl : b = [] := List.eq_nil_of_length_eq_zero (by omega)
  rw [une] at h; injection h with h; subst h; exact Nat.le_refl _
 | n + 1, b, s, hn, h => by
  cases b with
  | nil => rw [une] at h; injection h with h; subst h; exact Nat.le_refl _
  | cons x r =>
   by_cases hx : x = 255
   ·subst hx
    cases r with
    | nil => rw [une_end] at h; cases h
    | cons y t =>
     by_cases hy : y = 0
     ·subst hy
      rw [une_ff] at h
      obtain ⟨u, hu, rfl⟩ := Option.map_eq_some_iff.1 h
      have := une_len n t u (by simp at hn; omega) hu
      simp; omega
     ·rw [une_bad _ hy] at h; cases h
   ·rw [une_no _ hx] at h
    obtain ⟨u, hu, rfl⟩ := Option.map_eq_some_iff.1 h
    have := une_len n r u (by simp at hn; omega) hu
    simp; omega
end Go.Proofs.YtkekmokdlgocaaaGreatDoor.Sq.Sm
