/-
  Joined: SqSm.
-/
import Derived.Test.YtknmhdkomjjneaaGreatDoorJ12
import Derived.Test.YtknmhdkomjjneaaGreatDoorJ2
import Derived.Test.YtknmhdkomjjneaaGreatDoorJ1
import Derived.Lib.Index
import Derived.Deep.RegionLaw
import Derived.Deep.RegionWith
/-
  Files of blocks: where markers stand, what is escaped, what the contents of a block are, which blocks are right, what is written; what was written is read; a spoilt byte is found. Plain mathematics.
-/
namespace Go.Proofs.YtknmhdkomjjneaaGreatDoor.Sq
def clamp (a : Int) (n : Nat) : Nat := (min (max a 0) (n : Int)).toNat
theorem clamp_le (a : Int) (n : Nat) : clamp a n ≤ n := by unfold clamp; omega
theorem clamp_at (a n : Nat) (h : a ≤ n) : clamp (a : Int) n = a := by unfold clamp; omega
end Go.Proofs.YtknmhdkomjjneaaGreatDoor.Sq
namespace Go.Proofs.YtknmhdkomjjneaaGreatDoor.Sq.Sm

/-- A record. -/
abbrev R := List (List UInt8)

/-- How far the first marker is, or the end. -/
def mark : List UInt8 → Nat
  | [] => 0
  | x :: r => if x = 255 ∧ r[0]? = some 83 then 0 else mark r + 1
theorem mark_le : ∀ b, mark b ≤ b.length
  | [] => Nat.le_refl _
  | x :: r => by have := mark_le r; rw [mark]; split <;> simp <;> omega
/-- The first marker at or behind place k. -/
def nxt (b : List UInt8) (k : Nat) : Nat := k + mark (b.drop k)
theorem nxt_le {b : List UInt8} {k : Nat} (h : k ≤ b.length) : k ≤ nxt b k ∧ nxt b k ≤ b.length := by
  have := mark_le (b.drop k)
  rw [List.length_drop] at this
  unfold nxt; omega
theorem index_mark : ∀ b : List UInt8, Lib.index b [255, 83] = if mark b < b.length then (mark b : Int) else -1
  | [] => rfl
  | x :: r => by
    have ih := index_mark r
    have hm := mark_le r
    rw [Lib.index]
    by_cases h : x = 255 ∧ r[0]? = some 83
    · obtain ⟨rfl, h2⟩ := h
      have hp : ([255, 83] : List UInt8).isPrefixOf (255 :: r) = true := by
        cases r with
        | nil => simp at h2
        | cons y r => simp at h2; subst h2; simp [List.isPrefixOf]
      have e : mark (255 :: r) = 0 := by rw [mark, if_pos ⟨rfl, h2⟩]
      rw [if_pos hp, e, if_pos (by simp)]
      rfl
    · have hp : ([255, 83] : List UInt8).isPrefixOf (x :: r) = false := by
        apply Bool.eq_false_iff.2
        intro e
        cases r with
        | nil => simp [List.isPrefixOf] at e
        | cons y r =>
          simp [List.isPrefixOf] at e
          exact h ⟨e.1.symm, by simp [e.2]⟩
      rw [hp, mark, if_neg h, ih]
      by_cases h3 : mark r < r.length
      · have h4 : mark r + 1 < (x :: r).length := by simpa using h3
        rw [if_pos h3, if_pos h4]
        have e : ((mark r : Int) == -1) = false := by rw [beq_eq_false_iff_ne]; omega
        simp [e]
      · have h4 : ¬ mark r + 1 < (x :: r).length := by simpa using h3
        rw [if_neg h3, if_neg h4]
        simp

/-- Escaped. -/
def esc : List UInt8 → List UInt8
  | [] => []
  | x :: r => if x = 255 then 255 :: 0 :: esc r else x :: esc r
/-- Unescaped, if it can be. -/
def une : List UInt8 → Option (List UInt8)
  | [] => some []
  | x :: r => if x = 255 then (match r with | [] => none | y :: t => if y = 0 then (une t).map (255 :: ·) else none) else (une r).map (x :: ·)
theorem une_ff (t : List UInt8) : une (255 :: 0 :: t) = (une t).map (255 :: ·) := by rw [une]; simp
theorem une_bad {y : UInt8} (t : List UInt8) (h : y ≠ 0) : une (255 :: y :: t) = none := by rw [une]; simp [h]
theorem une_end : une [255] = none := by rw [une]; simp
theorem une_no {x : UInt8} (t : List UInt8) (h : x ≠ 255) : une (x :: t) = (une t).map (x :: ·) := by cases t <;> simp [une, h]
theorem une_len : ∀ (n : Nat) (b s : List UInt8), b.length ≤ n → une b = some s → s.length ≤ b.length
  | 0, b, s, hn, h => by
    obtain rfl : b = [] := List.eq_nil_of_length_eq_zero (by omega)
    rw [une] at h; injection h with h; subst h; exact Nat.le_refl _
  | n + 1, b, s, hn, h => by
    cases b with
    | nil => rw [une] at h; injection h with h; subst h; exact Nat.le_refl _
    | cons x r =>
      by_cases hx : x = 255
      · subst hx
        cases r with
        | nil => rw [une_end] at h; cases h
        | cons y t =>
          by_cases hy : y = 0
          · subst hy
            rw [une_ff] at h
            obtain ⟨u, hu, rfl⟩ := Option.map_eq_some_iff.1 h
            have := une_len n t u (by simp at hn; omega) hu
            simp; omega
          · rw [une_bad _ hy] at h; cases h
      · rw [une_no _ hx] at h
        obtain ⟨u, hu, rfl⟩ := Option.map_eq_some_iff.1 h
        have := une_len n r u (by simp at hn; omega) hu
        simp; omega
end Go.Proofs.YtknmhdkomjjneaaGreatDoor.Sq.Sm
