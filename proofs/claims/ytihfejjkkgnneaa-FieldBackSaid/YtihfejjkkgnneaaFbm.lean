/-
  What the law FieldBack needs of plain mathematics, and its calls' outcomes under names.
-/
import Derived.Test.YtihfejjkkgnneaaRb
import Derived.Test.YtihfejjkkgnneaaAl
import Derived.Test.YtihfejjkkgnneaaFli
import Derived.Test.YtihfejjkkgnneaaFre
namespace Go.Proofs.Ytihfejjkkgnneaa
open Go.RowKit Go.Maps

theorem esc_ge : ∀ s : List UInt8, s.length ≤ (Fm.esc s).length
  | [] => by simp [Fm.esc]
  | x :: r => by
    have ih := esc_ge r
    rw [esc_cons, List.length_append, List.length_cons]
    have : 1 ≤ (escB x).length := by unfold escB; split <;> simp
    omega
theorem lines_mem : ∀ (l : List (List UInt8 × List UInt8)) (p : List UInt8 × List UInt8), p ∈ l → p.1.length ≤ (Fm.lines l).length ∧ p.2.length ≤ (Fm.lines l).length
  | [], p, h => by cases h
  | q :: t, p, h => by
    have e1 := esc_ge q.1
    have e2 := esc_ge q.2
    rw [lines_cons]
    simp only [List.length_append, List.length_cons, List.length_nil]
    rcases List.mem_cons.1 h with rfl | h
    · exact ⟨by omega, by omega⟩
    · have := lines_mem t p h
      exact ⟨by omega, by omega⟩
theorem psS_back (T : List UInt8) (PL : List (List UInt8 × List UInt8)) (x : Nat) (h : psS (Fm.pairs T) = (PL, x)) : (x = 0 ∨ x = 3) ∧ (x = 0 → Fm.lines PL = T) := by
  cases hp : Fm.pairs T with
  | none =>
    rw [hp] at h
    injection h with h1 h2
    exact ⟨by omega, fun h => by omega⟩
  | some l =>
    rw [hp] at h
    injection h with h1 h2
    subst h1
    exact ⟨by omega, fun _ => Fm.lines_pairs hp⟩
theorem decRs_x : ∀ (k : Nat) (b : List UInt8) (x : Nat), Fm.decRs k b = .error x → 2 ≤ x
  | 0, b, x, h => by simp [Fm.decRs] at h
  | k + 1, b, x, h => by
    rw [Fm.decRs] at h
    cases hf : Fm.decR b with
    | error y => rw [hf] at h; injection h with h; have := decR_x hf; omega
    | ok p =>
      obtain ⟨s, b'⟩ := p
      rw [hf] at h
      dsimp only at h
      cases hd : Fm.decRs k b' with
      | error y => rw [hd] at h; injection h with h; have := decRs_x k b' y hd; omega
      | ok q => rw [hd] at h; cases h
theorem decS_back (T : List UInt8) (L : List (List (List UInt8))) (x : Nat) (h : decS T = (L, x)) : (x = 0 ∨ 2 ≤ x) ∧ (x = 0 → Fm.enc L = T ∧ ∀ r ∈ L, Fm.May r) ∧ (x ≠ 0 → L = []) := by
  unfold decS at h
  cases hd : Fm.dec T with
  | ok l =>
    rw [hd] at h
    injection h with h1 h2
    subst h1
    obtain ⟨e1, e2, _⟩ := Fm.enc_dec hd
    exact ⟨by omega, fun _ => ⟨e1, e2⟩, fun h => by omega⟩
  | error y =>
    rw [hd] at h
    injection h with h1 h2
    subst h1 h2
    have hy : 2 ≤ y := by
      rw [dec_cnt] at hd
      cases hc : cnt T 5000 with
      | error z => rw [hc] at hd; injection hd with hd; have := cnt_x hc; omega
      | ok p =>
        obtain ⟨a, t⟩ := p
        rw [hc] at hd
        dsimp only at hd
        cases hr : Fm.decRs a t with
        | error z => rw [hr] at hd; injection hd with hd; have := decRs_x a t z hr; omega
        | ok q =>
          obtain ⟨l, b⟩ := q
          rw [hr] at hd
          dsimp only at hd
          split at hd
          · cases hd
          · injection hd with hd; omega
    exact ⟨.inr hy, fun h => by omega, fun _ => rfl⟩
theorem decS_enc (l : List (List (List UInt8))) (h : ∀ r ∈ l, Fm.May r) (hl : l.length ≤ 5000) : decS (Fm.enc l) = (l, 0) := by
  unfold decS
  rw [Fm.dec_enc l h hl]
end Go.Proofs.Ytihfejjkkgnneaa
