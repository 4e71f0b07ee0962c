/-
  Where the pieces of a file stand; how long what was written is. Plain mathematics.
-/
import Derived.Test.YtddnlimkaagpdaaDoorSq
namespace Go.Proofs.YtddnlimkaagpdaaDoor.Sm

/-- The place of the i-th block, or the end. -/
def plc (L : List (Nat × Nat)) (g i : Nat) : Nat := match L[i]? with
  | some p => p.1
  | none => g
theorem ch_first {b : List UInt8} {f g : Nat} {L : List (Nat × Nat)} (h : Ch b f g L) : plc L g 0 = f := by
  cases L with
  | nil => exact (show f = g from h).symm
  | cons p L => exact h.1
theorem ch_next {b : List UInt8} : ∀ {L : List (Nat × Nat)} {f g i : Nat} {p : Nat × Nat}, Ch b f g L → L[i]? = some p → nxt b (p.1 + 1) = plc L g (i + 1)
  | [], f, g, i, p, h, hp => by simp at hp
  | q :: L, f, g, i, p, h, hp => by
    obtain ⟨h1, h2, h3, h4, h5⟩ := h
    cases i with
    | zero =>
      simp at hp
      subst hp
      rw [h1, ← h2, ← ch_first h5]
      rfl
    | succ i =>
      have := ch_next h5 (by simpa using hp)
      rw [this]
      rfl
theorem plc_some {L : List (Nat × Nat)} {g i : Nat} {p : Nat × Nat} (h : L[i]? = some p) : plc L g i = p.1 := by unfold plc; rw [h]
theorem plc_end {L : List (Nat × Nat)} {g i : Nat} (h : L.length ≤ i) : plc L g i = g := by unfold plc; rw [List.getElem?_eq_none h]
theorem ch_start {b : List UInt8} {g : Nat} {L : List (Nat × Nat)} (hh : b.take 4 = hd) (h : Ch b 4 g L) (hg : g = b.length) : nxt b 0 = plc L g 0 := by
  rw [ch_first h, head_nxt hh (Nat.zero_le _)]
  cases L with
  | nil =>
    have e : 4 = g := h
    rw [hg] at e
    have := nxt_end b
    rwa [← e] at this
  | cons p L =>
    obtain ⟨h1, h2, h3, h4, h5⟩ := h
    have := nxt_self (isM_of_take (val_isM h3).2)
    rwa [h1] at this
theorem wch_len : ∀ (k : Nat) (l : List R), l.all okR = true → (wch k l).length ≤ 12100 * ((l.length + 2) / 3)
  | 0, l, _ => by simp [wch]
  | k + 1, l, h => by
    by_cases hl : l = []
    · subst hl; rw [wch_nil]; simp
    · have hp : 0 < l.length := List.length_pos_iff.2 hl
      obtain ⟨h1, h2⟩ := (all_take_drop 3).1 h
      have ih := wch_len k _ h2
      have h3 := blkw_len3 _ h1 (by rw [List.length_take]; omega)
      rw [wch_step hl, List.length_append]
      rw [List.length_drop] at ih
      have h4 : (l.length - 3 + 2) / 3 + 1 = (l.length + 2) / 3 ∨ (l.length < 3 ∧ (l.length - 3 + 2) / 3 = 0 ∧ (l.length + 2) / 3 = 1) := by omega
      rcases h4 with h4 | ⟨_, h4, h5⟩
      · rw [← h4]; omega
      · rw [h5]; rw [h4] at ih; omega
theorem wr_len (l : List R) (h : l.all okR = true) (hn : l.length ≤ 120) : (wr l).length ≤ 490000 := by
  have := wch_len l.length l h
  unfold wr
  rw [List.length_append]
  have e : hd.length = 4 := rfl
  omega
theorem wrS_zero {l : List R} (h : (wrS l).2 = 0) : l.all okR = true := by
  by_cases e : l.all okR = true
  · exact e
  · rw [wrS_err (by simpa using e)] at h; cases h
theorem wrS_cases (l : List R) : (l.all okR = true ∧ wrS l = (wr l, 0)) ∨ (l.all okR = false ∧ wrS l = ([], 10)) := by
  cases h : l.all okR with
  | true => exact .inl ⟨rfl, wrS_ok h⟩
  | false => exact .inr ⟨rfl, wrS_err h⟩
end Go.Proofs.YtddnlimkaagpdaaDoor.Sm
