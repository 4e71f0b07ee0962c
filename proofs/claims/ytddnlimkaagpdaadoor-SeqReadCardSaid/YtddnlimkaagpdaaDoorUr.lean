/-
  Splits and the right part: plain mathematics.
-/
import Derived.Test.YtddnlimkaagpdaaDoorSo
import Derived.Test.YtddnlimkaagpdaaDoorTm
namespace Go.Proofs.YtddnlimkaagpdaaDoor.Sm

theorem filter_split (a c t : Nat) (h1 : a ≤ c) (h2 : c ≤ t) : ∀ l : List (Nat × List R), l.Pairwise (fun p q => p.1 ≤ q.1) →
    l.filter (fun p => decide (a ≤ p.1) && decide (p.1 < t)) = l.filter (fun p => decide (a ≤ p.1) && decide (p.1 < c)) ++ l.filter (fun p => decide (c ≤ p.1) && decide (p.1 < t))
  | [], _ => rfl
  | p :: l, h => by
    rw [List.pairwise_cons] at h
    have ih := filter_split a c t h1 h2 l h.2
    by_cases hc : p.1 < c
    · rw [List.filter_cons, List.filter_cons, List.filter_cons, ih]
      have e3 : (decide (c ≤ p.1) && decide (p.1 < t)) = false := by simp; omega
      have e1 : decide (p.1 < t) = true := by simp; omega
      have e2 : decide (p.1 < c) = true := by simpa using hc
      rw [e3, e1, e2]
      cases decide (a ≤ p.1) <;> simp
    · have e4 : l.filter (fun p => decide (a ≤ p.1) && decide (p.1 < c)) = [] := by
        rw [List.filter_eq_nil_iff]
        intro q hq
        have := h.1 q hq
        simp; omega
      have e5 : l.filter (fun p => decide (a ≤ p.1) && decide (p.1 < t)) = l.filter (fun p => decide (c ≤ p.1) && decide (p.1 < t)) := by rw [ih, e4, List.nil_append]
      rw [List.filter_cons, List.filter_cons, List.filter_cons, e4, e5]
      have e1 : decide (p.1 < c) = false := by simpa using hc
      have e2 : decide (a ≤ p.1) = true := by simp; omega
      have e3 : decide (c ≤ p.1) = true := by simp; omega
      rw [e1, e2, e3]
      simp
theorem ch_len {b : List UInt8} : ∀ {L : List (Nat × Nat)} {f g : Nat}, Ch b f g L → L.length ≤ g - f
  | [], f, g, h => by simp
  | p :: L, f, g, h => by
    obtain ⟨rfl, h2, h3, h4, h5⟩ := h
    have hle := (ch_le h5).1
    have hg := nxt_gt b p.1
    have ih := ch_len h5
    rw [List.length_cons]
    omega
/-- The pieces of the right part: their places, how many they are, how many records each has. -/
theorem ps_facts (b : List UInt8) : (ps b).1.Pairwise (fun p q => p.1 ≤ q.1) ∧ (∀ p ∈ (ps b).1, p.1 < b.length) ∧ (ps b).1.length ≤ b.length ∧ ∀ p ∈ (ps b).1, p.2.length ≤ 100 ∧ ∀ r ∈ p.2, r.length = 2 := by
  by_cases h : b.take 4 = hd
  · obtain ⟨L, hch, hp, hg1, hg2⟩ := ps_ch h
    rw [hp]
    obtain ⟨i1, i2⟩ := ch_places hch
    refine ⟨?_, ?_, ?_, ?_⟩
    · unfold pcs
      rw [List.pairwise_map]
      exact i2
    · intro p hp
      obtain ⟨q, hq, rfl⟩ := List.mem_map.1 hp
      have := i1 q hq
      show q.1 < _
      omega
    · have := ch_len hch
      simp only [pcs, List.length_map]
      omega
    · intro p hp
      obtain ⟨q, hq, rfl⟩ := List.mem_map.1 hp
      obtain ⟨rs, hrs⟩ := Option.isSome_iff_exists.1 (ch_some hch q hq)
      obtain ⟨e, s, c, _, _, _, h4⟩ := blk_inv hrs
      have := cont_len h4
      dsimp only
      rw [hrs]
      exact ⟨this.2.1, fun r hr => (this.2.2 r hr).1⟩
  · rw [ps_not h]
    exact ⟨List.Pairwise.nil, by simp, Nat.zero_le _, by simp⟩
theorem all_small : ∀ (l : List (Nat × List R)), (∀ p ∈ l, p.2.length ≤ 100) → (Tm.all l).length ≤ 100 * l.length
  | [], _ => by simp [Tm.all]
  | p :: l, h => by
    have ih := all_small l fun q hq => h q (List.mem_cons_of_mem _ hq)
    have h1 := h p (List.mem_cons_self ..)
    have e : Tm.all (p :: l) = p.2 ++ Tm.all l := rfl
    rw [e, List.length_append, List.length_cons]
    omega
theorem ps_all (b : List UInt8) : (Tm.all (ps b).1).length ≤ 100 * b.length ∧ ∀ r ∈ Tm.all (ps b).1, r.length ≤ 1000000 := by
  obtain ⟨_, _, h3, h4⟩ := ps_facts b
  have h := all_small _ fun p hp => (h4 p hp).1
  refine ⟨by omega, fun r hr => ?_⟩
  obtain ⟨p, hp, hr⟩ := List.mem_flatMap.1 hr
  have := (h4 p hp).2 r hr
  omega
/-- The records of the pieces between two places. -/
def rd (b : List UInt8) (a t : Nat) : List R := Tm.all (Tm.btw a t (ps b).1)
theorem rd_split (b : List UInt8) (a c t : Nat) (h1 : a ≤ c) (h2 : c ≤ t) : rd b a t = rd b a c ++ rd b c t := by
  unfold rd
  rw [← Tm.all_app]
  exact congrArg Tm.all (filter_split a c t h1 h2 _ (ps_facts b).1)
theorem rd_all (b : List UInt8) : rd b 0 b.length = Tm.all (ps b).1 := by
  unfold rd Tm.btw
  congr 1
  rw [List.filter_eq_self]
  intro p hp
  have := (ps_facts b).2.1 p hp
  simpa using this
theorem rd_zero (b : List UInt8) : rd b 0 0 = [] := by
  unfold rd Tm.btw
  rw [List.filter_eq_nil_iff.2 (fun p _ => by simp)]
  rfl
theorem rd_len (b : List UInt8) (a t : Nat) : (rd b a t).length ≤ 100 * b.length := Nat.le_trans (Tm.btw_len a t _) (ps_all b).1
end Go.Proofs.YtddnlimkaagpdaaDoor.Sm
