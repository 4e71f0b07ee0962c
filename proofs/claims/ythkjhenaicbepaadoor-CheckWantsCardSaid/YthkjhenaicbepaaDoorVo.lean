/-
  Values: sums and differences, quotients, numbers written and read, cuts joined, what is found, letters there and back, order, results that are values.
-/
import Derived.Test.YthkjhenaicbepaaDoorVl
import Derived.IntWalk
namespace Go.Proofs.YthkjhenaicbepaaDoor.Vl
open Go Go.Op

def I (n : Int) : Prop := -9223372036854775808 ≤ n ∧ n ≤ 9223372036854775807
theorem w64_eq (x : Int) : w64 x = (x + 9223372036854775808) % 18446744073709551616 - 9223372036854775808 := by
  unfold w64
  rw [IntKind.wrap_i64]
theorem w64_in {x : Int} (h : I x) : w64 x = x := by rw [w64_eq]; unfold I at h; omega
theorem w64_I (x : Int) : I (w64 x) := by rw [w64_eq]; unfold I; omega
theorem sum_diff {a b : Int} (ha : I a) : w64 (w64 (a + b) - b) = a := by
  rw [w64_eq, w64_eq]; unfold I at ha; omega
theorem quot {a b : Int} (ha : I a) (hb : I b) (h0 : b ≠ 0) : w64 (w64 ((dv a b).1 * b) + (dv a b).2) = a := by
  unfold dv
  rw [if_neg h0]
  by_cases h1 : b = -1
  · subst h1
    rw [if_pos rfl]
    dsimp only
    have e : w64 (-a) * -1 = -(w64 (-a)) := by omega
    rw [e, w64_eq, w64_eq, w64_eq]
    unfold I at ha
    omega
  · rw [if_neg h1]
    dsimp only
    have e := Int.tdiv_mul_add_tmod a b
    have hin : I (a.tdiv b * b) := by
      have h2 : (a.tdiv b * b).natAbs ≤ a.natAbs := by
        rw [Int.natAbs_mul, Int.natAbs_tdiv]
        exact Nat.div_mul_le_self _ _
      unfold I at ha ⊢
      by_cases hlo : a = -9223372036854775808
      · have h3 : (a.tdiv b * b).natAbs ≤ 9223372036854775808 := by omega
        have h4 : a.tdiv b * b ≠ 9223372036854775808 := fun q => by
          have h5 : a.tmod b = -9223372036854775808 - 9223372036854775808 := by omega
          have h6 := Int.natAbs_tmod a b
          have h7 : a.natAbs % b.natAbs < b.natAbs := Nat.mod_lt _ (by omega)
          unfold I at hb
          omega
        omega
      · omega
    rw [w64_in hin, e, w64_in ha]

theorem figs_small {n : Nat} (h : n < 10) : figs n = [UInt8.ofNat (48 + n)] := by
  rw [figs, dif_pos h, Nat.mod_eq_of_lt h]
theorem figs_big {n : Nat} (h : ¬ n < 10) : figs n = figs (n / 10) ++ [UInt8.ofNat (48 + n % 10)] := by rw [figs, dif_neg h]
theorem dig_ok (d : Nat) (h : d < 10) : (UInt8.ofNat (48 + d)).toNat = 48 + d := by
  rw [UInt8.toNat_ofNat']; omega
theorem digs_app : ∀ (l r : List UInt8) (n : Nat), digs (l ++ r) n = (digs l n).bind (digs r)
  | [], _, _ => rfl
  | c :: l, r, n => by
    rw [List.cons_append, digs, digs]
    split
    · rfl
    · exact digs_app l r _
theorem digs_figs : ∀ (k n : Nat), n < 10 ^ (k + 1) → digs (figs n) 0 = some n ∧ (figs n).length ≤ k + 1 ∧ 0 < (figs n).length
  | 0, n, h => by
    have hn : n < 10 := by simpa using h
    rw [figs_small hn]
    refine ⟨?_, by simp, by simp⟩
    rw [digs, dig_ok n hn, if_neg (by omega), digs]
    congr 1
    omega
  | k + 1, n, h => by
    by_cases hn : n < 10
    · have := digs_figs 0 n (by simpa using hn)
      exact ⟨this.1, by omega, this.2.2⟩
    · have hd : n / 10 < 10 ^ (k + 1) := by
        rw [Nat.pow_succ] at h
        exact Nat.div_lt_of_lt_mul (by rw [Nat.mul_comm]; exact h)
      obtain ⟨h1, h2, h3⟩ := digs_figs k (n / 10) hd
      rw [figs_big hn]
      refine ⟨?_, by rw [List.length_append]; simp; omega, by rw [List.length_append]; simp⟩
      rw [digs_app, h1, Option.bind_some, digs, dig_ok _ (by omega), if_neg (by omega), digs]
      congr 1
      omega
theorem figs_head (n : Nat) : ∀ c ∈ figs n, c ≠ 45 := by
  have : ∀ k n : Nat, n < 10 ^ (k + 1) → ∀ c ∈ figs n, c ≠ 45 := by
    intro k
    induction k with
    | zero =>
      intro n h c hc
      have hn : n < 10 := by simpa using h
      rw [figs_small hn] at hc
      have hc := List.mem_singleton.1 hc
      subst hc
      intro e
      have := congrArg UInt8.toNat e
      rw [dig_ok n hn] at this
      have : (45 : UInt8).toNat = 45 := rfl
      omega
    | succ k ih =>
      intro n h c hc
      by_cases hn : n < 10
      · rw [figs_small hn] at hc
        have hc := List.mem_singleton.1 hc
        subst hc
        intro e
        have := congrArg UInt8.toNat e
        rw [dig_ok n hn] at this
        have : (45 : UInt8).toNat = 45 := rfl
        omega
      · have hd : n / 10 < 10 ^ (k + 1) := by
          rw [Nat.pow_succ] at h
          exact Nat.div_lt_of_lt_mul (by rw [Nat.mul_comm]; exact h)
        rw [figs_big hn] at hc
        rcases List.mem_append.1 hc with hc | hc
        · exact ih _ hd c hc
        · have hc := List.mem_singleton.1 hc
          subst hc
          intro e
          have := congrArg UInt8.toNat e
          rw [dig_ok (n % 10) (by omega)] at this
          have : (45 : UInt8).toNat = 45 := rfl
          omega
  refine this n n ?_
  have h : ∀ k : Nat, k < 10 ^ (k + 1) := fun k => by
    induction k with
    | zero => simp
    | succ k ih => rw [Nat.pow_succ]; omega
  exact h n
theorem numD_figs {n : Nat} (h : n < 1000000000000000000) : numD (figs n) = some n := by
  obtain ⟨h1, h2, h3⟩ := digs_figs 17 n (by simpa using h)
  unfold numD
  rw [if_neg (by omega), h1]
theorem number_pos {l : List UInt8} (h : ∀ c ∈ l, c ≠ 45) : number l = match numD l with | some n => (n : Int) | none => 0 := by
  unfold number
  split
  · exact absurd rfl (h 45 (List.mem_cons_self ..))
  · rfl
theorem number_figures {a : Int} (h : -1000000000000000000 < a) (h2 : a < 1000000000000000000) : number (figures a) = a := by
  unfold figures
  by_cases hn : a < 0
  · rw [if_pos hn]
    show (match numD (figs (-a).toNat) with | some n => -(n : Int) | none => 0) = a
    rw [numD_figs (by omega)]
    show -(((-a).toNat : Nat) : Int) = a
    omega
  · rw [if_neg hn, number_pos (figs_head _), numD_figs (by omega)]
    show ((a.toNat : Nat) : Int) = a
    omega
theorem figures_len {a : Int} (h : I a) : (figures a).length ≤ 20 := by
  unfold I at h
  have hp : (10 : Nat) ^ (18 + 1) = 10000000000000000000 := by decide +kernel
  unfold figures
  split
  · have := (digs_figs 18 (-a).toNat (by rw [hp]; omega)).2.1
    simp; omega
  · have := (digs_figs 18 a.toNat (by rw [hp]; omega)).2.1
    omega
end Go.Proofs.YthkjhenaicbepaaDoor.Vl
