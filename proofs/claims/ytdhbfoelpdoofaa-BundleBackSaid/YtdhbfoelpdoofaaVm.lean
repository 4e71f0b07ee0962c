/-
  Plain mathematics of varints: the bytes of a number, the number of bytes, there and back. No program.
-/
namespace Go.Proofs.Ytdhbfoelpdoofaa
namespace Vm

/-- The bytes of the varint of n. -/
def vb (n : Nat) : List UInt8 := if n < 128 then [UInt8.ofNat n] else UInt8.ofNat (n % 128 + 128) :: vb (n / 128)
termination_by n
decreasing_by omega

theorem vb_lt (n : Nat) (h : n < 128) : vb n = [UInt8.ofNat n] := by rw [vb, if_pos h]
theorem vb_ge (n : Nat) (h : 128 ≤ n) : vb n = UInt8.ofNat (n % 128 + 128) :: vb (n / 128) := by rw [vb, if_neg (by omega)]

theorem vb_pos (n : Nat) : 1 ≤ (vb n).length := by
  by_cases h : n < 128
  · rw [vb_lt n h]; simp
  · rw [vb_ge n (by omega)]; simp

theorem vb_len_le : ∀ (k n : Nat), n < 128 ^ (k + 1) → (vb n).length ≤ k + 1
  | 0, n, h => by rw [vb_lt n (by simpa using h)]; simp
  | k + 1, n, h => by
    by_cases h1 : n < 128
    · rw [vb_lt n h1]; simp
    · rw [vb_ge n (by omega)]
      have := vb_len_le k (n / 128) (by rw [Nat.div_lt_iff_lt_mul (by omega)]; rw [Nat.pow_succ] at h; exact h)
      simp; omega

theorem vb_len_mono : ∀ (k n m : Nat), n ≤ k → m ≤ n → (vb m).length ≤ (vb n).length
  | k, n, m, hk, h => by
    by_cases h1 : m < 128
    · rw [vb_lt m h1]; exact vb_pos n
    · rw [vb_ge n (by omega), vb_ge m (by omega)]
      match k, hk with
      | 0, hk => omega
      | k + 1, hk =>
        have := vb_len_mono k (n / 128) (m / 128) (by omega) (by omega)
        simp; omega

/-- What the beginning of bytes is read as, from place i on with the sum so far: number, size, error. -/
def dn : Nat → Nat → List UInt8 → Nat × Nat × Nat
  | _, _, [] => (0, 0, 2)
  | i, acc, c :: r =>
    if c.toNat < 128 then
      if 0 < i ∧ c.toNat = 0 ∨ i = 9 ∧ 1 < c.toNat then (0, 0, 3) else (acc + c.toNat * 128 ^ i, i + 1, 0)
    else if i = 9 then (0, 0, 3) else dn (i + 1) (acc + (c.toNat - 128) * 128 ^ i) r

/-- The number that bytes begin with, its size, and the error. -/
def tk (l : List UInt8) : Nat × Nat × Nat := dn 0 0 l

theorem toNat_ofNat (n : Nat) (h : n < 256) : (UInt8.ofNat n).toNat = n := by simp; omega

theorem dn_back : ∀ (k i acc n : Nat) (r : List UInt8), i + k = 9 → n < 2 * 128 ^ k → (0 < i → 0 < n) → dn i acc (vb n ++ r) = (acc + n * 128 ^ i, i + (vb n).length, 0) := by
  intro k
  induction k with
  | zero =>
    intro i acc n r hk hn hi
    have h2 : n < 2 := by simpa using hn
    have hi9 : i = 9 := by omega
    have hn0 := hi (by omega)
    rw [vb_lt n (by omega)]
    simp only [List.cons_append, List.nil_append, dn]
    rw [toNat_ofNat n (by omega), if_pos (by omega), if_neg (by omega)]
    simp
  | succ k ih =>
    intro i acc n r hk hn hi
    by_cases h1 : n < 128
    · rw [vb_lt n h1]
      simp only [List.cons_append, List.nil_append, dn]
      rw [toNat_ofNat n (by omega), if_pos (by omega), if_neg (by omega)]
      simp
    · rw [vb_ge n (by omega)]
      simp only [List.cons_append, dn]
      rw [toNat_ofNat _ (by omega), if_neg (by omega), if_neg (by omega)]
      have hd : n / 128 < 2 * 128 ^ k := by
        rw [Nat.div_lt_iff_lt_mul (by omega)]
        have : 128 ^ (k + 1) = 128 ^ k * 128 := Nat.pow_succ ..
        omega
      rw [ih (i + 1) _ (n / 128) r (by omega) hd (by omega)]
      have e : (n % 128) * 128 ^ i + n / 128 * 128 ^ (i + 1) = n * 128 ^ i := by
        have hm := Nat.div_add_mod n 128
        calc (n % 128) * 128 ^ i + n / 128 * 128 ^ (i + 1) = (n % 128) * 128 ^ i + (128 * (n / 128)) * 128 ^ i := by rw [Nat.pow_succ]; congr 1; rw [Nat.mul_comm (128 ^ i) 128, ← Nat.mul_assoc, Nat.mul_comm (n / 128) 128]
          _ = (128 * (n / 128) + n % 128) * 128 ^ i := by rw [Nat.add_mul, Nat.add_comm]
          _ = n * 128 ^ i := by rw [hm]
      refine Prod.ext ?_ (Prod.ext ?_ rfl)
      · show acc + (n % 128 + 128 - 128) * 128 ^ i + n / 128 * 128 ^ (i + 1) = acc + n * 128 ^ i
        rw [Nat.add_sub_cancel, Nat.add_assoc, e]
      · show i + 1 + _ = i + (_ :: vb (n / 128)).length
        simp; omega

theorem pow_u64 : 2 * 128 ^ 9 = 18446744073709551616 := by decide +kernel

/-- THERE AND BACK. -/
theorem tk_back (n : Nat) (r : List UInt8) (h : n < 18446744073709551616) : tk (vb n ++ r) = (n, (vb n).length, 0) := by
  have := dn_back 9 0 0 n r (by omega) (by rw [pow_u64]; exact h) (by omega)
  simpa [tk] using this

/-- What is read without an error: there is a number below the bound whose bytes stand there. -/
theorem dn_only : ∀ (k i acc : Nat) (l : List UInt8), i + k = 9 → (dn i acc l).2.2 = 0 →
    ∃ n, n < 2 * 128 ^ k ∧ (0 < i → 0 < n) ∧ l = vb n ++ l.drop (vb n).length := by
  intro k
  induction k with
  | zero =>
    intro i acc l hk h
    match l with
    | [] => simp [dn] at h
    | c :: r =>
      have hi : i = 9 := by omega
      simp only [dn] at h
      by_cases h1 : c.toNat < 128
      · rw [if_pos h1] at h
        by_cases h2 : 0 < i ∧ c.toNat = 0 ∨ i = 9 ∧ 1 < c.toNat
        · rw [if_pos h2] at h; simp at h
        · refine ⟨c.toNat, by simp; omega, by omega, ?_⟩
          rw [vb_lt _ h1]; simp
      · rw [if_neg h1, if_pos hi] at h; simp at h
  | succ k ih =>
    intro i acc l hk h
    match l with
    | [] => simp [dn] at h
    | c :: r =>
      simp only [dn] at h
      by_cases h1 : c.toNat < 128
      · rw [if_pos h1] at h
        by_cases h2 : 0 < i ∧ c.toNat = 0 ∨ i = 9 ∧ 1 < c.toNat
        · rw [if_pos h2] at h; simp at h
        · have hp : 1 ≤ 128 ^ k := Nat.pow_pos (by omega)
          refine ⟨c.toNat, by rw [Nat.pow_succ]; omega, by omega, ?_⟩
          rw [vb_lt _ h1]; simp
      · rw [if_neg h1, if_neg (by omega)] at h
        obtain ⟨n, hn, hpos, hl⟩ := ih (i + 1) _ r (by omega) h
        have hn0 := hpos (by omega)
        have hc := c.toNat_lt
        refine ⟨n * 128 + (c.toNat - 128), ?_, by omega, ?_⟩
        · rw [Nat.pow_succ]; omega
        · rw [vb_ge _ (by omega)]
          have e1 : (n * 128 + (c.toNat - 128)) % 128 + 128 = c.toNat := by omega
          have e2 : (n * 128 + (c.toNat - 128)) / 128 = n := by omega
          rw [e1, e2]
          simp
          exact hl

/-- ONLY SO. -/
theorem tk_only (l : List UInt8) (h : (tk l).2.2 = 0) : (tk l).1 < 18446744073709551616 ∧ l = vb (tk l).1 ++ l.drop (tk l).2.1 ∧ (tk l).2.1 = (vb (tk l).1).length := by
  obtain ⟨n, hn, _, hl⟩ := dn_only 9 0 0 l (by omega) h
  rw [pow_u64] at hn
  have hb := tk_back n (l.drop (vb n).length) hn
  rw [← hl] at hb
  rw [hb]
  exact ⟨hn, hl, rfl⟩

theorem dn_err : ∀ (l : List UInt8) (i acc : Nat), (dn i acc l).2.2 ≠ 0 → (dn i acc l).1 = 0 ∧ (dn i acc l).2.1 = 0
  | [], i, acc, _ => by simp [dn]
  | c :: r, i, acc, h => by
    simp only [dn] at h ⊢
    by_cases h1 : c.toNat < 128
    · rw [if_pos h1] at h ⊢
      by_cases h2 : 0 < i ∧ c.toNat = 0 ∨ i = 9 ∧ 1 < c.toNat
      · rw [if_pos h2]; simp
      · rw [if_neg h2] at h; simp at h
    · rw [if_neg h1] at h ⊢
      by_cases h3 : i = 9
      · rw [if_pos h3]; simp
      · rw [if_neg h3] at h ⊢; exact dn_err r _ _ h

theorem tk_err (l : List UInt8) (h : (tk l).2.2 ≠ 0) : (tk l).1 = 0 ∧ (tk l).2.1 = 0 := dn_err l 0 0 h

theorem dn_kinds : ∀ (l : List UInt8) (i acc : Nat), (dn i acc l).2.2 = 0 ∨ (dn i acc l).2.2 = 2 ∨ (dn i acc l).2.2 = 3
  | [], i, acc => by simp [dn]
  | c :: r, i, acc => by
    simp only [dn]
    by_cases h1 : c.toNat < 128
    · rw [if_pos h1]
      by_cases h2 : 0 < i ∧ c.toNat = 0 ∨ i = 9 ∧ 1 < c.toNat
      · rw [if_pos h2]; simp
      · rw [if_neg h2]; simp
    · rw [if_neg h1]
      by_cases h3 : i = 9
      · rw [if_pos h3]; simp
      · rw [if_neg h3]; exact dn_kinds r _ _
theorem tk_kinds (l : List UInt8) : (tk l).2.2 = 0 ∨ (tk l).2.2 = 2 ∨ (tk l).2.2 = 3 := dn_kinds l 0 0

theorem tk_size (l : List UInt8) : (tk l).2.1 ≤ l.length ∧ (tk l).2.1 ≤ 10 ∧ (tk l).1 < 18446744073709551616 := by
  by_cases h : (tk l).2.2 = 0
  · obtain ⟨h1, h2, h3⟩ := tk_only l h
    have hl := congrArg List.length h2
    rw [List.length_append, List.length_drop] at hl
    have := vb_len_le 9 (tk l).1 (by have : (128 : Nat) ^ (9 + 1) = 1180591620717411303424 := by decide +kernel
                                     omega)
    omega
  · obtain ⟨h1, h2⟩ := tk_err l h
    omega

theorem dn_nil (i acc : Nat) : dn i acc [] = (0, 0, 2) := rfl
theorem dn_bad (i acc : Nat) (c : UInt8) (r : List UInt8) (h : c.toNat < 128) (h2 : 0 < i ∧ c.toNat = 0 ∨ i = 9 ∧ 1 < c.toNat) : dn i acc (c :: r) = (0, 0, 3) := by
  simp only [dn]; rw [if_pos h, if_pos h2]
theorem dn_end (i acc : Nat) (c : UInt8) (r : List UInt8) (h : c.toNat < 128) (h2 : ¬ (0 < i ∧ c.toNat = 0 ∨ i = 9 ∧ 1 < c.toNat)) : dn i acc (c :: r) = (acc + c.toNat * 128 ^ i, i + 1, 0) := by
  simp only [dn]; rw [if_pos h, if_neg h2]
theorem dn_long (acc : Nat) (c : UInt8) (r : List UInt8) (h : 128 ≤ c.toNat) : dn 9 acc (c :: r) = (0, 0, 3) := by
  simp only [dn]; rw [if_neg (by omega)]; simp
theorem dn_step (i acc : Nat) (c : UInt8) (r : List UInt8) (h : 128 ≤ c.toNat) (hi : i ≠ 9) : dn i acc (c :: r) = dn (i + 1) (acc + (c.toNat - 128) * 128 ^ i) r := by
  simp only [dn]; rw [if_neg (by omega), if_neg hi]
theorem pow_le (k : Nat) (h : k ≤ 9) : 128 ^ k ≤ 9223372036854775808 := by
  have := Nat.pow_le_pow_right (n := 128) (by omega) h
  have e : 128 ^ 9 = 9223372036854775808 := by decide +kernel
  omega
theorem pow2 (k : Nat) : 2 ^ (7 * k) = 128 ^ k := by rw [Nat.pow_mul]
theorem step_lt (k acc x : Nat) (h : acc < 128 ^ k) (hx : x < 128) : acc + x * 128 ^ k < 128 ^ (k + 1) := by
  rw [Nat.pow_succ]
  have : (x + 1) * 128 ^ k ≤ 128 * 128 ^ k := Nat.mul_le_mul_right _ (by omega)
  rw [Nat.add_mul] at this
  omega
theorem end_lt (k acc x : Nat) (h : acc < 128 ^ k) (hx : x < 128) (hk : k ≤ 9) (h9 : k = 9 → x ≤ 1) : acc + x * 128 ^ k < 18446744073709551616 := by
  by_cases h1 : k = 9
  · subst h1
    have e : 128 ^ 9 = 9223372036854775808 := by decide +kernel
    rw [e] at h ⊢
    have := h9 rfl
    have : x * 9223372036854775808 ≤ 1 * 9223372036854775808 := Nat.mul_le_mul_right _ this
    omega
  · have h2 := step_lt k acc x h hx
    have h3 := pow_le (k + 1) (by omega)
    omega

/-- The zigzag encoding, and back. -/
def fo (n : Int) : Int := if n < 0 then -2 * n - 1 else 2 * n
def uf (u : Int) : Int := if u % 2 = 1 then -(u / 2) - 1 else u / 2
theorem fo_neg (n : Int) (h : n < 0) : fo n = -2 * n - 1 := if_pos h
theorem fo_pos (n : Int) (h : 0 ≤ n) : fo n = 2 * n := if_neg (by omega)
theorem uf_odd (u : Int) (h : u % 2 = 1) : uf u = -(u / 2) - 1 := if_pos h
theorem uf_even (u : Int) (h : u % 2 = 0) : uf u = u / 2 := if_neg (by omega)
theorem fo_uf (u : Int) : 0 ≤ u → fo (uf u) = u := by
  intro h0
  unfold fo uf
  by_cases h : u % 2 = 1
  · rw [if_pos h, if_pos (by omega)]; omega
  · rw [if_neg h, if_neg (by omega)]; omega
theorem uf_fo (n : Int) : uf (fo n) = n := by
  unfold fo uf
  by_cases h : n < 0
  · rw [if_pos h, if_pos (by omega)]; omega
  · rw [if_neg h, if_neg (by omega)]; omega
theorem fo_range (n : Int) (h : -9223372036854775808 ≤ n) (h' : n ≤ 9223372036854775807) : 0 ≤ fo n ∧ fo n < 18446744073709551616 := by
  unfold fo
  by_cases h : n < 0
  · rw [if_pos h]; omega
  · rw [if_neg h]; omega
theorem uf_range (u : Int) (h0 : 0 ≤ u) (h : u < 18446744073709551616) : -9223372036854775808 ≤ uf u ∧ uf u ≤ 9223372036854775807 := by
  unfold uf
  by_cases h : u % 2 = 1
  · rw [if_pos h]; omega
  · rw [if_neg h]; omega

end Vm
end Go.Proofs.Ytdhbfoelpdoofaa
