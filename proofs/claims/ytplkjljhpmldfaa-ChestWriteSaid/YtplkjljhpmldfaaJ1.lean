/-
  Joined: Vm Fm Fn Vm2 Pm Cm Pn.
-/

/-
  Plain mathematics of varints: the bytes of a number, the number of bytes, there and back. No program.
-/
namespace Go.Proofs.Ytplkjljhpmldfaa
namespace Vm

/-- The bytes of the varint of n. -/
def vb (n : Nat) : List UInt8 := if n < 128 then [UInt8.ofNat n] else UInt8.ofNat (n % 128 + 128) :: vb (n / 128)
termination_by n
decreasing_by omega

theorem vb_lt (n : Nat) (h : n < 128) : vb n = [UInt8.ofNat n] := by rw [vb, if_pos h]
theorem vb_ge (n : Nat) (h : 128 ≤ n) : vb n = UInt8.ofNat (n % 128 + 128) :: vb (n / 128) := by rw [vb, if_neg (by omega)]

theorem vb_pos (n : Nat) : 1 ≤ (vb n).length := by
  by_cases h : n < 128
  · rw [vb_lt n h]; simp
  · rw [vb_ge n (by omega)]; simp

theorem vb_len_le : ∀ (k n : Nat), n < 128 ^ (k + 1) → (vb n).length ≤ k + 1
  | 0, n, h => by rw [vb_lt n (by simpa using h)]; simp
  | k + 1, n, h => by
    by_cases h1 : n < 128
    · rw [vb_lt n h1]; simp
    · rw [vb_ge n (by omega)]
      have := vb_len_le k (n / 128) (by rw [Nat.div_lt_iff_lt_mul (by omega)]; rw [Nat.pow_succ] at h; exact h)
      simp; omega

theorem vb_len_mono : ∀ (k n m : Nat), n ≤ k → m ≤ n → (vb m).length ≤ (vb n).length
  | k, n, m, hk, h => by
    by_cases h1 : m < 128
    · rw [vb_lt m h1]; exact vb_pos n
    · rw [vb_ge n (by omega), vb_ge m (by omega)]
      match k, hk with
      | 0, hk => omega
      | k + 1, hk =>
        have := vb_len_mono k (n / 128) (m / 128) (by omega) (by omega)
        simp; omega

/-- What the beginning of bytes is read as, from place i on with the sum so far: number, size, error. -/
def dn : Nat → Nat → List UInt8 → Nat × Nat × Nat
  | _, _, [] => (0, 0, 2)
  | i, acc, c :: r =>
    if c.toNat < 128 then
      if 0 < i ∧ c.toNat = 0 ∨ i = 9 ∧ 1 < c.toNat then (0, 0, 3) else (acc + c.toNat * 128 ^ i, i + 1, 0)
    else if i = 9 then (0, 0, 3) else dn (i + 1) (acc + (c.toNat - 128) * 128 ^ i) r

/-- The number that bytes begin with, its size, and the error. -/
def tk (l : List UInt8) : Nat × Nat × Nat := dn 0 0 l

theorem toNat_ofNat (n : Nat) (h : n < 256) : (UInt8.ofNat n).toNat = n := by simp; omega

theorem dn_back : ∀ (k i acc n : Nat) (r : List UInt8), i + k = 9 → n < 2 * 128 ^ k → (0 < i → 0 < n) → dn i acc (vb n ++ r) = (acc + n * 128 ^ i, i + (vb n).length, 0) := by
  intro k
  induction k with
  | zero =>
    intro i acc n r hk hn hi
    have h2 : n < 2 := by simpa using hn
    have hi9 : i = 9 := by omega
    have hn0 := hi (by omega)
    rw [vb_lt n (by omega)]
    simp only [List.cons_append, List.nil_append, dn]
    rw [toNat_ofNat n (by omega), if_pos (by omega), if_neg (by omega)]
    simp
  | succ k ih =>
    intro i acc n r hk hn hi
    by_cases h1 : n < 128
    · rw [vb_lt n h1]
      simp only [List.cons_append, List.nil_append, dn]
      rw [toNat_ofNat n (by omega), if_pos (by omega), if_neg (by omega)]
      simp
    · rw [vb_ge n (by omega)]
      simp only [List.cons_append, dn]
      rw [toNat_ofNat _ (by omega), if_neg (by omega), if_neg (by omega)]
      have hd : n / 128 < 2 * 128 ^ k := by
        rw [Nat.div_lt_iff_lt_mul (by omega)]
        have : 128 ^ (k + 1) = 128 ^ k * 128 := Nat.pow_succ ..
        omega
      rw [ih (i + 1) _ (n / 128) r (by omega) hd (by omega)]
      have e : (n % 128) * 128 ^ i + n / 128 * 128 ^ (i + 1) = n * 128 ^ i := by
        have hm := Nat.div_add_mod n 128
        calc (n % 128) * 128 ^ i + n / 128 * 128 ^ (i + 1) = (n % 128) * 128 ^ i + (128 * (n / 128)) * 128 ^ i := by rw [Nat.pow_succ]; congr 1; rw [Nat.mul_comm (128 ^ i) 128, ← Nat.mul_assoc, Nat.mul_comm (n / 128) 128]
          _ = (128 * (n / 128) + n % 128) * 128 ^ i := by rw [Nat.add_mul, Nat.add_comm]
          _ = n * 128 ^ i := by rw [hm]
      refine Prod.ext ?_ (Prod.ext ?_ rfl)
      · show acc + (n % 128 + 128 - 128) * 128 ^ i + n / 128 * 128 ^ (i + 1) = acc + n * 128 ^ i
        rw [Nat.add_sub_cancel, Nat.add_assoc, e]
      · show i + 1 + _ = i + (_ :: vb (n / 128)).length
        simp; omega

theorem pow_u64 : 2 * 128 ^ 9 = 18446744073709551616 := by decide +kernel

/-- THERE AND BACK. -/
theorem tk_back (n : Nat) (r : List UInt8) (h : n < 18446744073709551616) : tk (vb n ++ r) = (n, (vb n).length, 0) := by
  have := dn_back 9 0 0 n r (by omega) (by rw [pow_u64]; exact h) (by omega)
  simpa [tk] using this

/-- What is read without an error: there is a number below the bound whose bytes stand there. -/
theorem dn_only : ∀ (k i acc : Nat) (l : List UInt8), i + k = 9 → (dn i acc l).2.2 = 0 →
    ∃ n, n < 2 * 128 ^ k ∧ (0 < i → 0 < n) ∧ l = vb n ++ l.drop (vb n).length := by
  intro k
  induction k with
  | zero =>
    intro i acc l hk h
    match l with
    | [] => simp [dn] at h
    | c :: r =>
      have hi : i = 9 := by omega
      simp only [dn] at h
      by_cases h1 : c.toNat < 128
      · rw [if_pos h1] at h
        by_cases h2 : 0 < i ∧ c.toNat = 0 ∨ i = 9 ∧ 1 < c.toNat
        · rw [if_pos h2] at h; simp at h
        · refine ⟨c.toNat, by simp; omega, by omega, ?_⟩
          rw [vb_lt _ h1]; simp
      · rw [if_neg h1, if_pos hi] at h; simp at h
  | succ k ih =>
    intro i acc l hk h
    match l with
    | [] => simp [dn] at h
    | c :: r =>
      simp only [dn] at h
      by_cases h1 : c.toNat < 128
      · rw [if_pos h1] at h
        by_cases h2 : 0 < i ∧ c.toNat = 0 ∨ i = 9 ∧ 1 < c.toNat
        · rw [if_pos h2] at h; simp at h
        · have hp : 1 ≤ 128 ^ k := Nat.pow_pos (by omega)
          refine ⟨c.toNat, by rw [Nat.pow_succ]; omega, by omega, ?_⟩
          rw [vb_lt _ h1]; simp
      · rw [if_neg h1, if_neg (by omega)] at h
        obtain ⟨n, hn, hpos, hl⟩ := ih (i + 1) _ r (by omega) h
        have hn0 := hpos (by omega)
        have hc := c.toNat_lt
        refine ⟨n * 128 + (c.toNat - 128), ?_, by omega, ?_⟩
        · rw [Nat.pow_succ]; omega
        · rw [vb_ge _ (by omega)]
          have e1 : (n * 128 + (c.toNat - 128)) % 128 + 128 = c.toNat := by omega
          have e2 : (n * 128 + (c.toNat - 128)) / 128 = n := by omega
          rw [e1, e2]
          simp
          exact hl

/-- ONLY SO. -/
theorem tk_only (l : List UInt8) (h : (tk l).2.2 = 0) : (tk l).1 < 18446744073709551616 ∧ l = vb (tk l).1 ++ l.drop (tk l).2.1 ∧ (tk l).2.1 = (vb (tk l).1).length := by
  obtain ⟨n, hn, _, hl⟩ := dn_only 9 0 0 l (by omega) h
  rw [pow_u64] at hn
  have hb := tk_back n (l.drop (vb n).length) hn
  rw [← hl] at hb
  rw [hb]
  exact ⟨hn, hl, rfl⟩

theorem dn_err : ∀ (l : List UInt8) (i acc : Nat), (dn i acc l).2.2 ≠ 0 → (dn i acc l).1 = 0 ∧ (dn i acc l).2.1 = 0
  | [], i, acc, _ => by simp [dn]
  | c :: r, i, acc, h => by
    simp only [dn] at h ⊢
    by_cases h1 : c.toNat < 128
    · rw [if_pos h1] at h ⊢
      by_cases h2 : 0 < i ∧ c.toNat = 0 ∨ i = 9 ∧ 1 < c.toNat
      · rw [if_pos h2]; simp
      · rw [if_neg h2] at h; simp at h
    · rw [if_neg h1] at h ⊢
      by_cases h3 : i = 9
      · rw [if_pos h3]; simp
      · rw [if_neg h3] at h ⊢; exact dn_err r _ _ h

theorem tk_err (l : List UInt8) (h : (tk l).2.2 ≠ 0) : (tk l).1 = 0 ∧ (tk l).2.1 = 0 := dn_err l 0 0 h

theorem dn_kinds : ∀ (l : List UInt8) (i acc : Nat), (dn i acc l).2.2 = 0 ∨ (dn i acc l).2.2 = 2 ∨ (dn i acc l).2.2 = 3
  | [], i, acc => by simp [dn]
  | c :: r, i, acc => by
    simp only [dn]
    by_cases h1 : c.toNat < 128
    · rw [if_pos h1]
      by_cases h2 : 0 < i ∧ c.toNat = 0 ∨ i = 9 ∧ 1 < c.toNat
      · rw [if_pos h2]; simp
      · rw [if_neg h2]; simp
    · rw [if_neg h1]
      by_cases h3 : i = 9
      · rw [if_pos h3]; simp
      · rw [if_neg h3]; exact dn_kinds r _ _
theorem tk_kinds (l : List UInt8) : (tk l).2.2 = 0 ∨ (tk l).2.2 = 2 ∨ (tk l).2.2 = 3 := dn_kinds l 0 0

theorem tk_size (l : List UInt8) : (tk l).2.1 ≤ l.length ∧ (tk l).2.1 ≤ 10 ∧ (tk l).1 < 18446744073709551616 := by
  by_cases h : (tk l).2.2 = 0
  · obtain ⟨h1, h2, h3⟩ := tk_only l h
    have hl := congrArg List.length h2
    rw [List.length_append, List.length_drop] at hl
    have := vb_len_le 9 (tk l).1 (by have : (128 : Nat) ^ (9 + 1) = 1180591620717411303424 := by decide +kernel
                                     omega)
    omega
  · obtain ⟨h1, h2⟩ := tk_err l h
    omega

theorem dn_nil (i acc : Nat) : dn i acc [] = (0, 0, 2) := rfl
theorem dn_bad (i acc : Nat) (c : UInt8) (r : List UInt8) (h : c.toNat < 128) (h2 : 0 < i ∧ c.toNat = 0 ∨ i = 9 ∧ 1 < c.toNat) : dn i acc (c :: r) = (0, 0, 3) := by
  simp only [dn]; rw [if_pos h, if_pos h2]
theorem dn_end (i acc : Nat) (c : UInt8) (r : List UInt8) (h : c.toNat < 128) (h2 : ¬ (0 < i ∧ c.toNat = 0 ∨ i = 9 ∧ 1 < c.toNat)) : dn i acc (c :: r) = (acc + c.toNat * 128 ^ i, i + 1, 0) := by
  simp only [dn]; rw [if_pos h, if_neg h2]
theorem dn_long (acc : Nat) (c : UInt8) (r : List UInt8) (h : 128 ≤ c.toNat) : dn 9 acc (c :: r) = (0, 0, 3) := by
  simp only [dn]; rw [if_neg (by omega)]; simp
theorem dn_step (i acc : Nat) (c : UInt8) (r : List UInt8) (h : 128 ≤ c.toNat) (hi : i ≠ 9) : dn i acc (c :: r) = dn (i + 1) (acc + (c.toNat - 128) * 128 ^ i) r := by
  simp only [dn]; rw [if_neg (by omega), if_neg hi]
theorem pow_le (k : Nat) (h : k ≤ 9) : 128 ^ k ≤ 9223372036854775808 := by
  have := Nat.pow_le_pow_right (n := 128) (by omega) h
  have e : 128 ^ 9 = 9223372036854775808 := by decide +kernel
  omega
theorem pow2 (k : Nat) : 2 ^ (7 * k) = 128 ^ k := by rw [Nat.pow_mul]
theorem step_lt (k acc x : Nat) (h : acc < 128 ^ k) (hx : x < 128) : acc + x * 128 ^ k < 128 ^ (k + 1) := by
  rw [Nat.pow_succ]
  have : (x + 1) * 128 ^ k ≤ 128 * 128 ^ k := Nat.mul_le_mul_right _ (by omega)
  rw [Nat.add_mul] at this
  omega
theorem end_lt (k acc x : Nat) (h : acc < 128 ^ k) (hx : x < 128) (hk : k ≤ 9) (h9 : k = 9 → x ≤ 1) : acc + x * 128 ^ k < 18446744073709551616 := by
  by_cases h1 : k = 9
  · subst h1
    have e : 128 ^ 9 = 9223372036854775808 := by decide +kernel
    rw [e] at h ⊢
    have := h9 rfl
    have : x * 9223372036854775808 ≤ 1 * 9223372036854775808 := Nat.mul_le_mul_right _ this
    omega
  · have h2 := step_lt k acc x h hx
    have h3 := pow_le (k + 1) (by omega)
    omega

/-- The zigzag encoding, and back. -/
def fo (n : Int) : Int := if n < 0 then -2 * n - 1 else 2 * n
def uf (u : Int) : Int := if u % 2 = 1 then -(u / 2) - 1 else u / 2
theorem fo_neg (n : Int) (h : n < 0) : fo n = -2 * n - 1 := if_pos h
theorem fo_pos (n : Int) (h : 0 ≤ n) : fo n = 2 * n := if_neg (by omega)
theorem uf_odd (u : Int) (h : u % 2 = 1) : uf u = -(u / 2) - 1 := if_pos h
theorem uf_even (u : Int) (h : u % 2 = 0) : uf u = u / 2 := if_neg (by omega)
theorem fo_uf (u : Int) : 0 ≤ u → fo (uf u) = u := by
  intro h0
  unfold fo uf
  by_cases h : u % 2 = 1
  · rw [if_pos h, if_pos (by omega)]; omega
  · rw [if_neg h, if_neg (by omega)]; omega
theorem uf_fo (n : Int) : uf (fo n) = n := by
  unfold fo uf
  by_cases h : n < 0
  · rw [if_pos h, if_pos (by omega)]; omega
  · rw [if_neg h, if_neg (by omega)]; omega
theorem fo_range (n : Int) (h : -9223372036854775808 ≤ n) (h' : n ≤ 9223372036854775807) : 0 ≤ fo n ∧ fo n < 18446744073709551616 := by
  unfold fo
  by_cases h : n < 0
  · rw [if_pos h]; omega
  · rw [if_neg h]; omega
theorem uf_range (u : Int) (h0 : 0 ≤ u) (h : u < 18446744073709551616) : -9223372036854775808 ≤ uf u ∧ uf u ≤ 9223372036854775807 := by
  unfold uf
  by_cases h : u % 2 = 1
  · rw [if_pos h]; omega
  · rw [if_neg h]; omega

end Vm
end Go.Proofs.Ytplkjljhpmldfaa

/-
  Plain mathematics of layer 4 (field), by the document's words: texts escaped and back, lines of pairs and back, words, records as bytes and back.
-/
namespace Go.Proofs.Ytplkjljhpmldfaa.Fm
open Vm

/-- Escaped. -/
def esc : List UInt8 → List UInt8
  | [] => []
  | c :: r => if c = 9 then 92 :: 116 :: esc r else if c = 10 then 92 :: 110 :: esc r else if c = 92 then 92 :: 92 :: esc r else c :: esc r
/-- And back. -/
def unesc : List UInt8 → Option (List UInt8)
  | [] => some []
  | c :: r =>
    if c = 9 ∨ c = 10 then none
    else if c = 92 then
      match r with
      | [] => none
      | d :: r' => if d = 116 then (unesc r').map (9 :: ·) else if d = 110 then (unesc r').map (10 :: ·) else if d = 92 then (unesc r').map (92 :: ·) else none
    else (unesc r).map (c :: ·)
theorem unesc_plain (c : UInt8) (r : List UInt8) (h1 : c ≠ 9) (h2 : c ≠ 10) (h3 : c ≠ 92) : unesc (c :: r) = (unesc r).map (c :: ·) := by
  rw [unesc.eq_def]
  dsimp only
  rw [if_neg (by simp [h1, h2]), if_neg h3]
theorem unesc_bad (c : UInt8) (r : List UInt8) (h : c = 9 ∨ c = 10) : unesc (c :: r) = none := by
  rw [unesc.eq_def]
  dsimp only
  rw [if_pos h]
theorem unesc_last : unesc [92] = none := by decide
theorem unesc_t (r : List UInt8) : unesc (92 :: 116 :: r) = (unesc r).map (9 :: ·) := by rw [unesc]; simp
theorem unesc_n (r : List UInt8) : unesc (92 :: 110 :: r) = (unesc r).map (10 :: ·) := by rw [unesc]; simp
theorem unesc_b (r : List UInt8) : unesc (92 :: 92 :: r) = (unesc r).map (92 :: ·) := by rw [unesc]; simp
theorem unesc_other (d : UInt8) (r : List UInt8) (h1 : d ≠ 116) (h2 : d ≠ 110) (h3 : d ≠ 92) : unesc (92 :: d :: r) = none := by rw [unesc]; simp [h1, h2, h3]
theorem esc_9 (r : List UInt8) : esc (9 :: r) = 92 :: 116 :: esc r := by simp [esc]
theorem esc_10 (r : List UInt8) : esc (10 :: r) = 92 :: 110 :: esc r := by simp [esc]
theorem esc_92 (r : List UInt8) : esc (92 :: r) = 92 :: 92 :: esc r := by simp [esc]
theorem esc_plain (c : UInt8) (r : List UInt8) (h1 : c ≠ 9) (h2 : c ≠ 10) (h3 : c ≠ 92) : esc (c :: r) = c :: esc r := by simp [esc, h1, h2, h3]
theorem unesc_esc : ∀ s : List UInt8, unesc (esc s) = some s
  | [] => rfl
  | c :: r => by
    have ih := unesc_esc r
    by_cases h1 : c = 9
    · subst h1; rw [esc_9, unesc_t, ih]; rfl
    · by_cases h2 : c = 10
      · subst h2; rw [esc_10, unesc_n, ih]; rfl
      · by_cases h3 : c = 92
        · subst h3; rw [esc_92, unesc_b, ih]; rfl
        · rw [esc_plain c r h1 h2 h3, unesc_plain c _ h1 h2 h3, ih]; rfl
theorem esc_unesc : ∀ (n : Nat) (b t : List UInt8), b.length ≤ n → unesc b = some t → esc t = b
  | _, [], t, _, h => by
    have h' : some [] = some t := h
    injection h' with h'
    subst h'; rfl
  | 0, c :: r, _, hn, _ => by simp at hn
  | n + 1, c :: r, t, hn, h => by
    have hr : r.length ≤ n := by simpa using hn
    by_cases h0 : c = 9 ∨ c = 10
    · rw [unesc_bad c r h0] at h; cases h
    · have h1 : c ≠ 9 := fun e => h0 (.inl e)
      have h2 : c ≠ 10 := fun e => h0 (.inr e)
      by_cases h3 : c = 92
      · subst h3
        cases r with
        | nil => rw [unesc_last] at h; cases h
        | cons d r' =>
          have hr' : r'.length ≤ n := by simp at hr; omega
          by_cases g1 : d = 116
          · subst g1
            rw [unesc_t, Option.map_eq_some_iff] at h
            obtain ⟨u, hu, rfl⟩ := h
            rw [esc_9, esc_unesc n r' u hr' hu]
          · by_cases g2 : d = 110
            · subst g2
              rw [unesc_n, Option.map_eq_some_iff] at h
              obtain ⟨u, hu, rfl⟩ := h
              rw [esc_10, esc_unesc n r' u hr' hu]
            · by_cases g3 : d = 92
              · subst g3
                rw [unesc_b, Option.map_eq_some_iff] at h
                obtain ⟨u, hu, rfl⟩ := h
                rw [esc_92, esc_unesc n r' u hr' hu]
              · rw [unesc_other d r' g1 g2 g3] at h; cases h
      · rw [unesc_plain c r h1 h2 h3, Option.map_eq_some_iff] at h
        obtain ⟨u, hu, rfl⟩ := h
        rw [esc_plain c u h1 h2 h3, esc_unesc n r u hr hu]
theorem esc_back {b t : List UInt8} (h : unesc b = some t) : esc t = b := esc_unesc b.length b t (Nat.le_refl _) h
theorem esc_free : ∀ s : List UInt8, ∀ x ∈ esc s, x ≠ 9 ∧ x ≠ 10
  | [], x, h => by simp [esc] at h
  | c :: r, x, h => by
    have ih := esc_free r
    by_cases h1 : c = 9
    · subst h1; rw [esc_9] at h
      rcases List.mem_cons.1 h with rfl | h
      · decide
      · rcases List.mem_cons.1 h with rfl | h
        · decide
        · exact ih x h
    · by_cases h2 : c = 10
      · subst h2; rw [esc_10] at h
        rcases List.mem_cons.1 h with rfl | h
        · decide
        · rcases List.mem_cons.1 h with rfl | h
          · decide
          · exact ih x h
      · by_cases h3 : c = 92
        · subst h3; rw [esc_92] at h
          rcases List.mem_cons.1 h with rfl | h
          · decide
          · rcases List.mem_cons.1 h with rfl | h
            · decide
            · exact ih x h
        · rw [esc_plain c r h1 h2 h3] at h
          rcases List.mem_cons.1 h with rfl | h
          · exact ⟨h1, h2⟩
          · exact ih x h
theorem esc_len : ∀ s : List UInt8, (esc s).length ≤ 2 * s.length
  | [] => by simp [esc]
  | c :: r => by
    have ih := esc_len r
    unfold esc
    split
    · simp; omega
    · split
      · simp; omega
      · split <;> simp <;> omega

/-- What stands between bytes of one kind. -/
def cut (a : UInt8) : List UInt8 → List (List UInt8)
  | [] => [[]]
  | c :: r => if c = a then [] :: cut a r else match cut a r with | [] => [[c]] | h :: t => (c :: h) :: t
def join (a : UInt8) : List (List UInt8) → List UInt8
  | [] => []
  | [x] => x
  | x :: y :: r => x ++ a :: join a (y :: r)
theorem cut_ne (a : UInt8) : ∀ s, cut a s ≠ []
  | [] => by simp [cut]
  | c :: r => by
    unfold cut
    split
    · simp
    · split <;> simp
theorem cut_none (a : UInt8) : ∀ s : List UInt8, (∀ x ∈ s, x ≠ a) → cut a s = [s]
  | [], _ => rfl
  | c :: r, h => by
    unfold cut
    rw [if_neg (h c (List.mem_cons_self ..)), cut_none a r (fun x hx => h x (List.mem_cons_of_mem _ hx))]
theorem cut_app (a : UInt8) : ∀ s t : List UInt8, (∀ x ∈ s, x ≠ a) → cut a (s ++ a :: t) = s :: cut a t
  | [], t, _ => by simp [cut]
  | c :: r, t, h => by
    rw [List.cons_append, cut, if_neg (h c (List.mem_cons_self ..)), cut_app a r t (fun x hx => h x (List.mem_cons_of_mem _ hx))]
theorem join_cut (a : UInt8) : ∀ s : List UInt8, join a (cut a s) = s
  | [] => rfl
  | c :: r => by
    have ih := join_cut a r
    have hne := cut_ne a r
    unfold cut
    split
    · rename_i h
      cases hc : cut a r with
      | nil => exact absurd hc hne
      | cons y q => rw [join, ← hc, ih, h]; rfl
    · cases hc : cut a r with
      | nil => exact absurd hc hne
      | cons y q =>
        rw [hc] at ih
        cases q with
        | nil => simp only [join] at ih ⊢; rw [ih]
        | cons z q' => simp only [join] at ih ⊢; rw [← ih]; rfl
theorem cut_free (a : UInt8) : ∀ s : List UInt8, ∀ x ∈ cut a s, ∀ y ∈ x, y ≠ a
  | [], x, hx, y, hy => by
    simp [cut] at hx
    subst hx
    cases hy
  | c :: r, x, hx, y, hy => by
    have ih := cut_free a r
    unfold cut at hx
    split at hx
    · rcases List.mem_cons.1 hx with rfl | hx
      · cases hy
      · exact ih x hx y hy
    · rename_i hca
      split at hx
      · rename_i hc; exact absurd hc (cut_ne a r)
      · rename_i h t hc
        rw [hc] at ih
        rcases List.mem_cons.1 hx with rfl | hx
        · rcases List.mem_cons.1 hy with rfl | hy
          · exact hca
          · exact ih h (List.mem_cons_self ..) y hy
        · exact ih x (List.mem_cons_of_mem _ hx) y hy

/-- A pair's line, without the byte 10. -/
def lineOf (p : List UInt8 × List UInt8) : List UInt8 := esc p.1 ++ 9 :: esc p.2
def lines : List (List UInt8 × List UInt8) → List UInt8
  | [] => []
  | p :: r => lineOf p ++ 10 :: lines r
def pairOf (x : List UInt8) : Option (List UInt8 × List UInt8) :=
  match cut 9 x with
  | [k, v] => match unesc k, unesc v with | some k', some v' => some (k', v') | _, _ => none
  | _ => none
def pairsL : List (List UInt8) → Option (List (List UInt8 × List UInt8))
  | [] => none
  | [x] => if x = [] then some [] else none
  | x :: y :: r => match pairOf x, pairsL (y :: r) with | some p, some q => some (p :: q) | _, _ => none
def pairs (b : List UInt8) : Option (List (List UInt8 × List UInt8)) := pairsL (cut 10 b)
theorem pair_line (p : List UInt8 × List UInt8) : pairOf (lineOf p) = some p := by
  unfold pairOf lineOf
  rw [cut_app 9 _ _ (fun x hx => (esc_free _ x hx).1), cut_none 9 _ (fun x hx => (esc_free _ x hx).1)]
  simp only [unesc_esc]
theorem line_pair {x : List UInt8} {p : List UInt8 × List UInt8} (h : pairOf x = some p) : lineOf p = x := by
  unfold pairOf at h
  split at h
  · rename_i k v hc
    split at h
    · rename_i k' v' hk hv
      injection h with h
      subst h
      have hj := join_cut 9 x
      rw [hc] at hj
      simp only [join] at hj
      unfold lineOf
      rw [esc_back hk, esc_back hv, hj]
    · cases h
  · cases h
theorem line_free (p : List UInt8 × List UInt8) : ∀ x ∈ lineOf p, x ≠ 10 := by
  intro x hx
  unfold lineOf at hx
  rcases List.mem_append.1 hx with h | h
  · exact (esc_free _ x h).2
  · rcases List.mem_cons.1 h with rfl | h
    · decide
    · exact (esc_free _ x h).2
theorem pairs_lines : ∀ l : List (List UInt8 × List UInt8), pairs (lines l) = some l
  | [] => by simp [pairs, lines, cut, pairsL]
  | p :: r => by
    have ih := pairs_lines r
    unfold pairs at ih ⊢
    rw [lines, cut_app 10 _ _ (line_free p)]
    cases hc : cut 10 (lines r) with
    | nil => exact absurd hc (cut_ne 10 _)
    | cons y q =>
      rw [hc] at ih
      rw [pairsL, pair_line, ih]
theorem lines_pairsL : ∀ (l : List (List UInt8)) (u : List (List UInt8 × List UInt8)), pairsL l = some u → lines u = join 10 l
  | [], _, h => by cases h
  | [x], u, h => by
    unfold pairsL at h
    split at h
    · rename_i hx; injection h with h; subst h; subst hx; rfl
    · cases h
  | x :: y :: r, u, h => by
    unfold pairsL at h
    split at h
    · rename_i p q hp hq
      injection h with h
      subst h
      rw [lines, join, line_pair hp, lines_pairsL (y :: r) q hq]
    · cases h
theorem lines_pairs {b : List UInt8} {u : List (List UInt8 × List UInt8)} (h : pairs b = some u) : lines u = b := by
  rw [lines_pairsL _ _ h, join_cut]
end Go.Proofs.Ytplkjljhpmldfaa.Fm

/-
  Plain mathematics of layer 4 (field): words; records as bytes and back.
-/
namespace Go.Proofs.Ytplkjljhpmldfaa.Fm
open Vm

/-- White space. -/
def blank (c : UInt8) : Bool := c == 32 || c == 9 || c == 10 || c == 13
/-- Words, 'cur' being the one that is under way. -/
def wordsGo : List UInt8 → List UInt8 → List (List UInt8)
  | cur, [] => if cur = [] then [] else [cur]
  | cur, c :: r => if blank c = true then (if cur = [] then wordsGo [] r else cur :: wordsGo [] r) else wordsGo (cur ++ [c]) r
theorem wg_nil (cur : List UInt8) : wordsGo cur [] = if cur = [] then [] else [cur] := by rw [wordsGo]
theorem wg_cons (cur : List UInt8) (c : UInt8) (r : List UInt8) : wordsGo cur (c :: r) = if blank c = true then (if cur = [] then wordsGo [] r else cur :: wordsGo [] r) else wordsGo (cur ++ [c]) r := by rw [wordsGo]
def words (s : List UInt8) : List (List UInt8) := wordsGo [] s
def Word (w : List UInt8) : Prop := w ≠ [] ∧ ∀ c ∈ w, blank c = false
theorem wordsGo_mem : ∀ (s cur : List UInt8), (∀ c ∈ cur, blank c = false) → ∀ w ∈ wordsGo cur s, Word w
  | [], cur, hc, w, hw => by
    unfold wordsGo at hw
    split at hw
    · cases hw
    · rename_i h
      rw [List.mem_singleton] at hw
      subst hw
      exact ⟨h, hc⟩
  | c :: r, cur, hc, w, hw => by
    unfold wordsGo at hw
    split at hw
    · split at hw
      · exact wordsGo_mem r [] (fun _ h => by cases h) w hw
      · rename_i h
        rcases List.mem_cons.1 hw with rfl | hw
        · exact ⟨h, hc⟩
        · exact wordsGo_mem r [] (fun _ h => by cases h) w hw
    · rename_i h
      refine wordsGo_mem r (cur ++ [c]) (fun x hx => ?_) w hw
      rcases List.mem_append.1 hx with hx | hx
      · exact hc x hx
      · rw [List.mem_singleton] at hx
        subst hx
        simpa using h
theorem words_mem (s : List UInt8) : ∀ w ∈ words s, Word w := wordsGo_mem s [] (fun _ h => by cases h)
theorem wordsGo_app (b : UInt8) (hb : blank b = true) : ∀ (s cur t : List UInt8), wordsGo cur (s ++ b :: t) = wordsGo cur s ++ wordsGo [] t
  | [], cur, t => by
    rw [List.nil_append, wg_cons, if_pos hb, wg_nil]
    split
    · rfl
    · rfl
  | c :: r, cur, t => by
    rw [List.cons_append, wg_cons, wg_cons]
    split
    · split
      · exact wordsGo_app b hb r [] t
      · rw [wordsGo_app b hb r [] t]; rfl
    · exact wordsGo_app b hb r (cur ++ [c]) t
theorem words_app (b : UInt8) (hb : blank b = true) (s t : List UInt8) : words (s ++ b :: t) = words s ++ words t := wordsGo_app b hb s [] t
theorem wordsGo_word : ∀ (s cur : List UInt8), (∀ c ∈ s, blank c = false) → cur ++ s ≠ [] → wordsGo cur s = [cur ++ s]
  | [], cur, _, hne => by
    rw [List.append_nil] at hne ⊢
    rw [wg_nil, if_neg hne]
  | c :: r, cur, h, _ => by
    rw [wg_cons, if_neg (by rw [h c (List.mem_cons_self ..)]; decide), wordsGo_word r (cur ++ [c]) (fun x hx => h x (List.mem_cons_of_mem _ hx)) (by simp)]
    simp
theorem words_word {w : List UInt8} (h : Word w) : words w = [w] := wordsGo_word w [] h.2 (by simpa using h.1)
/-- Words with a blank behind each. -/
def spaced : List (List UInt8) → List UInt8
  | [] => []
  | w :: r => w ++ 32 :: spaced r
theorem words_spaced : ∀ l : List (List UInt8), (∀ w ∈ l, Word w) → words (spaced l) = l
  | [], _ => by simp [words, spaced, wordsGo]
  | w :: r, h => by
    rw [spaced, words_app 32 (by decide), words_word (h w (List.mem_cons_self ..)), words_spaced r (fun x hx => h x (List.mem_cons_of_mem _ hx))]
    rfl
theorem spaced_app (l r : List (List UInt8)) : spaced (l ++ r) = spaced l ++ spaced r := by
  induction l with
  | nil => rfl
  | cons w l ih => simp [spaced, ih]

/-- A frame, a record, records. -/
def encF (s : List UInt8) : List UInt8 := vb s.length ++ s
def encFs : List (List UInt8) → List UInt8
  | [] => []
  | s :: r => encF s ++ encFs r
def encR (r : List (List UInt8)) : List UInt8 := vb r.length ++ encFs r
def encRs : List (List (List UInt8)) → List UInt8
  | [] => []
  | r :: l => encR r ++ encRs l
def enc (l : List (List (List UInt8))) : List UInt8 := vb l.length ++ encRs l
def May (r : List (List UInt8)) : Prop := r.length ≤ 50 ∧ ∀ s ∈ r, s.length ≤ 1000
/-- A frame taken: the text and the rest, or the error. -/
def takeF (b : List UInt8) : Except Nat (List UInt8 × List UInt8) :=
  if (tk b).2.2 = 0 then
    if 1000 < (tk b).1 then .error 5
    else if (b.drop (tk b).2.1).length < (tk b).1 then .error 2
    else .ok ((b.drop (tk b).2.1).take (tk b).1, (b.drop (tk b).2.1).drop (tk b).1)
  else .error (tk b).2.2
def decFs : Nat → List UInt8 → Except Nat (List (List UInt8) × List UInt8)
  | 0, b => .ok ([], b)
  | k + 1, b =>
    match takeF b with
    | .error x => .error x
    | .ok (s, b') => match decFs k b' with | .error x => .error x | .ok (r, b'') => .ok (s :: r, b'')
def decR (b : List UInt8) : Except Nat (List (List UInt8) × List UInt8) :=
  if (tk b).2.2 = 0 then (if 50 < (tk b).1 then .error 5 else decFs (tk b).1 (b.drop (tk b).2.1)) else .error (tk b).2.2
def decRs : Nat → List UInt8 → Except Nat (List (List (List UInt8)) × List UInt8)
  | 0, b => .ok ([], b)
  | k + 1, b =>
    match decR b with
    | .error x => .error x
    | .ok (r, b') => match decRs k b' with | .error x => .error x | .ok (l, b'') => .ok (r :: l, b'')
def dec (b : List UInt8) : Except Nat (List (List (List UInt8))) :=
  if (tk b).2.2 = 0 then
    if 5000 < (tk b).1 then .error 5
    else match decRs (tk b).1 (b.drop (tk b).2.1) with
      | .error x => .error x
      | .ok (l, b') => if b' = [] then .ok l else .error 3
  else .error (tk b).2.2

theorem takeF_enc (s t : List UInt8) (h : s.length ≤ 1000) : takeF (encF s ++ t) = .ok (s, t) := by
  have e : encF s ++ t = vb s.length ++ (s ++ t) := by unfold encF; rw [List.append_assoc]
  have htk := tk_back s.length (s ++ t) (by omega)
  unfold takeF
  rw [e, htk]
  dsimp only
  rw [if_pos rfl, if_neg (by omega), List.drop_left, if_neg (by simp), List.take_left, List.drop_left]
theorem decFs_enc : ∀ (r : List (List UInt8)) (t : List UInt8), (∀ s ∈ r, s.length ≤ 1000) → decFs r.length (encFs r ++ t) = .ok (r, t)
  | [], t, _ => rfl
  | s :: r, t, h => by
    rw [List.length_cons, decFs, encFs, List.append_assoc, takeF_enc s _ (h s (List.mem_cons_self ..))]
    dsimp only
    rw [decFs_enc r t (fun x hx => h x (List.mem_cons_of_mem _ hx))]
theorem decR_enc (r : List (List UInt8)) (t : List UInt8) (h : May r) : decR (encR r ++ t) = .ok (r, t) := by
  have e : encR r ++ t = vb r.length ++ (encFs r ++ t) := by unfold encR; rw [List.append_assoc]
  have h1 := h.1
  have htk := tk_back r.length (encFs r ++ t) (by omega)
  unfold decR
  rw [e, htk]
  dsimp only
  rw [if_pos rfl, if_neg (by omega), List.drop_left, decFs_enc r t h.2]
theorem decRs_enc : ∀ (l : List (List (List UInt8))) (t : List UInt8), (∀ r ∈ l, May r) → decRs l.length (encRs l ++ t) = .ok (l, t)
  | [], t, _ => rfl
  | r :: l, t, h => by
    rw [List.length_cons, decRs, encRs, List.append_assoc, decR_enc r _ (h r (List.mem_cons_self ..))]
    dsimp only
    rw [decRs_enc l t (fun x hx => h x (List.mem_cons_of_mem _ hx))]
theorem dec_enc (l : List (List (List UInt8))) (h : ∀ r ∈ l, May r) (hl : l.length ≤ 5000) : dec (enc l) = .ok l := by
  have htk := tk_back l.length (encRs l) (by omega)
  have hd := decRs_enc l [] h
  rw [List.append_nil] at hd
  unfold dec enc
  rw [htk]
  dsimp only
  rw [if_pos rfl, if_neg (by omega), List.drop_left, hd]
  simp

theorem takeF_only {b s t : List UInt8} (h : takeF b = .ok (s, t)) : b = encF s ++ t ∧ s.length ≤ 1000 := by
  unfold takeF at h
  split at h
  · rename_i h0
    obtain ⟨_, h1, _⟩ := tk_only b h0
    split at h
    · cases h
    · rename_i h2
      split at h
      · cases h
      · rename_i h3
        injection h with h
        obtain ⟨rfl, rfl⟩ := Prod.mk.inj h
        have hl : ((b.drop (tk b).2.1).take (tk b).1).length = (tk b).1 := by rw [List.length_take]; omega
        refine ⟨?_, by rw [hl]; omega⟩
        unfold encF
        rw [hl, List.append_assoc, List.take_append_drop]
        exact h1
  · cases h
theorem decFs_only : ∀ (k : Nat) (b : List UInt8) (r : List (List UInt8)) (t : List UInt8), decFs k b = .ok (r, t) → b = encFs r ++ t ∧ r.length = k ∧ ∀ s ∈ r, s.length ≤ 1000
  | 0, b, r, t, h => by
    unfold decFs at h
    injection h with h
    obtain ⟨rfl, rfl⟩ := Prod.mk.inj h
    exact ⟨rfl, rfl, fun _ h => by cases h⟩
  | k + 1, b, r, t, h => by
    unfold decFs at h
    split at h
    · cases h
    · rename_i s b' hf
      split at h
      · cases h
      · rename_i r' b'' hd
        injection h with h
        obtain ⟨rfl, rfl⟩ := Prod.mk.inj h
        obtain ⟨h1, h2⟩ := takeF_only hf
        obtain ⟨h3, h4, h5⟩ := decFs_only k b' r' _ hd
        refine ⟨by rw [h1, h3, encFs, List.append_assoc], by simp [h4], fun x hx => ?_⟩
        rcases List.mem_cons.1 hx with rfl | hx
        · exact h2
        · exact h5 x hx
theorem decR_only {b : List UInt8} {r : List (List UInt8)} {t : List UInt8} (h : decR b = .ok (r, t)) : b = encR r ++ t ∧ May r := by
  unfold decR at h
  split at h
  · rename_i h0
    obtain ⟨_, h1, _⟩ := tk_only b h0
    split at h
    · cases h
    · rename_i h2
      obtain ⟨h3, h4, h5⟩ := decFs_only _ _ _ _ h
      refine ⟨?_, by omega, h5⟩
      unfold encR
      rw [h4, List.append_assoc, ← h3]
      exact h1
  · cases h
theorem decRs_only : ∀ (k : Nat) (b : List UInt8) (l : List (List (List UInt8))) (t : List UInt8), decRs k b = .ok (l, t) → b = encRs l ++ t ∧ l.length = k ∧ ∀ r ∈ l, May r
  | 0, b, l, t, h => by
    unfold decRs at h
    injection h with h
    obtain ⟨rfl, rfl⟩ := Prod.mk.inj h
    exact ⟨rfl, rfl, fun _ h => by cases h⟩
  | k + 1, b, l, t, h => by
    unfold decRs at h
    split at h
    · cases h
    · rename_i r b' hf
      split at h
      · cases h
      · rename_i l' b'' hd
        injection h with h
        obtain ⟨rfl, rfl⟩ := Prod.mk.inj h
        obtain ⟨h1, h2⟩ := decR_only hf
        obtain ⟨h3, h4, h5⟩ := decRs_only k b' l' _ hd
        refine ⟨by rw [h1, h3, encRs, List.append_assoc], by simp [h4], fun x hx => ?_⟩
        rcases List.mem_cons.1 hx with rfl | hx
        · exact h2
        · exact h5 x hx
theorem enc_dec {b : List UInt8} {l : List (List (List UInt8))} (h : dec b = .ok l) : enc l = b ∧ (∀ r ∈ l, May r) ∧ l.length ≤ 5000 := by
  unfold dec at h
  split at h
  · rename_i h0
    obtain ⟨_, h1, _⟩ := tk_only b h0
    split at h
    · cases h
    · rename_i h2
      split at h
      · cases h
      · rename_i l' b' hd
        split at h
        · rename_i hb
          injection h with h
          subst h hb
          obtain ⟨h3, h4, h5⟩ := decRs_only _ _ _ _ hd
          refine ⟨?_, h5, by omega⟩
          unfold enc
          rw [List.append_nil] at h3
          rw [h4, ← h3]
          exact h1.symm
        · cases h
  · cases h
end Go.Proofs.Ytplkjljhpmldfaa.Fm

/-
  Plain mathematics of varints: the document's way to read a number comes to the same.
-/
namespace Go.Proofs.Ytplkjljhpmldfaa
namespace Vm

/-- The first k bytes have bit 7 set. -/
def Lead (k : Nat) (l : List UInt8) : Prop := ∀ j, j < k → ∃ x, l[j]? = some x ∧ 128 ≤ x.toNat
theorem Lead.zero (l : List UInt8) : Lead 0 l := fun j hj => absurd hj (by omega)
theorem Lead.succ {k : Nat} {l : List UInt8} (h : Lead k l) {x : UInt8} (hx : l[k]? = some x) (h128 : 128 ≤ x.toNat) : Lead (k + 1) l := fun j hj => by
  by_cases hjk : j = k
  · subst hjk; exact ⟨x, hx, h128⟩
  · exact h j (by omega)

/-- Groups of 7 bits, the lowest first. -/
def val : List UInt8 → Nat
  | [] => 0
  | c :: r => c.toNat % 128 + 128 * val r

theorem val_append : ∀ (l r : List UInt8), val (l ++ r) = val l + val r * 128 ^ l.length
  | [], r => by simp [val]
  | c :: l, r => by
    have ih := val_append l r
    simp only [List.cons_append, val, ih, List.length_cons, Nat.pow_succ]
    rw [Nat.mul_add, Nat.add_assoc, Nat.mul_comm (128 ^ l.length) 128, ← Nat.mul_assoc, Nat.mul_left_comm, Nat.mul_assoc]

theorem dn_lead : ∀ (k i acc : Nat) (l : List UInt8), Lead k l → i + k ≤ 9 → dn i acc l = dn (i + k) (acc + val (l.take k) * 128 ^ i) (l.drop k)
  | 0, i, acc, l, _, _ => by simp [val]
  | k + 1, i, acc, l, h, hi => by
    obtain ⟨x, hx, h128⟩ := h 0 (by omega)
    match l, hx with
    | c :: r, hx =>
      simp at hx
      subst hx
      have hr : Lead k r := fun j hj => by
        obtain ⟨y, hy, hy2⟩ := h (j + 1) (by omega)
        exact ⟨y, by simpa using hy, hy2⟩
      rw [dn_step i acc c r h128 (by omega), dn_lead k (i + 1) _ r hr (by omega)]
      have hc := c.toNat_lt
      have e1 : c.toNat - 128 = c.toNat % 128 := by omega
      have e2 : i + 1 + k = i + (k + 1) := by omega
      rw [e1, e2]
      have e3 : acc + c.toNat % 128 * 128 ^ i + val (r.take k) * 128 ^ (i + 1) = acc + (c.toNat % 128 + 128 * val (r.take k)) * 128 ^ i := by
        rw [Nat.add_mul, Nat.add_assoc, Nat.pow_succ, Nat.mul_comm 128 (val (r.take k)), Nat.mul_assoc, Nat.mul_comm (128 ^ i) 128]
      rw [List.take_succ_cons, List.drop_succ_cons, val, e3]

theorem tk_short (l : List UInt8) (k : Nat) (h : Lead k l) (hk : k = l.length) (h10 : k < 10) : tk l = (0, 0, 2) := by
  have := dn_lead k 0 0 l h (by omega)
  rw [List.drop_of_length_le (by omega)] at this
  exact this

theorem tk_ten (l : List UInt8) (h : Lead 10 l) : tk l = (0, 0, 3) := by
  have h9 : Lead 9 l := fun j hj => h j (by omega)
  have := dn_lead 9 0 0 l h9 (by omega)
  obtain ⟨x, hx, h128⟩ := h 9 (by omega)
  have hd : l.drop 9 = x :: l.drop 10 := by
    obtain ⟨hl, he⟩ := List.getElem?_eq_some_iff.1 hx
    rw [List.drop_eq_getElem_cons hl, he]
  rw [hd] at this
  exact this.trans (dn_long _ x _ h128)

/-- The last byte has bit 7 clear: an error, or the number. -/
theorem tk_last (l : List UInt8) (k : Nat) (h : Lead k l) (hk : k ≤ 9) (x : UInt8) (hx : l[k]? = some x) (h128 : x.toNat < 128) :
    tk l = (0, 0, 3) ∨ tk l = (val (l.take (k + 1)), k + 1, 0) := by
  have hl := dn_lead k 0 0 l h (by omega)
  obtain ⟨hlt, he⟩ := List.getElem?_eq_some_iff.1 hx
  have hd : l.drop k = x :: l.drop (k + 1) := by rw [List.drop_eq_getElem_cons hlt, he]
  rw [hd] at hl
  by_cases hb : 0 < 0 + k ∧ x.toNat = 0 ∨ 0 + k = 9 ∧ 1 < x.toNat
  · exact .inl (hl.trans (dn_bad _ _ x _ h128 hb))
  · refine .inr (hl.trans ((dn_end _ _ x _ h128 hb).trans ?_))
    have ht : l.take (k + 1) = l.take k ++ [x] := by rw [List.take_succ_eq_append_getElem hlt, he]
    rw [ht, val_append]
    have hlen : (l.take k).length = k := by rw [List.length_take]; omega
    rw [hlen]
    simp [val]
    have : x.toNat % 128 = x.toNat := Nat.mod_eq_of_lt h128
    rw [this]

/-- THE DOCUMENT's TEST: the number's bytes stand there, or there is none. -/
theorem tk_told (l : List UInt8) (k : Nat) (h : Lead k l) (hk : k ≤ 9) (x : UInt8) (hx : l[k]? = some x) (h128 : x.toNat < 128) :
    (vb (val (l.take (k + 1)) % 18446744073709551616) = l.take (k + 1) → tk l = (val (l.take (k + 1)) % 18446744073709551616, k + 1, 0)) ∧
    (vb (val (l.take (k + 1)) % 18446744073709551616) ≠ l.take (k + 1) → tk l = (0, 0, 3)) := by
  obtain ⟨hlt, he⟩ := List.getElem?_eq_some_iff.1 hx
  have hlen : (l.take (k + 1)).length = k + 1 := by rw [List.length_take]; omega
  have hm : val (l.take (k + 1)) % 18446744073709551616 < 18446744073709551616 := Nat.mod_lt _ (by omega)
  constructor
  · intro hv
    have hb := tk_back _ (l.drop (k + 1)) hm
    rw [hv, List.take_append_drop, hlen] at hb
    exact hb
  · intro hv
    rcases tk_last l k h hk x hx h128 with h1 | h1
    · exact h1
    · exfalso
      have ho := tk_only l (by rw [h1])
      rw [h1] at ho
      obtain ⟨o1, o2, o3⟩ := ho
      dsimp only at o1 o2 o3
      rw [Nat.mod_eq_of_lt o1] at hv
      apply hv
      generalize vb (val (l.take (k + 1))) = V at o2 o3
      have t : (V ++ l.drop (k + 1)).take V.length = V := List.take_left
      rw [← o2] at t
      rw [o3]
      exact t.symm

end Vm
end Go.Proofs.Ytplkjljhpmldfaa

/-
  Plain mathematics of layer 3 (press), by the document's words: likenesses, tokens, expanding; what is pressed expands to the bytes.
-/
namespace Go.Proofs.Ytplkjljhpmldfaa.Pm
open Vm

/-- How many bytes from i on are like the ones d before, at most f. -/
def likeF (b : List UInt8) (d : Nat) : Nat → Nat → Nat
  | 0, _ => 0
  | f + 1, i => if i < b.length ∧ b[i]? = b[i - d]? then likeF b d f (i + 1) + 1 else 0
def like (b : List UInt8) (i d : Nat) : Nat := likeF b d 200 i
theorem likeF_le (b : List UInt8) (d : Nat) : ∀ f i, likeF b d f i ≤ f
  | 0, _ => Nat.le_refl _
  | f + 1, i => by
    unfold likeF
    split
    · have := likeF_le b d f (i + 1); omega
    · omega
theorem likeF_len (b : List UInt8) (d : Nat) : ∀ f i, i ≤ b.length → i + likeF b d f i ≤ b.length
  | 0, i, h => h
  | f + 1, i, h => by
    unfold likeF
    split
    · rename_i h1
      have := likeF_len b d f (i + 1) h1.1; omega
    · omega
theorem likeF_eq (b : List UInt8) (d : Nat) : ∀ f i j, j < likeF b d f i → b[i + j]? = b[i + j - d]?
  | 0, _, j, h => by simp [likeF] at h
  | f + 1, i, j, h => by
    unfold likeF at h
    split at h
    · rename_i h1
      match j, h with
      | 0, _ => exact h1.2
      | j + 1, h =>
        have := likeF_eq b d f (i + 1) j (by omega)
        rw [show i + (j + 1) = i + 1 + j by omega]
        exact this
    · omega
theorem like_le (b : List UInt8) (i d : Nat) : like b i d ≤ 200 := likeF_le b d 200 i
theorem like_len (b : List UInt8) (i d : Nat) (h : i ≤ b.length) : i + like b i d ≤ b.length := likeF_len b d 200 i h
theorem like_eq (b : List UInt8) (i d j : Nat) (h : j < like b i d) : b[i + j]? = b[i + j - d]? := likeF_eq b d 200 i j h

/-- The longest likeness, its least distance: distances d, d + 1, .. (k of them) behind what was found so far. -/
def bestF (b : List UInt8) (i : Nat) : Nat → Nat → Nat × Nat → Nat × Nat
  | 0, _, r => r
  | k + 1, d, r => bestF b i k (d + 1) (if 4 ≤ like b i d ∧ r.1 < like b i d then (like b i d, d) else r)
def best (b : List UInt8) (i : Nat) : Nat × Nat := bestF b i (min i 4096) 1 (0, 0)
def Good (b : List UInt8) (i : Nat) (r : Nat × Nat) : Prop := r = (0, 0) ∨ (4 ≤ r.1 ∧ r.1 = like b i r.2 ∧ 1 ≤ r.2 ∧ r.2 ≤ i ∧ r.2 ≤ 4096)
theorem bestF_good (b : List UInt8) (i : Nat) : ∀ k d r, 1 ≤ d → d + k ≤ min i 4096 + 1 → Good b i r → Good b i (bestF b i k d r)
  | 0, _, _, _, _, h => h
  | k + 1, d, r, hd, hk, h => by
    unfold bestF
    refine bestF_good b i k (d + 1) _ (by omega) (by omega) ?_
    split
    · rename_i h1
      exact .inr ⟨h1.1, rfl, hd, by dsimp only; omega, by dsimp only; omega⟩
    · exact h
theorem best_good (b : List UInt8) (i : Nat) : Good b i (best b i) := bestF_good b i _ 1 _ (Nat.le_refl _) (by omega) (.inl rfl)
theorem best_cases (b : List UInt8) (i : Nat) (h : i ≤ b.length) : (best b i).1 = 0 ∨ (4 ≤ (best b i).1 ∧ (best b i).1 ≤ 200 ∧ i + (best b i).1 ≤ b.length ∧ 1 ≤ (best b i).2 ∧ (best b i).2 ≤ i ∧ (best b i).2 ≤ 4096 ∧ ∀ j, j < (best b i).1 → b[i + j]? = b[i + j - (best b i).2]?) := by
  rcases best_good b i with h1 | ⟨h1, h2, h3, h4, h5⟩
  · exact .inl (by rw [h1])
  · refine .inr ⟨h1, by rw [h2]; exact like_le _ _ _, by rw [h2]; exact like_len _ _ _ h, h3, h4, h5, fun j hj => like_eq b i _ j (by rw [← h2]; exact hj)⟩

/-- Literal tokens. -/
def asB (l : List UInt8) : List UInt8 :=
  if _h : l = [] then [] else vb (2 * (min 64 l.length - 1)) ++ (l.take 64 ++ asB (l.drop 64))
termination_by l.length
decreasing_by
  have : 0 < l.length := List.length_pos_iff.2 _h
  simp; omega
theorem asB_nil : asB [] = [] := by rw [asB]; simp
theorem asB_ne (l : List UInt8) (h : l ≠ []) : asB l = vb (2 * (min 64 l.length - 1)) ++ (l.take 64 ++ asB (l.drop 64)) := by rw [asB, dif_neg h]

/-- Tokens, the bytes from 'from_' on to i being literals that are not put yet. -/
def pressGo (b : List UInt8) (from_ i : Nat) : List UInt8 :=
  if i < b.length then
    if h0 : (best b i).1 = 0 then pressGo b from_ (i + 1)
    else asB ((b.take i).drop from_) ++ (vb (2 * ((best b i).1 - 4) + 1) ++ (vb (best b i).2 ++ pressGo b (i + (best b i).1) (i + (best b i).1)))
  else asB (b.drop from_)
termination_by b.length - i
def pressS (b : List UInt8) : List UInt8 := vb b.length ++ pressGo b 0 0

/-- k bytes, each the one d before the end. -/
def copyN : Nat → Nat → List UInt8 → List UInt8
  | 0, _, o => o
  | k + 1, d, o => copyN k d (o ++ [o.getD (o.length - d) 0])

theorem tk_pos (l : List UInt8) (h : (tk l).2.2 = 0) : 1 ≤ (tk l).2.1 := by
  rw [(tk_only l h).2.2]
  exact vb_pos _

/-- Token by token: the bytes, literal tokens, match tokens, the error. -/
def expGo (n : Nat) (out r : List UInt8) (p k : Nat) : List UInt8 × Nat × Nat × Nat :=
  if h0 : r = [] then (if out.length < n then ([], 0, 0, 3) else (out, p, k, 0))
  else if h1 : (tk r).2.2 = 0 then
    if (tk r).1 % 2 = 0 then
      if (r.drop (tk r).2.1).length < (tk r).1 / 2 + 1 then ([], 0, 0, 2)
      else if n < out.length + ((tk r).1 / 2 + 1) then ([], 0, 0, 3)
      else expGo n (out ++ (r.drop (tk r).2.1).take ((tk r).1 / 2 + 1)) ((r.drop (tk r).2.1).drop ((tk r).1 / 2 + 1)) (p + 1) k
    else if (tk (r.drop (tk r).2.1)).2.2 = 0 then
      if (tk (r.drop (tk r).2.1)).1 = 0 ∨ 4096 < (tk (r.drop (tk r).2.1)).1 ∨ out.length < (tk (r.drop (tk r).2.1)).1 ∨ n - out.length < (tk r).1 / 2 + 4 then ([], 0, 0, 3)
      else expGo n (copyN ((tk r).1 / 2 + 4) (tk (r.drop (tk r).2.1)).1 out) ((r.drop (tk r).2.1).drop (tk (r.drop (tk r).2.1)).2.1) p (k + 1)
    else ([], 0, 0, (tk (r.drop (tk r).2.1)).2.2)
  else ([], 0, 0, (tk r).2.2)
termination_by r.length
decreasing_by
  all_goals
    have h2 := tk_pos r h1
    have h3 : 0 < r.length := List.length_pos_iff.2 h0
    simp only [List.length_drop]
    omega
def expS (r : List UInt8) (most : Int) : List UInt8 × Nat × Nat × Nat :=
  if (tk r).2.2 = 0 then
    if most < 0 ∨ most < ((tk r).1 : Int) then ([], 0, 0, 5) else expGo (tk r).1 [] (r.drop (tk r).2.1) 0 0
  else ([], 0, 0, (tk r).2.2)

theorem copyN_take (b : List UInt8) (d : Nat) : ∀ k i, i + k ≤ b.length → 1 ≤ d → d ≤ i → (∀ j, j < k → b[i + j]? = b[i + j - d]?) → copyN k d (b.take i) = b.take (i + k)
  | 0, _, _, _, _, _ => rfl
  | k + 1, i, hl, h1, h2, h => by
    unfold copyN
    have hlen : (b.take i).length = i := by rw [List.length_take]; omega
    have e0 := h 0 (by omega)
    have hi : i < b.length := by omega
    have e1 : b.take i ++ [(b.take i).getD ((b.take i).length - d) 0] = b.take (i + 1) := by
      have hq : (b.take i).getD ((b.take i).length - d) 0 = b[i] := by
        rw [hlen, List.getD_eq_getElem?_getD, List.getElem?_take, if_pos (by omega)]
        rw [Nat.add_zero] at e0
        rw [← e0, List.getElem?_eq_getElem hi]
        rfl
      rw [hq, List.take_add_one, List.getElem?_eq_getElem hi]
      rfl
    rw [e1, copyN_take b d k (i + 1) (by omega) h1 (by omega) (fun j hj => by rw [show i + 1 + j = i + (j + 1) by omega]; exact h (j + 1) (by omega))]
    congr 1
    omega

/-- How many literal tokens. -/
def chunks (m : Nat) : Nat := (m + 63) / 64

theorem expGo_lit (n : Nat) (out l r : List UInt8) (p k : Nat) (h1 : 1 ≤ l.length) (h2 : l.length ≤ 64) (hn : out.length + l.length ≤ n) :
    expGo n out (vb (2 * (l.length - 1)) ++ (l ++ r)) p k = expGo n (out ++ l) r (p + 1) k := by
  have htk := tk_back (2 * (l.length - 1)) (l ++ r) (by omega)
  have hne : vb (2 * (l.length - 1)) ++ (l ++ r) ≠ [] := by
    intro e
    have h5 := congrArg List.length e
    have h6 := vb_pos (2 * (l.length - 1))
    rw [List.length_append, List.length_nil] at h5
    omega
  rw [expGo, dif_neg hne, htk]
  dsimp only
  have hd : 2 * (l.length - 1) / 2 + 1 = l.length := by omega
  rw [dif_pos rfl, if_pos (by omega), hd, List.drop_left, if_neg (by simp), if_neg (by omega), List.take_left, List.drop_left]
theorem expGo_match (n : Nat) (out r : List UInt8) (m d p k : Nat) (h4 : 4 ≤ m) (hm : m ≤ 200) (h1 : 1 ≤ d) (h2 : d ≤ 4096) (h3 : d ≤ out.length) (hn : out.length + m ≤ n) :
    expGo n out (vb (2 * (m - 4) + 1) ++ (vb d ++ r)) p k = expGo n (copyN m d out) r p (k + 1) := by
  have htk := tk_back (2 * (m - 4) + 1) (vb d ++ r) (by omega)
  have htk2 := tk_back d r (by omega)
  have hne : vb (2 * (m - 4) + 1) ++ (vb d ++ r) ≠ [] := by
    intro e
    have h5 := congrArg List.length e
    have h6 := vb_pos (2 * (m - 4) + 1)
    rw [List.length_append, List.length_nil] at h5
    omega
  rw [expGo, dif_neg hne, htk]
  dsimp only
  have hd : (2 * (m - 4) + 1) / 2 + 4 = m := by omega
  rw [dif_pos rfl, if_neg (by omega), List.drop_left, htk2]
  dsimp only
  rw [if_pos rfl, if_neg (by omega), hd, List.drop_left]

theorem expGo_as (n : Nat) : ∀ (m : Nat) (l : List UInt8), l.length ≤ m → ∀ (out r : List UInt8) (p k : Nat), out.length + l.length ≤ n → expGo n out (asB l ++ r) p k = expGo n (out ++ l) r (p + chunks l.length) k
  | 0, l, hm, out, r, p, k, _ => by
    obtain rfl : l = [] := List.eq_nil_of_length_eq_zero (by omega)
    simp [asB_nil, chunks]
  | m + 1, l, hm, out, r, p, k, hn => by
    by_cases h : l = []
    · subst h; simp [asB_nil, chunks]
    · have hp : 0 < l.length := List.length_pos_iff.2 h
      rw [asB_ne l h, List.append_assoc, List.append_assoc]
      have ht : (l.take 64).length = min 64 l.length := List.length_take
      rw [← ht]
      rw [expGo_lit n out (l.take 64) (asB (l.drop 64) ++ r) p k (by omega) (by omega) (by omega)]
      rw [expGo_as n m (l.drop 64) (by simp; omega) _ r _ k (by simp; omega)]
      rw [List.append_assoc, List.take_append_drop]
      congr 1
      unfold chunks
      simp
      omega

/-- How many tokens of each kind. -/
def cnt (b : List UInt8) (from_ i : Nat) : Nat × Nat :=
  if i < b.length then
    if h0 : (best b i).1 = 0 then cnt b from_ (i + 1)
    else (chunks (i - from_) + (cnt b (i + (best b i).1) (i + (best b i).1)).1, (cnt b (i + (best b i).1) (i + (best b i).1)).2 + 1)
  else (chunks (b.length - from_), 0)
termination_by b.length - i

theorem expGo_press (b : List UInt8) : ∀ (m from_ i : Nat), b.length - i ≤ m → from_ ≤ i → i ≤ b.length → ∀ p k, expGo b.length (b.take from_) (pressGo b from_ i) p k = (b, p + (cnt b from_ i).1, k + (cnt b from_ i).2, 0) := by
  have last : ∀ from_, from_ ≤ b.length → ∀ p k, expGo b.length (b.take from_) (pressGo b from_ b.length) p k = (b, p + (cnt b from_ b.length).1, k + (cnt b from_ b.length).2, 0) := by
    intro from_ hf p k
    rw [pressGo, if_neg (by omega), cnt, if_neg (by omega)]
    have := expGo_as b.length (b.drop from_).length (b.drop from_) (Nat.le_refl _) (b.take from_) [] p k (by simp; omega)
    rw [List.append_nil] at this
    rw [this, List.take_append_drop, expGo, dif_pos rfl, if_neg (by omega), List.length_drop]
    rfl
  intro m
  induction m with
  | zero =>
    intro from_ i hm hf hi p k
    obtain rfl : i = b.length := by omega
    exact last from_ hf p k
  | succ m ih =>
    intro from_ i hm hf hi p k
    by_cases hlt : i < b.length
    · rw [pressGo, if_pos hlt, cnt, if_pos hlt]
      rcases best_cases b i hi with h0 | ⟨h4, h200, hl, hd1, hdi, hd4, hq⟩
      · rw [dif_pos h0, dif_pos h0]
        exact ih from_ (i + 1) (by omega) (by omega) (by omega) p k
      · rw [dif_neg (by omega), dif_neg (by omega)]
        have e1 : b.take from_ ++ (b.take i).drop from_ = b.take i := by
          have := List.take_append_drop from_ (b.take i)
          rwa [List.take_take, Nat.min_eq_left hf] at this
        have hti : (b.take i).length = i := by rw [List.length_take]; omega
        rw [expGo_as b.length _ _ (Nat.le_refl _) (b.take from_) _ p k (by rw [← List.length_append, e1, hti]; omega), e1]
        rw [expGo_match b.length (b.take i) _ _ _ _ _ h4 h200 hd1 hd4 (by omega) (by omega)]
        rw [copyN_take b _ _ i (by omega) hd1 hdi hq]
        rw [ih _ _ (by omega) (Nat.le_refl _) (by omega) _ _, List.length_drop, hti]
        simp only [Prod.mk.injEq, true_and, and_true]
        omega
    · obtain rfl : i = b.length := by omega
      exact last from_ hf p k
/-- What is pressed expands to the bytes, by any bound that they do not pass. -/
theorem press_back (b : List UInt8) (hb : b.length ≤ 20000) (most : Int) (hm : (b.length : Int) ≤ most) : expS (pressS b) most = (b, (cnt b 0 0).1, (cnt b 0 0).2, 0) := by
  have htk := tk_back b.length (pressGo b 0 0) (by omega)
  unfold expS pressS
  rw [htk]
  dsimp only
  rw [if_pos rfl, if_neg (by omega), List.drop_left]
  have := expGo_press b b.length 0 0 (by omega) (Nat.le_refl _) (Nat.zero_le _) 0 0
  rw [Nat.zero_add, Nat.zero_add, List.take_zero] at this
  exact this
theorem press_large (b : List UInt8) (hb : b.length ≤ 20000) (most : Int) (hm : most < (b.length : Int)) : expS (pressS b) most = ([], 0, 0, 5) := by
  have htk := tk_back b.length (pressGo b 0 0) (by omega)
  unfold expS pressS
  rw [htk]
  dsimp only
  rw [if_pos rfl, if_pos (.inr hm)]

/-- Lengths. -/
theorem asB_len : ∀ (m : Nat) (l : List UInt8), l.length ≤ m → (asB l).length = l.length + chunks l.length
  | 0, l, hm => by
    obtain rfl : l = [] := List.eq_nil_of_length_eq_zero (by omega)
    simp [asB_nil, chunks]
  | m + 1, l, hm => by
    by_cases h : l = []
    · subst h; simp [asB_nil, chunks]
    · have hp : 0 < l.length := List.length_pos_iff.2 h
      have e1 : (vb (2 * (min 64 l.length - 1))).length = 1 := by rw [vb_lt _ (by omega)]; rfl
      rw [asB_ne l h, List.length_append, List.length_append, asB_len m (l.drop 64) (by simp; omega), e1, List.length_take, List.length_drop]
      unfold chunks
      omega
theorem match_len (m d : Nat) (h4 : 4 ≤ m) (hm : m ≤ 200) (hd : d ≤ 4096) : (vb (2 * (m - 4) + 1)).length + (vb d).length + 1 ≤ m := by
  have e2 : (vb d).length ≤ 2 := vb_len_le 1 d (by omega)
  by_cases h : m ≤ 67
  · have e1 : (vb (2 * (m - 4) + 1)).length = 1 := by rw [vb_lt _ (by omega)]; rfl
    omega
  · have e1 : (vb (2 * (m - 4) + 1)).length ≤ 2 := vb_len_le 1 _ (by omega)
    omega
theorem pressGo_len (b : List UInt8) : ∀ (m from_ i : Nat), b.length - i ≤ m → from_ ≤ i → i ≤ b.length → (pressGo b from_ i).length ≤ (b.length - from_) + (b.length - from_) / 64 + 1 := by
  have last : ∀ from_, (pressGo b from_ b.length).length ≤ (b.length - from_) + (b.length - from_) / 64 + 1 := by
    intro from_
    rw [pressGo, if_neg (by omega), asB_len _ _ (Nat.le_refl _), List.length_drop]
    unfold chunks
    omega
  intro m
  induction m with
  | zero =>
    intro from_ i hm hf hi
    obtain rfl : i = b.length := by omega
    exact last from_
  | succ m ih =>
    intro from_ i hm hf hi
    by_cases hlt : i < b.length
    · rw [pressGo, if_pos hlt]
      rcases best_cases b i hi with h0 | ⟨h4, h200, hl, hd1, hdi, hd4, hq⟩
      · rw [dif_pos h0]
        exact ih from_ (i + 1) (by omega) (by omega) (by omega)
      · rw [dif_neg (by omega)]
        have h1 := ih (i + (best b i).1) (i + (best b i).1) (by omega) (Nat.le_refl _) (by omega)
        have h2 := match_len _ _ h4 h200 hd4
        rw [List.length_append, List.length_append, List.length_append, asB_len _ _ (Nat.le_refl _), List.length_drop, List.length_take]
        unfold chunks
        omega
    · obtain rfl : i = b.length := by omega
      exact last from_
theorem press_len (b : List UInt8) (hb : b.length ≤ 20000) : (pressS b).length ≤ b.length + b.length / 64 + 4 := by
  have h1 := pressGo_len b b.length 0 0 (by omega) (Nat.le_refl _) (Nat.zero_le _)
  have h2 : (vb b.length).length ≤ 3 := vb_len_le 2 _ (by omega)
  unfold pressS
  rw [List.length_append]
  omega

/-- Counts. -/
theorem cnt_le (b : List UInt8) : ∀ (m from_ i : Nat), b.length - i ≤ m → from_ ≤ i → i ≤ b.length → (cnt b from_ i).1 + (cnt b from_ i).2 ≤ b.length - from_ := by
  intro m
  induction m with
  | zero =>
    intro from_ i hm hf hi
    obtain rfl : i = b.length := by omega
    rw [cnt, if_neg (by omega)]
    unfold chunks
    dsimp only
    omega
  | succ m ih =>
    intro from_ i hm hf hi
    by_cases hlt : i < b.length
    · rw [cnt, if_pos hlt]
      rcases best_cases b i hi with h0 | ⟨h4, h200, hl, _⟩
      · rw [dif_pos h0]
        exact ih from_ (i + 1) (by omega) (by omega) (by omega)
      · rw [dif_neg (by omega)]
        have h1 := ih (i + (best b i).1) (i + (best b i).1) (by omega) (Nat.le_refl _) (by omega)
        unfold chunks
        dsimp only
        omega
    · obtain rfl : i = b.length := by omega
      rw [cnt, if_neg (by omega)]
      unfold chunks
      dsimp only
      omega
theorem cnt_first (b : List UInt8) : ∀ (m from_ i : Nat), b.length - i ≤ m → from_ < i → i ≤ b.length → 1 ≤ (cnt b from_ i).1 := by
  intro m
  induction m with
  | zero =>
    intro from_ i hm hf hi
    obtain rfl : i = b.length := by omega
    rw [cnt, if_neg (by omega)]
    unfold chunks
    dsimp only
    omega
  | succ m ih =>
    intro from_ i hm hf hi
    by_cases hlt : i < b.length
    · rw [cnt, if_pos hlt]
      by_cases h0 : (best b i).1 = 0
      · rw [dif_pos h0]
        exact ih from_ (i + 1) (by omega) (by omega) (by omega)
      · rw [dif_neg h0]
        unfold chunks
        dsimp only
        omega
    · obtain rfl : i = b.length := by omega
      rw [cnt, if_neg (by omega)]
      unfold chunks
      dsimp only
      omega
theorem cnt_pos (b : List UInt8) (h : 0 < b.length) : 1 ≤ (cnt b 0 0).1 := by
  rw [cnt, if_pos h]
  have e : (best b 0).1 = 0 := by simp [best, bestF]
  rw [dif_pos e]
  exact cnt_first b b.length 0 1 (by omega) (by omega) (by omega)
theorem cnt_nil : cnt [] 0 0 = (0, 0) := by rw [cnt]; simp [chunks]
/-- There are match tokens just if somewhere there is a likeness of four. -/
theorem cnt_none (b : List UInt8) : ∀ (m from_ i : Nat), b.length - i ≤ m → (cnt b from_ i).2 = 0 → ∀ j, i ≤ j → j < b.length → (best b j).1 = 0 := by
  intro m
  induction m with
  | zero => intro from_ i hm _ j h1 h2; omega
  | succ m ih =>
    intro from_ i hm hc j h1 h2
    rw [cnt, if_pos (by omega)] at hc
    by_cases h0 : (best b i).1 = 0
    · rw [dif_pos h0] at hc
      by_cases hj : j = i
      · rw [hj]; exact h0
      · exact ih from_ (i + 1) (by omega) hc j (by omega) h2
    · rw [dif_neg h0] at hc
      dsimp only at hc
      omega
theorem cnt_some (b : List UInt8) : ∀ (m from_ i : Nat), b.length - i ≤ m → (cnt b from_ i).2 ≠ 0 → ∃ j, j < b.length ∧ (best b j).1 ≠ 0 := by
  intro m
  induction m with
  | zero =>
    intro from_ i hm hc
    rw [cnt, if_neg (by omega)] at hc
    exact absurd rfl hc
  | succ m ih =>
    intro from_ i hm hc
    rw [cnt] at hc
    by_cases hi : i < b.length
    · rw [if_pos hi] at hc
      by_cases h0 : (best b i).1 = 0
      · rw [dif_pos h0] at hc
        exact ih from_ (i + 1) (by omega) hc
      · exact ⟨i, hi, h0⟩
    · rw [if_neg hi] at hc
      exact absurd rfl hc
theorem bestF_mono (b : List UInt8) (i : Nat) : ∀ k d r, r.1 ≤ (bestF b i k d r).1
  | 0, _, _ => Nat.le_refl _
  | k + 1, d, r => by
    unfold bestF
    refine Nat.le_trans ?_ (bestF_mono b i k (d + 1) _)
    split
    · rename_i h; dsimp only; omega
    · exact Nat.le_refl _
theorem bestF_all (b : List UInt8) (i : Nat) : ∀ k d r e, d ≤ e → e < d + k → 4 ≤ like b i e → like b i e ≤ (bestF b i k d r).1
  | 0, _, _, _, h1, h2, _ => by omega
  | k + 1, d, r, e, h1, h2, h4 => by
    unfold bestF
    by_cases he : e = d
    · subst he
      refine Nat.le_trans ?_ (bestF_mono b i k (e + 1) _)
      split
      · exact Nat.le_refl _
      · rename_i h; omega
    · exact bestF_all b i k (d + 1) _ e (by omega) (by omega) h4
theorem best_all (b : List UInt8) (i e : Nat) (h1 : 1 ≤ e) (h2 : e ≤ i) (h3 : e ≤ 4096) (h4 : 4 ≤ like b i e) : like b i e ≤ (best b i).1 :=
  bestF_all b i _ 1 _ e h1 (by omega) h4
theorem likeF_ge (b : List UInt8) (d : Nat) : ∀ (n f i : Nat), n ≤ f → i + n ≤ b.length → (∀ j, j < n → b[i + j]? = b[i + j - d]?) → n ≤ likeF b d f i
  | 0, _, _, _, _, _ => Nat.zero_le _
  | n + 1, 0, _, h, _, _ => by omega
  | n + 1, f + 1, i, h, hl, hq => by
    unfold likeF
    rw [if_pos ⟨by omega, hq 0 (by omega)⟩]
    have := likeF_ge b d n f (i + 1) (by omega) (by omega) (fun j hj => by rw [show i + 1 + j = i + (j + 1) by omega]; exact hq (j + 1) (by omega))
    omega
/-- Four bytes that stand at j stand again at i. -/
theorem twice_best (b : List UInt8) (i j : Nat) (hj : j < i) (hi : i + 4 ≤ b.length) (hb : b.length ≤ 4096) (h : ∀ k, k < 4 → b[i + k]? = b[j + k]?) : (best b i).1 ≠ 0 := by
  have h4 : 4 ≤ like b i (i - j) := likeF_ge b (i - j) 4 200 i (by omega) hi (fun k hk => by rw [show i + k - (i - j) = j + k by omega]; exact h k hk)
  have := best_all b i (i - j) (by omega) (by omega) (by omega) h4
  omega
theorem best_twice (b : List UInt8) (i : Nat) (hi : i ≤ b.length) (h : (best b i).1 ≠ 0) : i + 4 ≤ b.length ∧ ∃ j, j < i ∧ ∀ k, k < 4 → b[i + k]? = b[j + k]? := by
  rcases best_cases b i hi with h0 | ⟨h4, h200, hl, hd1, hdi, hd4, hq⟩
  · exact absurd h0 h
  · exact ⟨by omega, i - (best b i).2, by omega, fun k hk => by rw [hq k (by omega)]; congr 1; omega⟩
end Go.Proofs.Ytplkjljhpmldfaa.Pm

/-
  Plain mathematics of CRC-32: the table's entries, the register, the checksum, linearity, and that another byte gives another checksum.
-/
namespace Go.Proofs.Ytplkjljhpmldfaa.Cm

def step (n : Nat) : Nat := if n % 2 = 1 then (n / 2) ^^^ 3988292384 else n / 2
def iter : Nat → Nat → Nat
  | 0, n => n
  | k + 1, n => iter k (step n)
def ent (n : Nat) : Nat := iter 8 n
theorem step_odd (n : Nat) (h : n % 2 = 1) : step n = (n / 2) ^^^ 3988292384 := by unfold step; rw [if_pos h]
theorem step_even (n : Nat) (h : n % 2 = 0) : step n = n / 2 := by unfold step; rw [if_neg (by omega)]
theorem iter_succ (k n : Nat) : iter (k + 1) n = iter k (step n) := rfl
theorem xor_lt {a b : Nat} (ha : a < 4294967296) (hb : b < 4294967296) : a ^^^ b < 4294967296 := Nat.xor_lt_two_pow (n := 32) ha hb
theorem xor_lt8 {a b : Nat} (ha : a < 256) (hb : b < 256) : a ^^^ b < 256 := Nat.xor_lt_two_pow (n := 8) ha hb
theorem step_lt (n : Nat) (h : n < 4294967296) : step n < 4294967296 := by
  unfold step
  split
  · exact xor_lt (by omega) (by omega)
  · omega
theorem iter_lt : ∀ (k n : Nat), n < 4294967296 → iter k n < 4294967296
  | 0, _, h => h
  | k + 1, n, h => iter_lt k _ (step_lt n h)
theorem ent_lt (n : Nat) (h : n < 4294967296) : ent n < 4294967296 := iter_lt 8 n h

/-- The table. -/
def tab : List Nat := (List.range 256).map ent
theorem tab_len : tab.length = 256 := by simp [tab]
theorem tab_get (i : Nat) (h : i < 256) : tab[i]? = some (ent i) := by simp [tab, h]
theorem tab_getD (i : Nat) (h : i < 256) : tab.getD i 0 = ent i := by simp [List.getD, tab_get i h]
theorem tab_lt : ∀ x ∈ tab, x < 4294967296 := by
  intro x hx
  simp only [tab, List.mem_map, List.mem_range] at hx
  obtain ⟨i, hi, rfl⟩ := hx
  exact ent_lt i (by omega)

/-- A register is updated with a byte. -/
def upd (t : List Nat) (c : Nat) (x : UInt8) : Nat := t.getD (c % 256 ^^^ x.toNat) 0 ^^^ c / 256
def more (t : List Nat) (c : Nat) (l : List UInt8) : Nat := l.foldl (upd t) c
def sum (t : List Nat) (l : List UInt8) : Nat := 4294967295 ^^^ more t 4294967295 l
theorem more_nil (t : List Nat) (c : Nat) : more t c [] = c := rfl
theorem more_cons (t : List Nat) (c : Nat) (x : UInt8) (l : List UInt8) : more t c (x :: l) = more t (upd t c x) l := rfl
theorem more_append (t : List Nat) (c : Nat) (a b : List UInt8) : more t c (a ++ b) = more t (more t c a) b := by simp [more]
theorem idx_lt (c : Nat) (x : UInt8) : c % 256 ^^^ x.toNat < 256 := xor_lt8 (by omega) x.toNat_lt
theorem idx_ref (c : Nat) (x : UInt8) : (c ^^^ x.toNat) % 256 = c % 256 ^^^ x.toNat := by
  have h := Nat.xor_mod_two_pow (a := c) (b := x.toNat) (n := 8)
  have e : (2 : Nat) ^ 8 = 256 := by decide
  rw [e] at h
  have := x.toNat_lt
  rw [h, Nat.mod_eq_of_lt (a := x.toNat) (by omega)]
def Fits (t : List Nat) : Prop := ∀ x ∈ t, x < 4294967296
theorem getD_lt (t : List Nat) (h : Fits t) (i : Nat) : t.getD i 0 < 4294967296 := by
  simp only [List.getD]
  cases hi : t[i]? with
  | none => simp
  | some x => simpa using h x (List.mem_of_getElem? hi)
theorem upd_lt (t : List Nat) (h : Fits t) (c : Nat) (hc : c < 4294967296) (x : UInt8) : upd t c x < 4294967296 := xor_lt (getD_lt t h _) (by omega)
theorem more_lt (t : List Nat) (h : Fits t) : ∀ (l : List UInt8) (c : Nat), c < 4294967296 → more t c l < 4294967296
  | [], _, hc => hc
  | x :: l, c, hc => more_lt t h l _ (upd_lt t h c hc x)
theorem sum_lt (t : List Nat) (h : Fits t) (l : List UInt8) : sum t l < 4294967296 := xor_lt (by omega) (more_lt t h l _ (by omega))

/-- The four bytes of a checksum. -/
def byteAt (c i : Nat) : UInt8 := UInt8.ofNat (c / 256 ^ i)
def four (c : Nat) : List UInt8 := [byteAt c 0, byteAt c 1, byteAt c 2, byteAt c 3]
theorem byteAt_nat (c i : Nat) : (byteAt c i).toNat = c / 256 ^ i % 256 := by simp [byteAt]
theorem byteAt_int (c i : Nat) : ((byteAt c i).toNat : Int) = ((c / 256 ^ i % 256 : Nat) : Int) := by rw [byteAt_nat]
theorem byteAt_inj (c d : Nat) (hc : c < 4294967296) (hd : d < 4294967296) (h : ∀ i, i < 4 → byteAt c i = byteAt d i) : c = d := by
  have h0 := congrArg UInt8.toNat (h 0 (by omega))
  have h1 := congrArg UInt8.toNat (h 1 (by omega))
  have h2 := congrArg UInt8.toNat (h 2 (by omega))
  have h3 := congrArg UInt8.toNat (h 3 (by omega))
  rw [byteAt_nat, byteAt_nat] at h0 h1 h2 h3
  simp only [Nat.reducePow, Nat.pow_zero, Nat.div_one] at h0 h1 h2 h3
  omega
theorem four_len (c : Nat) : (four c).length = 4 := rfl
theorem four_get (c i : Nat) (h : i < 4) : (four c)[i]? = some (byteAt c i) := by
  match i, h with
  | 0, _ => rfl
  | 1, _ => rfl
  | 2, _ => rfl
  | 3, _ => rfl

/-- One byte that is another. -/
theorem xor_cancel {a b c : Nat} (h : a ^^^ b = a ^^^ c) : b = c := by
  have e : a ^^^ (a ^^^ b) = a ^^^ (a ^^^ c) := by rw [h]
  rw [← Nat.xor_assoc, ← Nat.xor_assoc, Nat.xor_self, Nat.zero_xor, Nat.zero_xor] at e
  exact e
theorem xor_cancel' {a b c : Nat} (h : b ^^^ a = c ^^^ a) : b = c := by
  rw [Nat.xor_comm b, Nat.xor_comm c] at h
  exact xor_cancel h
theorem tops : (List.range 256).all (fun i => (List.range 256).all fun j => i == j || ent i / 16777216 != ent j / 16777216) = true := by decide +kernel
theorem top_inj (i j : Nat) (hi : i < 256) (hj : j < 256) (h : ent i / 16777216 = ent j / 16777216) : i = j := by
  have h1 := List.all_eq_true.1 tops i (List.mem_range.2 hi)
  have h2 := List.all_eq_true.1 h1 j (List.mem_range.2 hj)
  simp only [Bool.or_eq_true, beq_iff_eq, bne_iff_ne, ne_eq] at h2
  rcases h2 with h2 | h2
  · exact h2
  · exact absurd h h2
theorem upd_top (c : Nat) (hc : c < 4294967296) (x : UInt8) : upd tab c x / 16777216 = ent (c % 256 ^^^ x.toNat) / 16777216 := by
  unfold upd
  rw [tab_getD _ (idx_lt c x)]
  have h := Nat.xor_div_two_pow (a := ent (c % 256 ^^^ x.toNat)) (b := c / 256) (n := 24)
  have e : (2 : Nat) ^ 24 = 16777216 := by decide
  rw [e] at h
  rw [h, Nat.div_eq_of_lt (a := c / 256) (by omega), Nat.xor_zero]
theorem upd_inj (c d : Nat) (hc : c < 4294967296) (hd : d < 4294967296) (x : UInt8) (h : upd tab c x = upd tab d x) : c = d := by
  have ht := congrArg (· / 16777216) h
  simp only [upd_top c hc, upd_top d hd] at ht
  have hi := top_inj _ _ (idx_lt c x) (idx_lt d x) ht
  unfold upd at h
  rw [hi] at h
  have h1 := xor_cancel h
  have h2 := xor_cancel' hi
  omega
theorem upd_ne (c : Nat) (hc : c < 4294967296) (x y : UInt8) (h : x ≠ y) : upd tab c x ≠ upd tab c y := by
  intro e
  have ht := congrArg (· / 16777216) e
  simp only [upd_top c hc] at ht
  have hi := top_inj _ _ (idx_lt c x) (idx_lt c y) ht
  exact h (UInt8.toNat_inj.1 (xor_cancel hi))
theorem more_inj : ∀ (l : List UInt8) (c d : Nat), c < 4294967296 → d < 4294967296 → more tab c l = more tab d l → c = d
  | [], _, _, _, _, h => h
  | x :: l, c, d, hc, hd, h => upd_inj c d hc hd x (more_inj l _ _ (upd_lt tab tab_lt c hc x) (upd_lt tab tab_lt d hd x) h)
theorem more_ne (c : Nat) (hc : c < 4294967296) (a b : List UInt8) (x y : UInt8) (h : x ≠ y) : more tab c (a ++ x :: b) ≠ more tab c (a ++ y :: b) := by
  intro e
  rw [more_append, more_append, more_cons, more_cons] at e
  have hm := more_lt tab tab_lt a c hc
  exact upd_ne _ hm x y h (more_inj b _ _ (upd_lt tab tab_lt _ hm x) (upd_lt tab tab_lt _ hm y) e)
/-- The checksum of bytes with another one at place k is another. -/
theorem sum_set_ne (l : List UInt8) (k : Nat) (hk : k < l.length) (y : UInt8) (h : l[k] ≠ y) : sum tab (l.set k y) ≠ sum tab l := by
  intro e
  have e1 := xor_cancel e
  have hs : l.set k y = l.take k ++ y :: l.drop (k + 1) := by rw [List.set_eq_take_append_cons_drop, if_pos hk]
  have hl : l.take k ++ l[k] :: l.drop (k + 1) = l := by rw [← List.drop_eq_getElem_cons hk, List.take_append_drop]
  rw [hs] at e1
  have e2 : more tab 4294967295 (l.take k ++ y :: l.drop (k + 1)) = more tab 4294967295 (l.take k ++ l[k] :: l.drop (k + 1)) := by rw [e1, hl]
  exact more_ne _ (by omega) _ _ _ _ (fun q => h q.symm) e2

/-- Lines. -/
theorem step_xor (a b : Nat) : step (a ^^^ b) = step a ^^^ step b := by
  have h2 : (a ^^^ b) / 2 = a / 2 ^^^ b / 2 := Nat.xor_div_two
  have h1 := @Nat.xor_mod_two_eq_one a b
  unfold step
  rw [h2]
  by_cases ha : a % 2 = 1 <;> by_cases hb : b % 2 = 1
  · rw [if_neg (by rw [h1]; simp [ha, hb]), if_pos ha, if_pos hb]
    have : a / 2 ^^^ 3988292384 ^^^ (b / 2 ^^^ 3988292384) = a / 2 ^^^ b / 2 ^^^ (3988292384 ^^^ 3988292384) := by ac_rfl
    rw [this, Nat.xor_self, Nat.xor_zero]
  · rw [if_pos (by rw [h1]; simp [ha, hb]), if_pos ha, if_neg hb]; ac_rfl
  · rw [if_pos (by rw [h1]; simp [ha, hb]), if_neg ha, if_pos hb]; ac_rfl
  · rw [if_neg (by rw [h1]; simp [ha, hb]), if_neg ha, if_neg hb]
theorem iter_xor : ∀ (k a b : Nat), iter k (a ^^^ b) = iter k a ^^^ iter k b
  | 0, _, _ => rfl
  | k + 1, a, b => by rw [iter_succ, iter_succ, iter_succ, step_xor, iter_xor k]
theorem ent_xor (a b : Nat) : ent (a ^^^ b) = ent a ^^^ ent b := iter_xor 8 a b
theorem upd_xor (c d : Nat) (x y : UInt8) : upd tab (c ^^^ d) (x ^^^ y) = upd tab c x ^^^ upd tab d y := by
  unfold upd
  rw [tab_getD _ (idx_lt _ _), tab_getD _ (idx_lt _ _), tab_getD _ (idx_lt _ _)]
  have e8 : (2 : Nat) ^ 8 = 256 := by decide
  have hd := Nat.xor_div_two_pow (a := c) (b := d) (n := 8)
  have hm := Nat.xor_mod_two_pow (a := c) (b := d) (n := 8)
  rw [e8] at hd hm
  rw [hd, hm, UInt8.toNat_xor]
  have : c % 256 ^^^ d % 256 ^^^ (x.toNat ^^^ y.toNat) = (c % 256 ^^^ x.toNat) ^^^ (d % 256 ^^^ y.toNat) := by ac_rfl
  rw [this, ent_xor]
  ac_rfl
def xor3 : List UInt8 → List UInt8 → List UInt8 → List UInt8
  | x :: a, y :: b, z :: c => (x ^^^ y ^^^ z) :: xor3 a b c
  | _, _, _ => []
theorem more_xor3 : ∀ (a b c : List UInt8) (p q r : Nat), b.length = a.length → c.length = a.length → more tab (p ^^^ q ^^^ r) (xor3 a b c) = more tab p a ^^^ more tab q b ^^^ more tab r c
  | [], [], [], p, q, r, _, _ => rfl
  | x :: a, y :: b, z :: c, p, q, r, hb, hc => by
    simp only [xor3, more_cons, upd_xor]
    exact more_xor3 a b c _ _ _ (by simpa using hb) (by simpa using hc)
  | x :: a, [], _, _, _, _, hb, _ => by simp at hb
  | x :: a, y :: b, [], _, _, _, _, hc => by simp at hc
  | [], _ :: _, _, _, _, _, hb, _ => by simp at hb
  | [], [], _ :: _, _, _, _, _, hc => by simp at hc
theorem ff3 : (4294967295 : Nat) ^^^ 4294967295 ^^^ 4294967295 = 4294967295 := by decide
theorem sum_xor3 (a b c : List UInt8) (hb : b.length = a.length) (hc : c.length = a.length) : sum tab a ^^^ sum tab b ^^^ sum tab c = sum tab (xor3 a b c) := by
  have h := more_xor3 a b c 4294967295 4294967295 4294967295 hb hc
  rw [ff3] at h
  unfold sum
  rw [h]
  have : ∀ u p q r : Nat, u ^^^ p ^^^ (u ^^^ q) ^^^ (u ^^^ r) = (u ^^^ u ^^^ u) ^^^ (p ^^^ q ^^^ r) := fun u p q r => by ac_rfl
  rw [this, ff3]
theorem xor3_snoc : ∀ (a b c : List UInt8) (k : Nat) (x y z : UInt8), a[k]? = some x → b[k]? = some y → c[k]? = some z → xor3 (a.take (k + 1)) (b.take (k + 1)) (c.take (k + 1)) = xor3 (a.take k) (b.take k) (c.take k) ++ [x ^^^ y ^^^ z]
  | x' :: a, y' :: b, z' :: c, 0, x, y, z, h1, h2, h3 => by
    simp at h1 h2 h3
    subst h1 h2 h3
    simp [xor3]
  | x' :: a, y' :: b, z' :: c, k + 1, x, y, z, h1, h2, h3 => by
    simp only [List.take_succ_cons, xor3, List.cons_append]
    rw [xor3_snoc a b c k x y z (by simpa using h1) (by simpa using h2) (by simpa using h3)]
  | [], _, _, _, _, _, _, h, _, _ => by simp at h
  | _ :: _, [], _, _, _, _, _, _, h, _ => by simp at h
  | _ :: _, _ :: _, [], _, _, _, _, _, _, h => by simp at h
theorem xor3_len : ∀ (a b c : List UInt8), b.length = a.length → c.length = a.length → (xor3 a b c).length = a.length
  | [], [], [], _, _ => rfl
  | x :: a, y :: b, z :: c, hb, hc => by simp only [xor3, List.length_cons]; rw [xor3_len a b c (by simpa using hb) (by simpa using hc)]
  | x :: a, [], _, hb, _ => by simp at hb
  | x :: a, y :: b, [], _, hc => by simp at hc
  | [], _ :: _, _, hb, _ => by simp at hb
  | [], [], _ :: _, _, hc => by simp at hc

/-- Sealing and opening. -/
def sealS (t : List Nat) (l : List UInt8) : List UInt8 × Nat := if t.length = 256 then (l ++ four (sum t l), 0) else ([], 1)
def openS (t : List Nat) (l : List UInt8) : List UInt8 × Nat :=
  if t.length = 256 then
    if l.length < 4 then ([], 2)
    else if l.drop (l.length - 4) = four (sum t (l.take (l.length - 4))) then (l.take (l.length - 4), 0) else ([], 4)
  else ([], 1)
theorem open_seal (t : List Nat) (ht : t.length = 256) (l : List UInt8) : openS t (l ++ four (sum t l)) = (l, 0) := by
  unfold openS
  have hl : (l ++ four (sum t l)).length - 4 = l.length := by simp [four_len]
  rw [if_pos ht, if_neg (by simp [four_len]), hl, List.drop_left' rfl, List.take_left' rfl, if_pos rfl]
/-- One other byte is found. -/
theorem open_spoilt (l : List UInt8) (k : Nat) (hk : k < l.length + 4) (y : UInt8) (h : (l ++ four (sum tab l))[k]? ≠ some y) : openS tab ((l ++ four (sum tab l)).set k y) = ([], 4) := by
  unfold openS
  have hlen : ((l ++ four (sum tab l)).set k y).length = l.length + 4 := by simp [four_len]
  rw [if_pos tab_len, hlen, if_neg (by omega)]
  have hn : l.length + 4 - 4 = l.length := by omega
  rw [hn]
  by_cases hk1 : k < l.length
  · rw [List.set_append_left _ _ hk1, List.drop_left' (by simp), List.take_left' (by simp)]
    rw [List.getElem?_append_left hk1, List.getElem?_eq_getElem hk1] at h
    have h1 : l[k] ≠ y := fun e => h (by rw [e])
    have h2 := sum_set_ne l k hk1 y h1
    rw [if_neg]
    intro e
    refine h2 (byteAt_inj _ _ (sum_lt _ tab_lt _) (sum_lt _ tab_lt _) fun i hi => ?_)
    have a := four_get (sum tab l) i hi
    have b := four_get (sum tab (l.set k y)) i hi
    rw [e, b] at a
    exact (Option.some.inj a)
  · rw [List.set_append_right _ _ (by omega), List.drop_left' rfl, List.take_left' rfl]
    rw [List.getElem?_append_right (by omega)] at h
    rw [if_neg]
    intro e
    have hk3 : k - l.length < (four (sum tab l)).length := by rw [four_len]; omega
    apply h
    rw [← e, List.getElem?_set_self hk3]
end Go.Proofs.Ytplkjljhpmldfaa.Cm

/-
  Plain mathematics of layer 3 (press): a run of one byte comes to little; a text said twice comes to not much more than said once.
-/
namespace Go.Proofs.Ytplkjljhpmldfaa.Pm
open Vm

theorem pressGo_end (b : List UInt8) (f : Nat) : pressGo b f b.length = asB (b.drop f) := by rw [pressGo, if_neg (by omega)]
theorem pressGo_at (b : List UInt8) (f i : Nat) (h : i = b.length) : pressGo b f i = asB (b.drop f) := by subst h; exact pressGo_end b f
theorem pressGo_match (b : List UInt8) (f i : Nat) (h : i < b.length) (h0 : (best b i).1 ≠ 0) :
    pressGo b f i = asB ((b.take i).drop f) ++ (vb (2 * ((best b i).1 - 4) + 1) ++ (vb (best b i).2 ++ pressGo b (i + (best b i).1) (i + (best b i).1))) := by rw [pressGo, if_pos h, dif_neg h0]
theorem pressGo_lit (b : List UInt8) (f i : Nat) (h : i < b.length) (h0 : (best b i).1 = 0) : pressGo b f i = pressGo b f (i + 1) := by rw [pressGo, if_pos h, dif_pos h0]
/-- Fewer than four bytes are left: they are literals. -/
theorem pressGo_few (b : List UInt8) : ∀ (m f i : Nat), b.length - i ≤ m → f ≤ i → i ≤ b.length → b.length < i + 4 → pressGo b f i = asB (b.drop f) := by
  intro m
  induction m with
  | zero => intro f i hm hf hi h4; exact pressGo_at b f i (by omega)
  | succ m ih =>
    intro f i hm hf hi h4
    by_cases hlt : i < b.length
    · rw [pressGo, if_pos hlt]
      rcases best_cases b i hi with h0 | ⟨h1, _, h2, _⟩
      · rw [dif_pos h0]; exact ih f (i + 1) (by omega) (by omega) (by omega) (by omega)
      · omega
    · exact pressGo_at b f i (by omega)
/-- The rest is one likeness. -/
theorem pressGo_rest (b : List UInt8) (f i d : Nat) (hf : f ≤ i) (hi : i ≤ b.length) (h4 : i + 4 ≤ b.length) (h200 : b.length ≤ i + 200) (hd : 1 ≤ d) (hdi : d ≤ i) (hd4 : d ≤ 4096) (h : ∀ j, i + j < b.length → b[i + j]? = b[i + j - d]?) :
    (pressGo b f i).length ≤ (i - f) + chunks (i - f) + 4 := by
  have hl : b.length - i ≤ like b i d := likeF_ge b d (b.length - i) 200 i (by omega) (by omega) (fun j hj => h j (by omega))
  have h1 := best_all b i d hd hdi hd4 (by omega)
  rcases best_cases b i hi with h0 | ⟨h2, h3, h5, h6, h7, h8, _⟩
  · omega
  · have e : i + (best b i).1 = b.length := by omega
    have e1 : (vb (2 * ((best b i).1 - 4) + 1)).length ≤ 2 := vb_len_le 1 _ (by omega)
    have e2 : (vb (best b i).2).length ≤ 2 := vb_len_le 1 _ (by omega)
    have e3 : asB (b.drop (i + (best b i).1)) = [] := by rw [List.drop_of_length_le (by omega), asB_nil]
    rw [pressGo_match b f i (by omega) (by omega), pressGo_at b _ _ e, e3, List.append_nil, List.length_append, List.length_append, asB_len _ _ (Nat.le_refl _), List.length_drop, List.length_take, Nat.min_eq_left hi]
    omega

/-- A run. -/
theorem run_get (n : Nat) (c : UInt8) (i : Nat) (h : i < n) : (List.replicate n c)[i]? = some c := by simp [h]
theorem run_len (n : Nat) (c : UInt8) : ∀ (m i : Nat), n - i ≤ m → 1 ≤ i → i ≤ n → (pressGo (List.replicate n c) i i).length ≤ 3 * ((n - i) / 200) + 4 := by
  intro m
  have hlen : (List.replicate n c).length = n := List.length_replicate
  induction m with
  | zero =>
    intro i hm h1 hi
    rw [pressGo_at _ _ _ (by omega), asB_len _ _ (Nat.le_refl _), List.length_drop, hlen]
    unfold chunks
    omega
  | succ m ih =>
    intro i hm h1 hi
    by_cases h4 : n < i + 4
    · rw [pressGo_few _ n i i (by omega) (Nat.le_refl _) (by omega) (by omega), asB_len _ _ (Nat.le_refl _), List.length_drop, hlen]
      unfold chunks
      omega
    · by_cases h2 : n ≤ i + 200
      · have := pressGo_rest (List.replicate n c) i i 1 (Nat.le_refl _) (by omega) (by omega) (by omega) (by omega) h1 (by omega) (fun j hj => by rw [run_get n c _ (by omega), run_get n c _ (by omega)])
        unfold chunks at this
        omega
      · have hl : 200 ≤ like (List.replicate n c) i 1 := likeF_ge _ 1 200 200 i (by omega) (by omega) (fun j hj => by rw [run_get n c _ (by omega), run_get n c _ (by omega)])
        have hb := best_all (List.replicate n c) i 1 (by omega) h1 (by omega) (by omega)
        rcases best_cases (List.replicate n c) i (by omega) with h0 | ⟨h5, h6, h7, h8, h9, h10, _⟩
        · omega
        · have e : (best (List.replicate n c) i).1 = 200 := by omega
          have e3 : (best (List.replicate n c) i).2 = 1 := run_dist n c i h1 (by omega)
          rw [pressGo_match _ _ _ (by omega) (by omega), e, e3]
          have h11 := ih (i + 200) (by omega) (by omega) (by omega)
          have e1 : (vb (2 * (200 - 4) + 1)).length ≤ 2 := vb_len_le 1 _ (by omega)
          have e2 : (vb 1).length = 1 := by rw [vb_lt 1 (by omega)]; rfl
          rw [List.length_append, List.length_append, List.length_append, e2, asB_len _ _ (Nat.le_refl _), List.length_drop, List.length_take, hlen]
          unfold chunks
          omega
where
  run_dist (n : Nat) (c : UInt8) (i : Nat) (h1 : 1 ≤ i) (h2 : i + 200 < n) : (best (List.replicate n c) i).2 = 1 := by
    have hl : like (List.replicate n c) i 1 = 200 := by
      have h3 : 200 ≤ like (List.replicate n c) i 1 := likeF_ge _ 1 200 200 i (by omega) (by simp; omega) (fun j hj => by rw [run_get n c _ (by omega), run_get n c _ (by omega)])
      have h4 := like_le (List.replicate n c) i 1
      omega
    unfold best
    obtain ⟨k, hk⟩ : ∃ k, min i 4096 = k + 1 := ⟨min i 4096 - 1, by omega⟩
    rw [hk]
    unfold bestF
    rw [hl, if_pos ⟨by omega, by dsimp only; omega⟩]
    exact stay (List.replicate n c) i k 2 (200, 1) (by dsimp only; omega)
  stay (b : List UInt8) (i : Nat) : ∀ k d (r : Nat × Nat), 200 ≤ r.1 → (bestF b i k d r).2 = r.2
    | 0, _, _, _ => rfl
    | k + 1, d, r, h => by
      unfold bestF
      rw [if_neg (by have := like_le b i d; omega)]
      exact stay b i k (d + 1) r h
theorem run_press (n : Nat) (c : UInt8) (hn : n < 4000) : (pressS (List.replicate n c)).length ≤ 10 + 3 * (n / 200 + 1) := by
  have hlen : (List.replicate n c).length = n := List.length_replicate
  have e0 : (vb n).length ≤ 2 := vb_len_le 1 _ (by omega)
  unfold pressS
  rw [List.length_append, hlen]
  by_cases h0 : n = 0
  · subst h0
    rw [pressGo_at (List.replicate 0 c) 0 0 rfl, show (List.replicate 0 c).drop 0 = [] from rfl, asB_nil, List.length_nil]
    omega
  · have eb : (best (List.replicate n c) 0).1 = 0 := by simp [best, bestF]
    rw [pressGo_lit _ 0 0 (by omega) eb]
    show (vb n).length + (pressGo (List.replicate n c) 0 1).length ≤ _
    by_cases h4 : n < 5
    · rw [pressGo_few _ n 0 1 (by omega) (by omega) (by omega) (by omega), asB_len _ _ (Nat.le_refl _), List.length_drop, hlen]
      unfold chunks
      omega
    · have h5 : (pressGo (List.replicate n c) 0 1).length ≤ (pressGo (List.replicate n c) 1 1).length + 2 := by
        have hb : (best (List.replicate n c) 1).1 ≠ 0 := by
          have hl : 4 ≤ like (List.replicate n c) 1 1 := likeF_ge _ 1 4 200 1 (by omega) (by omega) (fun j hj => by rw [run_get n c _ (by omega), run_get n c _ (by omega)])
          have := best_all (List.replicate n c) 1 1 (by omega) (by omega) (by omega) hl
          omega
        rw [pressGo_match _ 0 1 (by omega) hb, pressGo_match _ 1 1 (by omega) hb]
        rw [List.length_append, List.length_append (as := asB (((List.replicate n c).take 1).drop 1)), asB_len _ _ (Nat.le_refl _), asB_len _ _ (Nat.le_refl _), List.length_drop, List.length_drop, List.length_take, hlen]
        unfold chunks
        omega
      have h6 := run_len n c n 1 (by omega) (by omega) (by omega)
      omega

/-- A text said twice. -/
theorem twice_get (s : List UInt8) (i : Nat) (h : i < s.length) : (s ++ s)[i]? = s[i]? := List.getElem?_append_left h
theorem twice_get' (s : List UInt8) (i : Nat) (h : s.length ≤ i) : (s ++ s)[i]? = s[i - s.length]? := List.getElem?_append_right h
theorem twice_likeF (s : List UInt8) (d : Nat) (hd : 1 ≤ d) : ∀ f i, i ≤ s.length → likeF (s ++ s) d f i = likeF s d f i ∨ s.length < i + likeF (s ++ s) d f i
  | 0, _, _ => .inl rfl
  | f + 1, i, hi => by
    by_cases hlt : i < s.length
    · have e1 : (s ++ s)[i]? = s[i]? := twice_get s i hlt
      have e2 : (s ++ s)[i - d]? = s[i - d]? := twice_get s (i - d) (by omega)
      unfold likeF
      rw [e1, e2]
      by_cases h : s[i]? = s[i - d]?
      · rw [if_pos ⟨by simp; omega, h⟩, if_pos ⟨hlt, h⟩]
        rcases twice_likeF s d hd f (i + 1) (by omega) with h1 | h1
        · exact .inl (by rw [h1])
        · exact .inr (by omega)
      · rw [if_neg (fun q => h q.2), if_neg (fun q => h q.2)]
        exact .inl rfl
    · have e : likeF s d (f + 1) i = 0 := by unfold likeF; rw [if_neg (fun q => hlt q.1)]
      rw [e]
      by_cases h0 : likeF (s ++ s) d (f + 1) i = 0
      · exact .inl h0
      · exact .inr (by omega)
theorem bestF_congr (b s : List UInt8) (i : Nat) : ∀ k d r, (∀ e, d ≤ e → e < d + k → like b i e = like s i e ∨ (like b i e < 4 ∧ like s i e < 4)) → bestF b i k d r = bestF s i k d r
  | 0, _, _, _ => rfl
  | k + 1, d, r, h => by
    unfold bestF
    have e : (if 4 ≤ like b i d ∧ r.1 < like b i d then (like b i d, d) else r) = (if 4 ≤ like s i d ∧ r.1 < like s i d then (like s i d, d) else r) := by
      rcases h d (Nat.le_refl _) (by omega) with h1 | ⟨h1, h2⟩
      · rw [h1]
      · rw [if_neg (by omega), if_neg (by omega)]
    rw [e]
    exact bestF_congr b s i k (d + 1) _ fun e h1 h2 => h e (by omega) (by omega)
/-- The same likeness is found, or one that goes beyond the first text. -/
theorem twice_best_or (s : List UInt8) (i : Nat) (hi : i ≤ s.length) : best (s ++ s) i = best s i ∨ ((best (s ++ s) i).1 ≠ 0 ∧ s.length < i + (best (s ++ s) i).1) := by
  by_cases h : ∃ e, 1 ≤ e ∧ e < 1 + min i 4096 ∧ s.length < i + like (s ++ s) i e ∧ 4 ≤ like (s ++ s) i e
  · obtain ⟨e, h1, h2, h3, h4⟩ := h
    have := best_all (s ++ s) i e h1 (by omega) (by omega) h4
    exact .inr ⟨by omega, by omega⟩
  · refine .inl (bestF_congr _ _ i _ 1 _ fun e h1 h2 => ?_)
    rcases twice_likeF s e h1 200 i hi with h3 | h3
    · exact .inl h3
    · have h5 : like (s ++ s) i e < 4 := by
        rcases Nat.lt_or_ge (like (s ++ s) i e) 4 with h' | h'
        · exact h'
        · exact absurd ⟨e, h1, h2, h3, h'⟩ h
      have h6 : i + like s i e ≤ s.length := like_len s i e hi
      have h7 : s.length < i + like (s ++ s) i e := h3
      exact .inr ⟨h5, by omega⟩
theorem pressGo_ge (s : List UInt8) : ∀ (m f i : Nat), s.length - i ≤ m → f ≤ i → i ≤ s.length → (i - f) + chunks (i - f) ≤ (pressGo s f i).length := by
  have last : ∀ f i, i = s.length → (i - f) + chunks (i - f) ≤ (pressGo s f i).length := by
    intro f i hi
    rw [pressGo_at s f i hi, asB_len _ _ (Nat.le_refl _), List.length_drop, hi]
    exact Nat.le_refl _
  intro m
  induction m with
  | zero => intro f i hm hf hi; exact last f i (by omega)
  | succ m ih =>
    intro f i hm hf hi
    by_cases hlt : i < s.length
    · by_cases h0 : (best s i).1 = 0
      · rw [pressGo_lit s f i hlt h0]
        have := ih f (i + 1) (by omega) (by omega) (by omega)
        unfold chunks at *
        omega
      · rw [pressGo_match s f i hlt h0, List.length_append, asB_len _ _ (Nat.le_refl _), List.length_drop, List.length_take, Nat.min_eq_left hi]
        omega
    · exact last f i (by omega)
theorem twice_len (s : List UInt8) (h100 : 100 ≤ s.length) (h200 : s.length ≤ 200) : ∀ (m f i : Nat), s.length - i ≤ m → f ≤ i → i ≤ s.length → (pressGo (s ++ s) f i).length ≤ (pressGo s f i).length + 8 := by
  have hl2 : (s ++ s).length = s.length + s.length := List.length_append
  have hrep : ∀ p j, s.length ≤ p → p + j < (s ++ s).length → (s ++ s)[p + j]? = (s ++ s)[p + j - s.length]? := by
    intro p j hp hj
    rw [twice_get' s (p + j) (by omega), twice_get s (p + j - s.length) (by omega)]
  have tail : ∀ p, s.length ≤ p → p ≤ (s ++ s).length → (pressGo (s ++ s) p p).length ≤ 4 := by
    intro p hp hp2
    by_cases h4 : (s ++ s).length < p + 4
    · rw [pressGo_few (s ++ s) _ p p (Nat.le_refl _) (Nat.le_refl _) hp2 h4, asB_len _ _ (Nat.le_refl _), List.length_drop]
      unfold chunks
      omega
    · have := pressGo_rest (s ++ s) p p s.length (Nat.le_refl _) hp2 (by omega) (by omega) (by omega) hp (by omega) (fun j hj => hrep p j hp hj)
      unfold chunks at this
      omega
  have last : ∀ f i, f ≤ i → i = s.length → (pressGo (s ++ s) f i).length ≤ (pressGo s f i).length + 8 := by
    intro f i hf hi
    have h1 := pressGo_rest (s ++ s) f i s.length hf (by omega) (by omega) (by omega) (by omega) (by omega) (by omega) (fun j hj => hrep i j (by omega) hj)
    have h2 := pressGo_ge s s.length f i (by omega) hf (by omega)
    omega
  intro m
  induction m with
  | zero => intro f i hm hf hi; exact last f i hf (by omega)
  | succ m ih =>
    intro f i hm hf hi
    by_cases hlt : i < s.length
    · rcases twice_best_or s i hi with he | ⟨hn, hgt⟩
      · by_cases h0 : (best s i).1 = 0
        · rw [pressGo_lit s f i hlt h0, pressGo_lit (s ++ s) f i (by omega) (by rw [he]; exact h0)]
          exact ih f (i + 1) (by omega) (by omega) (by omega)
        · have hl := best_cases s i hi
          rcases hl with hl | ⟨h4, _, hl, _⟩
          · exact absurd hl h0
          · rw [pressGo_match s f i hlt h0, pressGo_match (s ++ s) f i (by omega) (by rw [he]; exact h0), he]
            have h1 := ih (i + (best s i).1) (i + (best s i).1) (by omega) (Nat.le_refl _) hl
            have e1 : (s ++ s).take i = s.take i := List.take_append_of_le_length hi
            rw [e1]
            simp only [List.length_append]
            omega
      · have h2 := pressGo_ge s s.length f i (by omega) hf (by omega)
        rcases best_cases (s ++ s) i (by omega) with h0 | ⟨h4, h5, hl, h6, h7, h8, _⟩
        · exact absurd h0 hn
        · have h3 := tail (i + (best (s ++ s) i).1) (by omega) hl
          have e1 : (vb (2 * ((best (s ++ s) i).1 - 4) + 1)).length ≤ 2 := vb_len_le 1 _ (by omega)
          have e2 : (vb (best (s ++ s) i).2).length ≤ 2 := vb_len_le 1 _ (by omega)
          rw [pressGo_match (s ++ s) f i (by omega) hn, List.length_append, List.length_append, List.length_append, asB_len _ _ (Nat.le_refl _), List.length_drop, List.length_take, Nat.min_eq_left (by omega)]
          omega
    · exact last f i hf (by omega)
theorem twice_press (s : List UInt8) (h100 : 100 ≤ s.length) (h200 : s.length ≤ 200) : (pressS (s ++ s)).length ≤ (pressS s).length + 12 := by
  have h1 := twice_len s h100 h200 s.length 0 0 (by omega) (Nat.le_refl _) (Nat.zero_le _)
  have h2 : (vb (s ++ s).length).length ≤ 2 := vb_len_le 1 _ (by simp; omega)
  unfold pressS
  rw [List.length_append, List.length_append (as := vb s.length)]
  omega

/-- What the longest likeness is, said without a search. -/
theorem bestF_stay (b : List UInt8) (i : Nat) : ∀ k d (r : Nat × Nat), (∀ e, d ≤ e → e < d + k → like b i e ≤ r.1 ∨ like b i e < 4) → bestF b i k d r = r
  | 0, _, _, _ => rfl
  | k + 1, d, r, h => by
    unfold bestF
    rw [if_neg (by have := h d (Nat.le_refl _) (by omega); omega)]
    exact bestF_stay b i k (d + 1) r fun e h1 h2 => h e (by omega) (by omega)
theorem bestF_char (b : List UInt8) (i n t : Nat) (h4 : 4 ≤ n) (ht : like b i t = n) : ∀ k d (r : Nat × Nat), d ≤ t → t < d + k → r.1 < n → (∀ e, d ≤ e → e < d + k → like b i e ≤ n) → (∀ e, d ≤ e → e < t → like b i e < n) → bestF b i k d r = (n, t)
  | 0, _, _, h1, h2, _, _, _ => by omega
  | k + 1, d, r, h1, h2, hr, hle, hlt => by
    unfold bestF
    by_cases hd : d = t
    · subst hd
      rw [ht, if_pos ⟨h4, hr⟩]
      exact bestF_stay b i k (d + 1) _ fun e h3 h5 => .inl (hle e (by omega) (by omega))
    · have h3 := hlt d (Nat.le_refl _) (by omega)
      refine bestF_char b i n t h4 ht k (d + 1) _ (by omega) (by omega) ?_ (fun e h5 h6 => hle e (by omega) (by omega)) (fun e h5 h6 => hlt e (by omega) h6)
      split
      · exact h3
      · exact hr
theorem best_char (b : List UInt8) (i n t : Nat) (h4 : 4 ≤ n) (ht : like b i t = n) (h1 : 1 ≤ t) (h2 : t ≤ i) (h3 : t ≤ 4096) (hle : ∀ e, 1 ≤ e → e ≤ i → e ≤ 4096 → like b i e ≤ n) (hlt : ∀ e, 1 ≤ e → e < t → like b i e < n) : best b i = (n, t) :=
  bestF_char b i n t h4 ht _ 1 _ h1 (by omega) (by dsimp only; omega) (fun e h5 h6 => hle e h5 (by omega) (by omega)) (fun e h5 h6 => hlt e h5 h6)
theorem best_none (b : List UInt8) (i : Nat) (h : ∀ e, 1 ≤ e → e ≤ i → e ≤ 4096 → like b i e < 4) : best b i = (0, 0) :=
  bestF_stay b i _ 1 _ fun e h1 h2 => .inr (h e h1 (by omega) (by omega))
end Go.Proofs.Ytplkjljhpmldfaa.Pm
