set_option maxRecDepth 100000
set_option maxHeartbeats 4000000
namespace Go.Proofs.YtkekmokdlgocaaaGreatDoor
namespace Vm
def vb (n : Nat) : List UInt8 := if n < 128 then [UInt8.ofNat n] else UInt8.ofNat (n % 128 + 128) :: vb (n / 128)
termination_by n
decreasing_by omega
theorem vb_lt (n : Nat) (h : n < 128) : vb n = [UInt8.ofNat n] := by rw [vb, if_pos h]
theorem vb_ge (n : Nat) (h : 128 ≤ n) : vb n = UInt8.ofNat (n % 128 + 128) :: vb (n / 128) := by rw [vb, if_neg (by omega)]
theorem vb_pos (n : Nat) : 1 ≤ (vb n).length := by
 by_cases h : n < 128
 ·rw [vb_lt n h]; simp
 ·rw [vb_ge n (by omega)]; simp
theorem vb_len_le : ∀ (k n : Nat), n < 128 ^ (k + 1) → (vb n).length ≤ k + 1
 | 0, n, h => by rw [vb_lt n (by simpa using h)]; simp
 | k + 1, n, h => by
  by_cases h1 : n < 128
  ·rw [vb_lt n h1]; simp
  ·rw [vb_ge n (by omega)]
   have := vb_len_le k (n / 128) (by rw [Nat.div_lt_iff_lt_mul (by omega)]; rw [Nat.pow_succ] at h; exact h)
   simp; omega
def dn : Nat → Nat → List UInt8 → Nat × Nat × Nat
 | _, _, [] => (0, 0, 2)
 | i, acc, c :: r =>
  if c.toNat < 128 then
   if 0 < i ∧ c.toNat = 0 ∨ i = 9 ∧ 1 < c.toNat then (0, 0, 3) else (acc + c.toNat * 128 ^ i, i + 1, 0)
  else if i = 9 then (0, 0, 3) else dn (i + 1) (acc + (c.toNat - 128) * 128 ^ i) r
def tk (l : List UInt8) : Nat × Nat × Nat := dn 0 0 l
theorem toNat_ofNat (n : Nat) (h : n < 256) : (UInt8.ofNat n).toNat = n := by simp; omega
theorem dn_back : ∀ (k i acc n : Nat) (r : List UInt8), i + k = 9 → n < 2 * 128 ^ k → (0 < i → 0 < n) → dn i acc (vb n ++ r) = (acc + n * 128 ^ i, i + (vb n).length, 0) := by
 intro k
 induction k with
 | zero =>
  intro i acc n r hk hn hi
  have h2 : n < 2 := by simpa using hn
  have hi9 : i = 9 := by omega
  have hn0 := hi (by omega)
  rw [vb_lt n (by omega)]
  simp only [List.cons_append, List.nil_append, dn]
  rw [toNat_ofNat n (by omega), if_pos (by omega), if_neg (by omega)]
  simp
 | succ k ih =>
  intro i acc n r hk hn hi
  by_cases h1 : n < 128
  ·rw [vb_lt n h1]
   simp only [List.cons_append, List.nil_append, dn]
   rw [toNat_ofNat n (by omega), if_pos (by omega), if_neg (by omega)]
   simp
  ·rw [vb_ge n (by omega)]
   simp only [List.cons_append, dn]
   rw [toNat_ofNat _ (by omega), if_neg (by omega), if_neg (by omega)]
   have hd : n / 128 < 2 * 128 ^ k := by
    rw [Nat.div_lt_iff_lt_mul (by omega)]
    have : 128 ^ (k + 1) = 128 ^ k * 128 := Nat.pow_succ ..
    omega
   rw [ih (i + 1) _ (n / 128) r (by omega) hd (by omega)]
   have e : (n % 128) * 128 ^ i + n / 128 * 128 ^ (i + 1) = n * 128 ^ i := by
    have hm := Nat.div_add_mod n 128
    calc (n % 128) * 128 ^ i + n / 128 * 128 ^ (i + 1) = (n % 128) * 128 ^ i + (128 * (n / 128)) * 128 ^ i := by rw [Nat.pow_succ]; congr 1; rw [Nat.mul_comm (128 ^ i) 128, ← Nat.mul_assoc, Nat.mul_comm (n / 128) 128]
     _ = (128 * (n / 128) + n % 128) * 128 ^ i := by rw [Nat.add_mul, Nat.add_comm]
     _ = n * 128 ^ i := by rw [hm]
   refine Prod.ext ?_ (Prod.ext ?_ rfl)
   ·show acc + (n % 128 + 128 - 128) * 128 ^ i + n / 128 * 128 ^ (i + 1) = acc + n * 128 ^ i
    rw [Nat.add_sub_cancel, Nat.add_assoc, e]
   ·show i + 1 + _ = i + (_ :: vb (n / 128)).length
    simp; omega
theorem pow_u64 : 2 * 128 ^ 9 = 18446744073709551616 := by decide +kernel
theorem tk_back (n : Nat) (r : List UInt8) (h : n < 18446744073709551616) : tk (vb n ++ r) = (n, (vb n).length, 0) := by
 have := dn_back 9 0 0 n r (by omega) (by rw [pow_u64]; exact h) (by omega)
 simpa [tk] using this
theorem dn_only : ∀ (k i acc : Nat) (l : List UInt8), i + k = 9 → (dn i acc l).2.2 = 0 →
  ∃ n, n < 2 * 128 ^ k ∧ (0 < i → 0 < n) ∧ l = vb n ++ l.drop (vb n).length := by
 intro k
 induction k with
 | zero =>
  intro i acc l hk h
  match l with
  | [] => simp [dn] at h
  | c :: r =>
   have hi : i = 9 := by omega
   simp only [dn] at h
   by_cases h1 : c.toNat < 128
   ·rw [if_pos h1] at h
    by_cases h2 : 0 < i ∧ c.toNat = 0 ∨ i = 9 ∧ 1 < c.toNat
    ·rw [if_pos h2] at h; simp at h
    ·refine ⟨c.toNat, by simp; omega, by omega, ?_⟩
     rw [vb_lt _ h1]; simp
   ·rw [if_neg h1, if_pos hi] at h; simp at h
 | succ k ih =>
  intro i acc l hk h
  match l with
  | [] => simp [dn] at h
  | c :: r =>
   simp only [dn] at h
   by_cases h1 : c.toNat < 128
   ·rw [if_pos h1] at h
    by_cases h2 : 0 < i ∧ c.toNat = 0 ∨ i = 9 ∧ 1 < c.toNat
    ·rw [if_pos h2] at h; simp at h
    ·have hp : 1 ≤ 128 ^ k := Nat.pow_pos (by omega)
     refine ⟨c.toNat, by rw [Nat.pow_succ]; omega, by omega, ?_⟩
     rw [vb_lt _ h1]; simp
   ·rw [if_neg h1, if_neg (by omega)] at h
    obtain ⟨n, hn, hpos, hl⟩ := ih (i + 1) _ r (by omega) h
    have hn0 := hpos (by omega)
    have hc := c.toNat_lt
    refine ⟨n * 128 + (c.toNat - 128), ?_, by omega, ?_⟩
    ·rw [Nat.pow_succ]; omega
    ·rw [vb_ge _ (by omega)]
     have e1 : (n * 128 + (c.toNat - 128)) % 128 + 128 = c.toNat := by omega
     have e2 : (n * 128 + (c.toNat - 128)) / 128 = n := by omega
     rw [e1, e2]
     simp
     exact hl
theorem tk_only (l : List UInt8) (h : (tk l).2.2 = 0) : (tk l).1 < 18446744073709551616 ∧ l = vb (tk l).1 ++ l.drop (tk l).2.1 ∧ (tk l).2.1 = (vb (tk l).1).length := by
 obtain ⟨n, hn, _, hl⟩ := dn_only 9 0 0 l (by omega) h
 rw [pow_u64] at hn
 have hb := tk_back n (l.drop (vb n).length) hn
 rw [← hl] at hb
 rw [hb]
 exact ⟨hn, hl, rfl⟩
theorem dn_err : ∀ (l : List UInt8) (i acc : Nat), (dn i acc l).2.2 ≠ 0 → (dn i acc l).1 = 0 ∧ (dn i acc l).2.1 = 0
 | [], i, acc, _ => by simp [dn]
 | c :: r, i, acc, h => by
  simp only [dn] at h ⊢
  by_cases h1 : c.toNat < 128
  ·rw [if_pos h1] at h ⊢
   by_cases h2 : 0 < i ∧ c.toNat = 0 ∨ i = 9 ∧ 1 < c.toNat
   ·rw [if_pos h2]; simp
   ·rw [if_neg h2] at h; simp at h
  ·rw [if_neg h1] at h ⊢
   by_cases h3 : i = 9
   ·rw [if_pos h3]; simp
   ·rw [if_neg h3] at h ⊢; exact dn_err r _ _ h
theorem tk_err (l : List UInt8) (h : (tk l).2.2 ≠ 0) : (tk l).1 = 0 ∧ (tk l).2.1 = 0 := dn_err l 0 0 h
theorem dn_kinds : ∀ (l : List UInt8) (i acc : Nat), (dn i acc l).2.2 = 0 ∨ (dn i acc l).2.2 = 2 ∨ (dn i acc l).2.2 = 3
 | [], i, acc => by simp [dn]
 | c :: r, i, acc => by
  simp only [dn]
  by_cases h1 : c.toNat < 128
  ·rw [if_pos h1]
   by_cases h2 : 0 < i ∧ c.toNat = 0 ∨ i = 9 ∧ 1 < c.toNat
   ·rw [if_pos h2]; simp
   ·rw [if_neg h2]; simp
  ·rw [if_neg h1]
   by_cases h3 : i = 9
   ·rw [if_pos h3]; simp
   ·rw [if_neg h3]; exact dn_kinds r _ _
theorem tk_kinds (l : List UInt8) : (tk l).2.2 = 0 ∨ (tk l).2.2 = 2 ∨ (tk l).2.2 = 3 := dn_kinds l 0 0
theorem tk_size (l : List UInt8) : (tk l).2.1 ≤ l.length ∧ (tk l).2.1 ≤ 10 ∧ (tk l).1 < 18446744073709551616 := by
  by_cases h : (tk l).2.2 = 0
  · obtain ⟨h1, h2, h3⟩ := tk_only l h
    have hl := congrArg List.length h2
    rw [List.length_append, List.length_drop] at hl
    have := vb_len_le 9 (tk l).1 (by have : (128 : Nat) ^ (9 + 1) = 1180591620717411303424 := by decide +kernel
                                     omega)
    omega
  · obtain ⟨h1, h2⟩ := tk_err l h
    omega
theorem dn_nil (i acc : Nat) : dn i acc [] = (0, 0, 2) := rfl
theorem dn_bad (i acc : Nat) (c : UInt8) (r : List UInt8) (h : c.toNat < 128) (h2 : 0 < i ∧ c.toNat = 0 ∨ i = 9 ∧ 1 < c.toNat) : dn i acc (c :: r) = (0, 0, 3) := by
 simp only [dn]; rw [if_pos h, if_pos h2]
theorem dn_end (i acc : Nat) (c : UInt8) (r : List UInt8) (h : c.toNat < 128) (h2 : ¬ (0 < i ∧ c.toNat = 0 ∨ i = 9 ∧ 1 < c.toNat)) : dn i acc (c :: r) = (acc + c.toNat * 128 ^ i, i + 1, 0) := by
 simp only [dn]; rw [if_pos h, if_neg h2]
theorem dn_long (acc : Nat) (c : UInt8) (r : List UInt8) (h : 128 ≤ c.toNat) : dn 9 acc (c :: r) = (0, 0, 3) := by
 simp only [dn]; rw [if_neg (by omega)]; simp
theorem dn_step (i acc : Nat) (c : UInt8) (r : List UInt8) (h : 128 ≤ c.toNat) (hi : i ≠ 9) : dn i acc (c :: r) = dn (i + 1) (acc + (c.toNat - 128) * 128 ^ i) r := by
 simp only [dn]; rw [if_neg (by omega), if_neg hi]
theorem pow_le (k : Nat) (h : k ≤ 9) : 128 ^ k ≤ 9223372036854775808 := by
 have := Nat.pow_le_pow_right (n := 128) (by omega) h
 have e : 128 ^ 9 = 9223372036854775808 := by decide +kernel
 omega
theorem pow2 (k : Nat) : 2 ^ (7 * k) = 128 ^ k := by rw [Nat.pow_mul]
theorem step_lt (k acc x : Nat) (h : acc < 128 ^ k) (hx : x < 128) : acc + x * 128 ^ k < 128 ^ (k + 1) := by
 rw [Nat.pow_succ]
 have : (x + 1) * 128 ^ k ≤ 128 * 128 ^ k := Nat.mul_le_mul_right _ (by omega)
 rw [Nat.add_mul] at this
 omega
theorem end_lt (k acc x : Nat) (h : acc < 128 ^ k) (hx : x < 128) (hk : k ≤ 9) (h9 : k = 9 → x ≤ 1) : acc + x * 128 ^ k < 18446744073709551616 := by
 by_cases h1 : k = 9
 ·subst h1
  have e : 128 ^ 9 = 9223372036854775808 := by decide +kernel
  rw [e] at h ⊢
  have := h9 rfl
  have : x * 9223372036854775808 ≤ 1 * 9223372036854775808 := Nat.mul_le_mul_right _ this
  omega
 ·have h2 := step_lt k acc x h hx
  have h3 := pow_le (k + 1) (by omega)
  omega
end Vm
end Go.Proofs.YtkekmokdlgocaaaGreatDoor
namespace Go.Proofs.YtkekmokdlgocaaaGreatDoor.Cm
def step (n : Nat) : Nat := if n % 2 = 1 then (n / 2) ^^^ 3988292384 else n / 2
def iter : Nat → Nat → Nat
 | 0, n => n
 | k + 1, n => iter k (step n)
def ent (n : Nat) : Nat := iter 8 n
theorem step_odd (n : Nat) (h : n % 2 = 1) : step n = (n / 2) ^^^ 3988292384 := by unfold step; rw [if_pos h]
theorem step_even (n : Nat) (h : n % 2 = 0) : step n = n / 2 := by unfold step; rw [if_neg (by omega)]
theorem iter_succ (k n : Nat) : iter (k + 1) n = iter k (step n) := rfl
theorem xor_lt {a b : Nat} (ha : a < 4294967296) (hb : b < 4294967296) : a ^^^ b < 4294967296 := Nat.xor_lt_two_pow (n := 32) ha hb
theorem xor_lt8 {a b : Nat} (ha : a < 256) (hb : b < 256) : a ^^^ b < 256 := Nat.xor_lt_two_pow (n := 8) ha hb
theorem step_lt (n : Nat) (h : n < 4294967296) : step n < 4294967296 := by
 unfold step
 split
 ·exact xor_lt (by omega) (by omega)
 ·omega
theorem iter_lt : ∀ (k n : Nat), n < 4294967296 → iter k n < 4294967296
 | 0, _, h => h
 | k + 1, n, h => iter_lt k _ (step_lt n h)
theorem ent_lt (n : Nat) (h : n < 4294967296) : ent n < 4294967296 := iter_lt 8 n h
def tab : List Nat := (List.range 256).map ent
theorem tab_len : tab.length = 256 := by simp [tab]
theorem tab_get (i : Nat) (h : i < 256) : tab[i]? = some (ent i) := by simp [tab, h]
theorem tab_getD (i : Nat) (h : i < 256) : tab.getD i 0 = ent i := by simp [List.getD, tab_get i h]
theorem tab_lt : ∀ x ∈ tab, x < 4294967296 := by
 intro x hx
 simp only [tab, List.mem_map, List.mem_range] at hx
 obtain ⟨i, hi, rfl⟩ := hx
 exact ent_lt i (by omega)
def upd (t : List Nat) (c : Nat) (x : UInt8) : Nat := t.getD (c % 256 ^^^ x.toNat) 0 ^^^ c / 256
def more (t : List Nat) (c : Nat) (l : List UInt8) : Nat := l.foldl (upd t) c
def sum (t : List Nat) (l : List UInt8) : Nat := 4294967295 ^^^ more t 4294967295 l
theorem more_cons (t : List Nat) (c : Nat) (x : UInt8) (l : List UInt8) : more t c (x :: l) = more t (upd t c x) l := rfl
theorem idx_lt (c : Nat) (x : UInt8) : c % 256 ^^^ x.toNat < 256 := xor_lt8 (by omega) x.toNat_lt
theorem idx_ref (c : Nat) (x : UInt8) : (c ^^^ x.toNat) % 256 = c % 256 ^^^ x.toNat := by
 have h := Nat.xor_mod_two_pow (a := c) (b := x.toNat) (n := 8)
 have e : (2 : Nat) ^ 8 = 256 := by decide
 rw [e] at h
 have := x.toNat_lt
 rw [h, Nat.mod_eq_of_lt (a := x.toNat) (by omega)]
def Fits (t : List Nat) : Prop := ∀ x ∈ t, x < 4294967296
theorem getD_lt (t : List Nat) (h : Fits t) (i : Nat) : t.getD i 0 < 4294967296 := by
 simp only [List.getD]
 cases hi : t[i]? with
 | none => simp
 | some x => simpa using h x (List.mem_of_getElem? hi)
theorem upd_lt (t : List Nat) (h : Fits t) (c : Nat) (hc : c < 4294967296) (x : UInt8) : upd t c x < 4294967296 := xor_lt (getD_lt t h _) (by omega)
theorem more_lt (t : List Nat) (h : Fits t) : ∀ (l : List UInt8) (c : Nat), c < 4294967296 → more t c l < 4294967296
 | [], _, hc => hc
 | x :: l, c, hc => more_lt t h l _ (upd_lt t h c hc x)
theorem sum_lt (t : List Nat) (h : Fits t) (l : List UInt8) : sum t l < 4294967296 := xor_lt (by omega) (more_lt t h l _ (by omega))
def byteAt (c i : Nat) : UInt8 := UInt8.ofNat (c / 256 ^ i)
def four (c : Nat) : List UInt8 := [byteAt c 0, byteAt c 1, byteAt c 2, byteAt c 3]
theorem byteAt_nat (c i : Nat) : (byteAt c i).toNat = c / 256 ^ i % 256 := by simp [byteAt]
theorem four_len (c : Nat) : (four c).length = 4 := rfl
theorem four_get (c i : Nat) (h : i < 4) : (four c)[i]? = some (byteAt c i) := by
 match i, h with
 | 0, _ => rfl
 | 1, _ => rfl
 | 2, _ => rfl
 | 3, _ => rfl
def openS (t : List Nat) (l : List UInt8) : List UInt8 × Nat :=
 if t.length = 256 then
  if l.length < 4 then ([], 2)
  else if l.drop (l.length - 4) = four (sum t (l.take (l.length - 4))) then (l.take (l.length - 4), 0) else ([], 4)
 else ([], 1)
end Go.Proofs.YtkekmokdlgocaaaGreatDoor.Cm
namespace Go.Proofs.YtkekmokdlgocaaaGreatDoor.Cht.Fm
open Vm
def encF (s : List UInt8) : List UInt8 := vb s.length ++ s
def encFs : List (List UInt8) → List UInt8
 | [] => []
 | s :: r => encF s ++ encFs r
def encR (r : List (List UInt8)) : List UInt8 := vb r.length ++ encFs r
def encRs : List (List (List UInt8)) → List UInt8
 | [] => []
 | r :: l => encR r ++ encRs l
def enc (l : List (List (List UInt8))) : List UInt8 := vb l.length ++ encRs l
def May (r : List (List UInt8)) : Prop := r.length ≤ 50 ∧ ∀ s ∈ r, s.length ≤ 1000
def takeF (b : List UInt8) : Except Nat (List UInt8 × List UInt8) :=
 if (tk b).2.2 = 0 then
  if 1000 < (tk b).1 then .error 5
  else if (b.drop (tk b).2.1).length < (tk b).1 then .error 2
  else .ok ((b.drop (tk b).2.1).take (tk b).1, (b.drop (tk b).2.1).drop (tk b).1)
 else .error (tk b).2.2
def decFs : Nat → List UInt8 → Except Nat (List (List UInt8) × List UInt8)
 | 0, b => .ok ([], b)
 | k + 1, b =>
  match takeF b with
  | .error x => .error x
  | .ok (s, b') => match decFs k b' with | .error x => .error x | .ok (r, b'') => .ok (s :: r, b'')
def decR (b : List UInt8) : Except Nat (List (List UInt8) × List UInt8) :=
 if (tk b).2.2 = 0 then (if 50 < (tk b).1 then .error 5 else decFs (tk b).1 (b.drop (tk b).2.1)) else .error (tk b).2.2
def decRs : Nat → List UInt8 → Except Nat (List (List (List UInt8)) × List UInt8)
 | 0, b => .ok ([], b)
 | k + 1, b =>
  match decR b with
  | .error x => .error x
  | .ok (r, b') => match decRs k b' with | .error x => .error x | .ok (l, b'') => .ok (r :: l, b'')
def dec (b : List UInt8) : Except Nat (List (List (List UInt8))) :=
 if (tk b).2.2 = 0 then
  if 5000 < (tk b).1 then .error 5
  else match decRs (tk b).1 (b.drop (tk b).2.1) with
   | .error x => .error x
   | .ok (l, b') => if b' = [] then .ok l else .error 3
 else .error (tk b).2.2
theorem takeF_only {b s t : List UInt8} (h : takeF b = .ok (s, t)) : b = encF s ++ t ∧ s.length ≤ 1000 := by
 unfold takeF at h
 split at h
 ·rename_i h0
  obtain ⟨_, h1, _⟩ := tk_only b h0
  split at h
  ·cases h
  ·rename_i h2
   split at h
   ·cases h
   ·rename_i h3
    injection h with h
    obtain ⟨rfl,rfl⟩ := Prod.mk.inj h
    have hl : ((b.drop (tk b).2.1).take (tk b).1).length = (tk b).1 := by rw [List.length_take]; omega
    refine ⟨?_, by rw [hl]; omega⟩
    unfold encF
    rw [hl, List.append_assoc, List.take_append_drop]
    exact h1
 ·cases h
theorem decFs_only : ∀ (k : Nat) (b : List UInt8) (r : List (List UInt8)) (t : List UInt8), decFs k b = .ok (r, t) → b = encFs r ++ t ∧ r.length = k ∧ ∀ s ∈ r, s.length ≤ 1000
 | 0, b, r, t, h => by
  unfold decFs at h
  injection h with h
  obtain ⟨rfl,rfl⟩ := Prod.mk.inj h
  exact ⟨rfl, rfl, fun _ h => by cases h⟩
 | k + 1, b, r, t, h => by
  unfold decFs at h
  split at h
  ·cases h
  ·rename_i s b' hf
   split at h
   ·cases h
   ·rename_i r' b'' hd
    injection h with h
    obtain ⟨rfl,rfl⟩ := Prod.mk.inj h
    obtain ⟨h1, h2⟩ := takeF_only hf
    obtain ⟨h3, h4, h5⟩ := decFs_only k b' r' _ hd
    refine ⟨by rw [h1, h3, encFs, List.append_assoc], by simp [h4], fun x hx => ?_⟩
    rcases List.mem_cons.1 hx with rfl | hx
    ·exact h2
    ·exact h5 x hx
theorem decR_only {b : List UInt8} {r : List (List UInt8)} {t : List UInt8} (h : decR b = .ok (r, t)) : b = encR r ++ t ∧ May r := by
 unfold decR at h
 split at h
 ·rename_i h0
  obtain ⟨_, h1, _⟩ := tk_only b h0
  split at h
  ·cases h
  ·rename_i h2
   obtain ⟨h3, h4, h5⟩ := decFs_only _ _ _ _ h
   refine ⟨?_, by omega, h5⟩
   unfold encR
   rw [h4, List.append_assoc, ← h3]
   exact h1
 ·cases h
theorem decRs_only : ∀ (k : Nat) (b : List UInt8) (l : List (List (List UInt8))) (t : List UInt8), decRs k b = .ok (l, t) → b = encRs l ++ t ∧ l.length = k ∧ ∀ r ∈ l, May r
 | 0, b, l, t, h => by
  unfold decRs at h
  injection h with h
  obtain ⟨rfl,rfl⟩ := Prod.mk.inj h
  exact ⟨rfl, rfl, fun _ h => by cases h⟩
 | k + 1, b, l, t, h => by
  unfold decRs at h
  split at h
  ·cases h
  ·rename_i r b' hf
   split at h
   ·cases h
   ·rename_i l' b'' hd
    injection h with h
    obtain ⟨rfl,rfl⟩ := Prod.mk.inj h
    obtain ⟨h1, h2⟩ := decR_only hf
    obtain ⟨h3, h4, h5⟩ := decRs_only k b' l' _ hd
    refine ⟨by rw [h1, h3, encRs, List.append_assoc], by simp [h4], fun x hx => ?_⟩
    rcases List.mem_cons.1 hx with rfl | hx
    ·exact h2
    ·exact h5 x hx
theorem enc_dec {b : List UInt8} {l : List (List (List UInt8))} (h : dec b = .ok l) : enc l = b ∧ (∀ r ∈ l, May r) ∧ l.length ≤ 5000 := by
 unfold dec at h
 split at h
 ·rename_i h0
  obtain ⟨_, h1, _⟩ := tk_only b h0
  split at h
  ·cases h
  ·rename_i h2
   split at h
   ·cases h
   ·rename_i l' b' hd
    split at h
    ·rename_i hb
     injection h with h
     subst h hb
     obtain ⟨h3, h4, h5⟩ := decRs_only _ _ _ _ hd
     refine ⟨?_, h5, by omega⟩
     unfold enc
     rw [List.append_nil] at h3
     rw [h4, ← h3]
     exact h1.symm
    ·cases h
 ·cases h
end Go.Proofs.YtkekmokdlgocaaaGreatDoor.Cht.Fm
namespace Go.Proofs.YtkekmokdlgocaaaGreatDoor.Cht.Pm
open Vm
def copyN : Nat → Nat → List UInt8 → List UInt8
 | 0, _, o => o
 | k + 1, d, o => copyN k d (o ++ [o.getD (o.length - d) 0])
theorem tk_pos (l : List UInt8) (h : (tk l).2.2 = 0) : 1 ≤ (tk l).2.1 := by
 rw [(tk_only l h).2.2]
 exact vb_pos _
def expGo (n : Nat) (out r : List UInt8) (p k : Nat) : List UInt8 × Nat × Nat × Nat :=
 if h0 : r = [] then (if out.length < n then ([], 0, 0, 3) else (out, p, k, 0))
 else if h1 : (tk r).2.2 = 0 then
  if (tk r).1 % 2 = 0 then
   if (r.drop (tk r).2.1).length < (tk r).1 / 2 + 1 then ([], 0, 0, 2)
   else if n < out.length + ((tk r).1 / 2 + 1) then ([], 0, 0, 3)
   else expGo n (out ++ (r.drop (tk r).2.1).take ((tk r).1 / 2 + 1)) ((r.drop (tk r).2.1).drop ((tk r).1 / 2 + 1)) (p + 1) k
  else if (tk (r.drop (tk r).2.1)).2.2 = 0 then
   if (tk (r.drop (tk r).2.1)).1 = 0 ∨ 4096 < (tk (r.drop (tk r).2.1)).1 ∨ out.length < (tk (r.drop (tk r).2.1)).1 ∨ n - out.length < (tk r).1 / 2 + 4 then ([], 0, 0, 3)
   else expGo n (copyN ((tk r).1 / 2 + 4) (tk (r.drop (tk r).2.1)).1 out) ((r.drop (tk r).2.1).drop (tk (r.drop (tk r).2.1)).2.1) p (k + 1)
  else ([], 0, 0, (tk (r.drop (tk r).2.1)).2.2)
 else ([], 0, 0, (tk r).2.2)
termination_by r.length
decreasing_by
 all_goals
  have h2 := tk_pos r h1
  have h3 : 0 < r.length := List.length_pos_iff.2 h0
  simp only [List.length_drop]
  omega
def expS (r : List UInt8) (most : Int) : List UInt8 × Nat × Nat × Nat :=
 if (tk r).2.2 = 0 then
  if most < 0 ∨ most < ((tk r).1 : Int) then ([], 0, 0, 5) else expGo (tk r).1 [] (r.drop (tk r).2.1) 0 0
 else ([], 0, 0, (tk r).2.2)
end Go.Proofs.YtkekmokdlgocaaaGreatDoor.Cht.Pm
namespace Go.Proofs.YtkekmokdlgocaaaGreatDoor
namespace Vm
def Lead (k : Nat) (l : List UInt8) : Prop := ∀ j, j < k → ∃ x, l[j]? = some x ∧ 128 ≤ x.toNat
theorem Lead.zero (l : List UInt8) : Lead 0 l := fun j hj => absurd hj (by omega)
theorem Lead.succ {k : Nat} {l : List UInt8} (h : Lead k l) {x : UInt8} (hx : l[k]? = some x) (h128 : 128 ≤ x.toNat) : Lead (k + 1) l := fun j hj => by
 by_cases hjk : j = k
 ·subst hjk; exact ⟨x, hx, h128⟩
 ·exact h j (by omega)
def val : List UInt8 → Nat
 | [] => 0
 | c :: r => c.toNat % 128 + 128 * val r
theorem val_append : ∀ (l r : List UInt8), val (l ++ r) = val l + val r * 128 ^ l.length
 | [], r => by simp [val]
 | c :: l, r => by
  have ih := val_append l r
  simp only [List.cons_append, val, ih, List.length_cons, Nat.pow_succ]
  rw [Nat.mul_add, Nat.add_assoc, Nat.mul_comm (128 ^ l.length) 128, ← Nat.mul_assoc, Nat.mul_left_comm, Nat.mul_assoc]
theorem dn_lead : ∀ (k i acc : Nat) (l : List UInt8), Lead k l → i + k ≤ 9 → dn i acc l = dn (i + k) (acc + val (l.take k) * 128 ^ i) (l.drop k)
 | 0, i, acc, l, _, _ => by simp [val]
 | k + 1, i, acc, l, h, hi => by
  obtain ⟨x, hx, h128⟩ := h 0 (by omega)
  match l, hx with
  | c :: r, hx =>
   simp at hx
   subst hx
   have hr : Lead k r := fun j hj => by
    obtain ⟨y, hy, hy2⟩ := h (j + 1) (by omega)
    exact ⟨y, by simpa using hy, hy2⟩
   rw [dn_step i acc c r h128 (by omega), dn_lead k (i + 1) _ r hr (by omega)]
   have hc := c.toNat_lt
   have e1 : c.toNat - 128 = c.toNat % 128 := by omega
   have e2 : i + 1 + k = i + (k + 1) := by omega
   rw [e1, e2]
   have e3 : acc + c.toNat % 128 * 128 ^ i + val (r.take k) * 128 ^ (i + 1) = acc + (c.toNat % 128 + 128 * val (r.take k)) * 128 ^ i := by
    rw [Nat.add_mul, Nat.add_assoc, Nat.pow_succ, Nat.mul_comm 128 (val (r.take k)), Nat.mul_assoc, Nat.mul_comm (128 ^ i) 128]
   rw [List.take_succ_cons, List.drop_succ_cons, val, e3]
theorem tk_short (l : List UInt8) (k : Nat) (h : Lead k l) (hk : k = l.length) (h10 : k < 10) : tk l = (0, 0, 2) := by
 have := dn_lead k 0 0 l h (by omega)
 rw [List.drop_of_length_le (by omega)] at this
 exact this
theorem tk_ten (l : List UInt8) (h : Lead 10 l) : tk l = (0, 0, 3) := by
 have h9 : Lead 9 l := fun j hj => h j (by omega)
 have := dn_lead 9 0 0 l h9 (by omega)
 obtain ⟨x, hx, h128⟩ := h 9 (by omega)
 have hd : l.drop 9 = x :: l.drop 10 := by
  obtain ⟨hl, he⟩ := List.getElem?_eq_some_iff.1 hx
  rw [List.drop_eq_getElem_cons hl, he]
 rw [hd] at this
 exact this.trans (dn_long _ x _ h128)
theorem tk_last (l : List UInt8) (k : Nat) (h : Lead k l) (hk : k ≤ 9) (x : UInt8) (hx : l[k]? = some x) (h128 : x.toNat < 128) :
  tk l = (0, 0, 3) ∨ tk l = (val (l.take (k + 1)), k + 1, 0) := by
 have hl := dn_lead k 0 0 l h (by omega)
 obtain ⟨hlt, he⟩ := List.getElem?_eq_some_iff.1 hx
 have hd : l.drop k = x :: l.drop (k + 1) := by rw [List.drop_eq_getElem_cons hlt, he]
 rw [hd] at hl
 by_cases hb : 0 < 0 + k ∧ x.toNat = 0 ∨ 0 + k = 9 ∧ 1 < x.toNat
 ·exact .inl (hl.trans (dn_bad _ _ x _ h128 hb))
 ·refine .inr (hl.trans ((dn_end _ _ x _ h128 hb).trans ?_))
  have ht : l.take (k + 1) = l.take k ++ [x] := by rw [List.take_succ_eq_append_getElem hlt, he]
  rw [ht, val_append]
  have hlen : (l.take k).length = k := by rw [List.length_take]; omega
  rw [hlen]
  simp [val]
  have : x.toNat % 128 = x.toNat := Nat.mod_eq_of_lt h128
  rw [this]
theorem tk_told (l : List UInt8) (k : Nat) (h : Lead k l) (hk : k ≤ 9) (x : UInt8) (hx : l[k]? = some x) (h128 : x.toNat < 128) :
  (vb (val (l.take (k + 1)) % 18446744073709551616) = l.take (k + 1) → tk l = (val (l.take (k + 1)) % 18446744073709551616, k + 1, 0)) ∧
  (vb (val (l.take (k + 1)) % 18446744073709551616) ≠ l.take (k + 1) → tk l = (0, 0, 3)) := by
 obtain ⟨hlt, he⟩ := List.getElem?_eq_some_iff.1 hx
 have hlen : (l.take (k + 1)).length = k + 1 := by rw [List.length_take]; omega
 have hm : val (l.take (k + 1)) % 18446744073709551616 < 18446744073709551616 := Nat.mod_lt _ (by omega)
 constructor
 ·intro hv
  have hb := tk_back _ (l.drop (k + 1)) hm
  rw [hv, List.take_append_drop, hlen] at hb
  exact hb
 ·intro hv
  rcases tk_last l k h hk x hx h128 with h1 | h1
  ·exact h1
  ·exfalso
   have ho := tk_only l (by rw [h1])
   rw [h1] at ho
   obtain ⟨o1, o2, o3⟩ := ho
   dsimp only at o1 o2 o3
   rw [Nat.mod_eq_of_lt o1] at hv
   apply hv
   generalize vb (val (l.take (k + 1))) = V at o2 o3
   have t : (V ++ l.drop (k + 1)).take V.length = V := List.take_left
   rw [← o2] at t
   rw [o3]
   exact t.symm
end Vm
end Go.Proofs.YtkekmokdlgocaaaGreatDoor
