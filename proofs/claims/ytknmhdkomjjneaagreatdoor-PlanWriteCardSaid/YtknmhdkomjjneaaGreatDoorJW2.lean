/-
  Joined: Vm Fm Fn Pm Cm Vm2 Pn.
-/

/-
  Plain mathematics of varints: the bytes of a number, the number of bytes, there and back. No program.
-/
namespace Go.Proofs.YtknmhdkomjjneaaGreatDoor
namespace Vm

def vb (n : Nat) : List UInt8 := if n < 128 then [UInt8.ofNat n] else UInt8.ofNat (n % 128 + 128) :: vb (n / 128)
termination_by n
decreasing_by omega

theorem vb_lt (n : Nat) (h : n < 128) : vb n = [UInt8.ofNat n] := by rw [vb, if_pos h]
theorem vb_ge (n : Nat) (h : 128 ≤ n) : vb n = UInt8.ofNat (n % 128 + 128) :: vb (n / 128) := by rw [vb, if_neg (by omega)]

theorem vb_pos (n : Nat) : 1 ≤ (vb n).length := by
  by_cases h : n < 128
  · rw [vb_lt n h]; simp
  · rw [vb_ge n (by omega)]; simp

theorem vb_len_le : ∀ (k n : Nat), n < 128 ^ (k + 1) → (vb n).length ≤ k + 1
  | 0, n, h => by rw [vb_lt n (by simpa using h)]; simp
  | k + 1, n, h => by
    by_cases h1 : n < 128
    · rw [vb_lt n h1]; simp
    · rw [vb_ge n (by omega)]
      have := vb_len_le k (n / 128) (by rw [Nat.div_lt_iff_lt_mul (by omega)]; rw [Nat.pow_succ] at h; exact h)
      simp; omega

def dn : Nat → Nat → List UInt8 → Nat × Nat × Nat
  | _, _, [] => (0, 0, 2)
  | i, acc, c :: r =>
    if c.toNat < 128 then
      if 0 < i ∧ c.toNat = 0 ∨ i = 9 ∧ 1 < c.toNat then (0, 0, 3) else (acc + c.toNat * 128 ^ i, i + 1, 0)
    else if i = 9 then (0, 0, 3) else dn (i + 1) (acc + (c.toNat - 128) * 128 ^ i) r

def tk (l : List UInt8) : Nat × Nat × Nat := dn 0 0 l

theorem toNat_ofNat (n : Nat) (h : n < 256) : (UInt8.ofNat n).toNat = n := by simp; omega

theorem dn_back : ∀ (k i acc n : Nat) (r : List UInt8), i + k = 9 → n < 2 * 128 ^ k → (0 < i → 0 < n) → dn i acc (vb n ++ r) = (acc + n * 128 ^ i, i + (vb n).length, 0) := by
  intro k
  induction k with
  | zero =>
    intro i acc n r hk hn hi
    have h2 : n < 2 := by simpa using hn
    have hi9 : i = 9 := by omega
    have hn0 := hi (by omega)
    rw [vb_lt n (by omega)]
    simp only [List.cons_append, List.nil_append, dn]
    rw [toNat_ofNat n (by omega), if_pos (by omega), if_neg (by omega)]
    simp
  | succ k ih =>
    intro i acc n r hk hn hi
    by_cases h1 : n < 128
    · rw [vb_lt n h1]
      simp only [List.cons_append, List.nil_append, dn]
      rw [toNat_ofNat n (by omega), if_pos (by omega), if_neg (by omega)]
      simp
    · rw [vb_ge n (by omega)]
      simp only [List.cons_append, dn]
      rw [toNat_ofNat _ (by omega), if_neg (by omega), if_neg (by omega)]
      have hd : n / 128 < 2 * 128 ^ k := by
        rw [Nat.div_lt_iff_lt_mul (by omega)]
        have : 128 ^ (k + 1) = 128 ^ k * 128 := Nat.pow_succ ..
        omega
      rw [ih (i + 1) _ (n / 128) r (by omega) hd (by omega)]
      have e : (n % 128) * 128 ^ i + n / 128 * 128 ^ (i + 1) = n * 128 ^ i := by
        have hm := Nat.div_add_mod n 128
        calc (n % 128) * 128 ^ i + n / 128 * 128 ^ (i + 1) = (n % 128) * 128 ^ i + (128 * (n / 128)) * 128 ^ i := by rw [Nat.pow_succ]; congr 1; rw [Nat.mul_comm (128 ^ i) 128, ← Nat.mul_assoc, Nat.mul_comm (n / 128) 128]
          _ = (128 * (n / 128) + n % 128) * 128 ^ i := by rw [Nat.add_mul, Nat.add_comm]
          _ = n * 128 ^ i := by rw [hm]
      refine Prod.ext ?_ (Prod.ext ?_ rfl)
      · show acc + (n % 128 + 128 - 128) * 128 ^ i + n / 128 * 128 ^ (i + 1) = acc + n * 128 ^ i
        rw [Nat.add_sub_cancel, Nat.add_assoc, e]
      · show i + 1 + _ = i + (_ :: vb (n / 128)).length
        simp; omega

theorem pow_u64 : 2 * 128 ^ 9 = 18446744073709551616 := by decide +kernel

theorem tk_back (n : Nat) (r : List UInt8) (h : n < 18446744073709551616) : tk (vb n ++ r) = (n, (vb n).length, 0) := by
  have := dn_back 9 0 0 n r (by omega) (by rw [pow_u64]; exact h) (by omega)
  simpa [tk] using this

theorem dn_only : ∀ (k i acc : Nat) (l : List UInt8), i + k = 9 → (dn i acc l).2.2 = 0 →
    ∃ n, n < 2 * 128 ^ k ∧ (0 < i → 0 < n) ∧ l = vb n ++ l.drop (vb n).length := by
  intro k
  induction k with
  | zero =>
    intro i acc l hk h
    match l with
    | [] => simp [dn] at h
    | c :: r =>
      have hi : i = 9 := by omega
      simp only [dn] at h
      by_cases h1 : c.toNat < 128
      · rw [if_pos h1] at h
        by_cases h2 : 0 < i ∧ c.toNat = 0 ∨ i = 9 ∧ 1 < c.toNat
        · rw [if_pos h2] at h; simp at h
        · refine ⟨c.toNat, by simp; omega, by omega, ?_⟩
          rw [vb_lt _ h1]; simp
      · rw [if_neg h1, if_pos hi] at h; simp at h
  | succ k ih =>
    intro i acc l hk h
    match l with
    | [] => simp [dn] at h
    | c :: r =>
      simp only [dn] at h
      by_cases h1 : c.toNat < 128
      · rw [if_pos h1] at h
        by_cases h2 : 0 < i ∧ c.toNat = 0 ∨ i = 9 ∧ 1 < c.toNat
        · rw [if_pos h2] at h; simp at h
        · have hp : 1 ≤ 128 ^ k := Nat.pow_pos (by omega)
          refine ⟨c.toNat, by rw [Nat.pow_succ]; omega, by omega, ?_⟩
          rw [vb_lt _ h1]; simp
      · rw [if_neg h1, if_neg (by omega)] at h
        obtain ⟨n, hn, hpos, hl⟩ := ih (i + 1) _ r (by omega) h
        have hn0 := hpos (by omega)
        have hc := c.toNat_lt
        refine ⟨n * 128 + (c.toNat - 128), ?_, by omega, ?_⟩
        · rw [Nat.pow_succ]; omega
        · rw [vb_ge _ (by omega)]
          have e1 : (n * 128 + (c.toNat - 128)) % 128 + 128 = c.toNat := by omega
          have e2 : (n * 128 + (c.toNat - 128)) / 128 = n := by omega
          rw [e1, e2]
          simp
          exact hl

theorem tk_only (l : List UInt8) (h : (tk l).2.2 = 0) : (tk l).1 < 18446744073709551616 ∧ l = vb (tk l).1 ++ l.drop (tk l).2.1 ∧ (tk l).2.1 = (vb (tk l).1).length := by
  obtain ⟨n, hn, _, hl⟩ := dn_only 9 0 0 l (by omega) h
  rw [pow_u64] at hn
  have hb := tk_back n (l.drop (vb n).length) hn
  rw [← hl] at hb
  rw [hb]
  exact ⟨hn, hl, rfl⟩

theorem dn_err : ∀ (l : List UInt8) (i acc : Nat), (dn i acc l).2.2 ≠ 0 → (dn i acc l).1 = 0 ∧ (dn i acc l).2.1 = 0
  | [], i, acc, _ => by simp [dn]
  | c :: r, i, acc, h => by
    simp only [dn] at h ⊢
    by_cases h1 : c.toNat < 128
    · rw [if_pos h1] at h ⊢
      by_cases h2 : 0 < i ∧ c.toNat = 0 ∨ i = 9 ∧ 1 < c.toNat
      · rw [if_pos h2]; simp
      · rw [if_neg h2] at h; simp at h
    · rw [if_neg h1] at h ⊢
      by_cases h3 : i = 9
      · rw [if_pos h3]; simp
      · rw [if_neg h3] at h ⊢; exact dn_err r _ _ h

theorem tk_err (l : List UInt8) (h : (tk l).2.2 ≠ 0) : (tk l).1 = 0 ∧ (tk l).2.1 = 0 := dn_err l 0 0 h

theorem dn_kinds : ∀ (l : List UInt8) (i acc : Nat), (dn i acc l).2.2 = 0 ∨ (dn i acc l).2.2 = 2 ∨ (dn i acc l).2.2 = 3
  | [], i, acc => by simp [dn]
  | c :: r, i, acc => by
    simp only [dn]
    by_cases h1 : c.toNat < 128
    · rw [if_pos h1]
      by_cases h2 : 0 < i ∧ c.toNat = 0 ∨ i = 9 ∧ 1 < c.toNat
      · rw [if_pos h2]; simp
      · rw [if_neg h2]; simp
    · rw [if_neg h1]
      by_cases h3 : i = 9
      · rw [if_pos h3]; simp
      · rw [if_neg h3]; exact dn_kinds r _ _
theorem tk_kinds (l : List UInt8) : (tk l).2.2 = 0 ∨ (tk l).2.2 = 2 ∨ (tk l).2.2 = 3 := dn_kinds l 0 0

theorem tk_size (l : List UInt8) : (tk l).2.1 ≤ l.length ∧ (tk l).2.1 ≤ 10 ∧ (tk l).1 < 18446744073709551616 := by
  by_cases h : (tk l).2.2 = 0
  · obtain ⟨h1, h2, h3⟩ := tk_only l h
    have hl := congrArg List.length h2
    rw [List.length_append, List.length_drop] at hl
    have := vb_len_le 9 (tk l).1 (by have : (128 : Nat) ^ (9 + 1) = 1180591620717411303424 := by decide +kernel
                                     omega)
    omega
  · obtain ⟨h1, h2⟩ := tk_err l h
    omega

theorem dn_nil (i acc : Nat) : dn i acc [] = (0, 0, 2) := rfl
theorem dn_bad (i acc : Nat) (c : UInt8) (r : List UInt8) (h : c.toNat < 128) (h2 : 0 < i ∧ c.toNat = 0 ∨ i = 9 ∧ 1 < c.toNat) : dn i acc (c :: r) = (0, 0, 3) := by
  simp only [dn]; rw [if_pos h, if_pos h2]
theorem dn_end (i acc : Nat) (c : UInt8) (r : List UInt8) (h : c.toNat < 128) (h2 : ¬ (0 < i ∧ c.toNat = 0 ∨ i = 9 ∧ 1 < c.toNat)) : dn i acc (c :: r) = (acc + c.toNat * 128 ^ i, i + 1, 0) := by
  simp only [dn]; rw [if_pos h, if_neg h2]
theorem dn_long (acc : Nat) (c : UInt8) (r : List UInt8) (h : 128 ≤ c.toNat) : dn 9 acc (c :: r) = (0, 0, 3) := by
  simp only [dn]; rw [if_neg (by omega)]; simp
theorem dn_step (i acc : Nat) (c : UInt8) (r : List UInt8) (h : 128 ≤ c.toNat) (hi : i ≠ 9) : dn i acc (c :: r) = dn (i + 1) (acc + (c.toNat - 128) * 128 ^ i) r := by
  simp only [dn]; rw [if_neg (by omega), if_neg hi]
theorem pow_le (k : Nat) (h : k ≤ 9) : 128 ^ k ≤ 9223372036854775808 := by
  have := Nat.pow_le_pow_right (n := 128) (by omega) h
  have e : 128 ^ 9 = 9223372036854775808 := by decide +kernel
  omega
theorem pow2 (k : Nat) : 2 ^ (7 * k) = 128 ^ k := by rw [Nat.pow_mul]
theorem step_lt (k acc x : Nat) (h : acc < 128 ^ k) (hx : x < 128) : acc + x * 128 ^ k < 128 ^ (k + 1) := by
  rw [Nat.pow_succ]
  have : (x + 1) * 128 ^ k ≤ 128 * 128 ^ k := Nat.mul_le_mul_right _ (by omega)
  rw [Nat.add_mul] at this
  omega
theorem end_lt (k acc x : Nat) (h : acc < 128 ^ k) (hx : x < 128) (hk : k ≤ 9) (h9 : k = 9 → x ≤ 1) : acc + x * 128 ^ k < 18446744073709551616 := by
  by_cases h1 : k = 9
  · subst h1
    have e : 128 ^ 9 = 9223372036854775808 := by decide +kernel
    rw [e] at h ⊢
    have := h9 rfl
    have : x * 9223372036854775808 ≤ 1 * 9223372036854775808 := Nat.mul_le_mul_right _ this
    omega
  · have h2 := step_lt k acc x h hx
    have h3 := pow_le (k + 1) (by omega)
    omega

def fo (n : Int) : Int := if n < 0 then -2 * n - 1 else 2 * n
end Vm
end Go.Proofs.YtknmhdkomjjneaaGreatDoor

/-
  Plain mathematics of layer 4 (field), by the document's words: texts escaped and back, lines of pairs and back, words, records as bytes and back.
-/

namespace Go.Proofs.YtknmhdkomjjneaaGreatDoor.Cht.Fm
open Vm

def esc : List UInt8 → List UInt8
  | [] => []
  | c :: r => if c = 9 then 92 :: 116 :: esc r else if c = 10 then 92 :: 110 :: esc r else if c = 92 then 92 :: 92 :: esc r else c :: esc r
def unesc : List UInt8 → Option (List UInt8)
  | [] => some []
  | c :: r =>
    if c = 9 ∨ c = 10 then none
    else if c = 92 then
      match r with
      | [] => none
      | d :: r' => if d = 116 then (unesc r').map (9 :: ·) else if d = 110 then (unesc r').map (10 :: ·) else if d = 92 then (unesc r').map (92 :: ·) else none
    else (unesc r).map (c :: ·)
def cut (a : UInt8) : List UInt8 → List (List UInt8)
  | [] => [[]]
  | c :: r => if c = a then [] :: cut a r else match cut a r with | [] => [[c]] | h :: t => (c :: h) :: t
def lineOf (p : List UInt8 × List UInt8) : List UInt8 := esc p.1 ++ 9 :: esc p.2
def lines : List (List UInt8 × List UInt8) → List UInt8
  | [] => []
  | p :: r => lineOf p ++ 10 :: lines r
def pairOf (x : List UInt8) : Option (List UInt8 × List UInt8) :=
  match cut 9 x with
  | [k, v] => match unesc k, unesc v with | some k', some v' => some (k', v') | _, _ => none
  | _ => none
def pairsL : List (List UInt8) → Option (List (List UInt8 × List UInt8))
  | [] => none
  | [x] => if x = [] then some [] else none
  | x :: y :: r => match pairOf x, pairsL (y :: r) with | some p, some q => some (p :: q) | _, _ => none
def pairs (b : List UInt8) : Option (List (List UInt8 × List UInt8)) := pairsL (cut 10 b)
end Go.Proofs.YtknmhdkomjjneaaGreatDoor.Cht.Fm

/-
  Plain mathematics of layer 4 (field): words; records as bytes and back.
-/

namespace Go.Proofs.YtknmhdkomjjneaaGreatDoor.Cht.Fm
open Vm

def blank (c : UInt8) : Bool := c == 32 || c == 9 || c == 10 || c == 13
def wordsGo : List UInt8 → List UInt8 → List (List UInt8)
  | cur, [] => if cur = [] then [] else [cur]
  | cur, c :: r => if blank c = true then (if cur = [] then wordsGo [] r else cur :: wordsGo [] r) else wordsGo (cur ++ [c]) r
def words (s : List UInt8) : List (List UInt8) := wordsGo [] s
def encF (s : List UInt8) : List UInt8 := vb s.length ++ s
def encFs : List (List UInt8) → List UInt8
  | [] => []
  | s :: r => encF s ++ encFs r
def encR (r : List (List UInt8)) : List UInt8 := vb r.length ++ encFs r
def encRs : List (List (List UInt8)) → List UInt8
  | [] => []
  | r :: l => encR r ++ encRs l
def enc (l : List (List (List UInt8))) : List UInt8 := vb l.length ++ encRs l
def May (r : List (List UInt8)) : Prop := r.length ≤ 50 ∧ ∀ s ∈ r, s.length ≤ 1000
def takeF (b : List UInt8) : Except Nat (List UInt8 × List UInt8) :=
  if (tk b).2.2 = 0 then
    if 1000 < (tk b).1 then .error 5
    else if (b.drop (tk b).2.1).length < (tk b).1 then .error 2
    else .ok ((b.drop (tk b).2.1).take (tk b).1, (b.drop (tk b).2.1).drop (tk b).1)
  else .error (tk b).2.2
def decFs : Nat → List UInt8 → Except Nat (List (List UInt8) × List UInt8)
  | 0, b => .ok ([], b)
  | k + 1, b =>
    match takeF b with
    | .error x => .error x
    | .ok (s, b') => match decFs k b' with | .error x => .error x | .ok (r, b'') => .ok (s :: r, b'')
def decR (b : List UInt8) : Except Nat (List (List UInt8) × List UInt8) :=
  if (tk b).2.2 = 0 then (if 50 < (tk b).1 then .error 5 else decFs (tk b).1 (b.drop (tk b).2.1)) else .error (tk b).2.2
def decRs : Nat → List UInt8 → Except Nat (List (List (List UInt8)) × List UInt8)
  | 0, b => .ok ([], b)
  | k + 1, b =>
    match decR b with
    | .error x => .error x
    | .ok (r, b') => match decRs k b' with | .error x => .error x | .ok (l, b'') => .ok (r :: l, b'')
def dec (b : List UInt8) : Except Nat (List (List (List UInt8))) :=
  if (tk b).2.2 = 0 then
    if 5000 < (tk b).1 then .error 5
    else match decRs (tk b).1 (b.drop (tk b).2.1) with
      | .error x => .error x
      | .ok (l, b') => if b' = [] then .ok l else .error 3
  else .error (tk b).2.2

theorem takeF_enc (s t : List UInt8) (h : s.length ≤ 1000) : takeF (encF s ++ t) = .ok (s, t) := by
  have e : encF s ++ t = vb s.length ++ (s ++ t) := by unfold encF; rw [List.append_assoc]
  have htk := tk_back s.length (s ++ t) (by omega)
  unfold takeF
  rw [e, htk]
  dsimp only
  rw [if_pos rfl, if_neg (by omega), List.drop_left, if_neg (by simp), List.take_left, List.drop_left]
theorem decFs_enc : ∀ (r : List (List UInt8)) (t : List UInt8), (∀ s ∈ r, s.length ≤ 1000) → decFs r.length (encFs r ++ t) = .ok (r, t)
  | [], t, _ => rfl
  | s :: r, t, h => by
    rw [List.length_cons, decFs, encFs, List.append_assoc, takeF_enc s _ (h s (List.mem_cons_self ..))]
    dsimp only
    rw [decFs_enc r t (fun x hx => h x (List.mem_cons_of_mem _ hx))]
theorem decR_enc (r : List (List UInt8)) (t : List UInt8) (h : May r) : decR (encR r ++ t) = .ok (r, t) := by
  have e : encR r ++ t = vb r.length ++ (encFs r ++ t) := by unfold encR; rw [List.append_assoc]
  have h1 := h.1
  have htk := tk_back r.length (encFs r ++ t) (by omega)
  unfold decR
  rw [e, htk]
  dsimp only
  rw [if_pos rfl, if_neg (by omega), List.drop_left, decFs_enc r t h.2]
theorem decRs_enc : ∀ (l : List (List (List UInt8))) (t : List UInt8), (∀ r ∈ l, May r) → decRs l.length (encRs l ++ t) = .ok (l, t)
  | [], t, _ => rfl
  | r :: l, t, h => by
    rw [List.length_cons, decRs, encRs, List.append_assoc, decR_enc r _ (h r (List.mem_cons_self ..))]
    dsimp only
    rw [decRs_enc l t (fun x hx => h x (List.mem_cons_of_mem _ hx))]
theorem dec_enc (l : List (List (List UInt8))) (h : ∀ r ∈ l, May r) (hl : l.length ≤ 5000) : dec (enc l) = .ok l := by
  have htk := tk_back l.length (encRs l) (by omega)
  have hd := decRs_enc l [] h
  rw [List.append_nil] at hd
  unfold dec enc
  rw [htk]
  dsimp only
  rw [if_pos rfl, if_neg (by omega), List.drop_left, hd]
  simp

theorem takeF_only {b s t : List UInt8} (h : takeF b = .ok (s, t)) : b = encF s ++ t ∧ s.length ≤ 1000 := by
  unfold takeF at h
  split at h
  · rename_i h0
    obtain ⟨_, h1, _⟩ := tk_only b h0
    split at h
    · cases h
    · rename_i h2
      split at h
      · cases h
      · rename_i h3
        injection h with h
        obtain ⟨rfl, rfl⟩ := Prod.mk.inj h
        have hl : ((b.drop (tk b).2.1).take (tk b).1).length = (tk b).1 := by rw [List.length_take]; omega
        refine ⟨?_, by rw [hl]; omega⟩
        unfold encF
        rw [hl, List.append_assoc, List.take_append_drop]
        exact h1
  · cases h
theorem decFs_only : ∀ (k : Nat) (b : List UInt8) (r : List (List UInt8)) (t : List UInt8), decFs k b = .ok (r, t) → b = encFs r ++ t ∧ r.length = k ∧ ∀ s ∈ r, s.length ≤ 1000
  | 0, b, r, t, h => by
    unfold decFs at h
    injection h with h
    obtain ⟨rfl, rfl⟩ := Prod.mk.inj h
    exact ⟨rfl, rfl, fun _ h => by cases h⟩
  | k + 1, b, r, t, h => by
    unfold decFs at h
    split at h
    · cases h
    · rename_i s b' hf
      split at h
      · cases h
      · rename_i r' b'' hd
        injection h with h
        obtain ⟨rfl, rfl⟩ := Prod.mk.inj h
        obtain ⟨h1, h2⟩ := takeF_only hf
        obtain ⟨h3, h4, h5⟩ := decFs_only k b' r' _ hd
        refine ⟨by rw [h1, h3, encFs, List.append_assoc], by simp [h4], fun x hx => ?_⟩
        rcases List.mem_cons.1 hx with rfl | hx
        · exact h2
        · exact h5 x hx
theorem decR_only {b : List UInt8} {r : List (List UInt8)} {t : List UInt8} (h : decR b = .ok (r, t)) : b = encR r ++ t ∧ May r := by
  unfold decR at h
  split at h
  · rename_i h0
    obtain ⟨_, h1, _⟩ := tk_only b h0
    split at h
    · cases h
    · rename_i h2
      obtain ⟨h3, h4, h5⟩ := decFs_only _ _ _ _ h
      refine ⟨?_, by omega, h5⟩
      unfold encR
      rw [h4, List.append_assoc, ← h3]
      exact h1
  · cases h
theorem decRs_only : ∀ (k : Nat) (b : List UInt8) (l : List (List (List UInt8))) (t : List UInt8), decRs k b = .ok (l, t) → b = encRs l ++ t ∧ l.length = k ∧ ∀ r ∈ l, May r
  | 0, b, l, t, h => by
    unfold decRs at h
    injection h with h
    obtain ⟨rfl, rfl⟩ := Prod.mk.inj h
    exact ⟨rfl, rfl, fun _ h => by cases h⟩
  | k + 1, b, l, t, h => by
    unfold decRs at h
    split at h
    · cases h
    · rename_i r b' hf
      split at h
      · cases h
      · rename_i l' b'' hd
        injection h with h
        obtain ⟨rfl, rfl⟩ := Prod.mk.inj h
        obtain ⟨h1, h2⟩ := decR_only hf
        obtain ⟨h3, h4, h5⟩ := decRs_only k b' l' _ hd
        refine ⟨by rw [h1, h3, encRs, List.append_assoc], by simp [h4], fun x hx => ?_⟩
        rcases List.mem_cons.1 hx with rfl | hx
        · exact h2
        · exact h5 x hx
theorem enc_dec {b : List UInt8} {l : List (List (List UInt8))} (h : dec b = .ok l) : enc l = b ∧ (∀ r ∈ l, May r) ∧ l.length ≤ 5000 := by
  unfold dec at h
  split at h
  · rename_i h0
    obtain ⟨_, h1, _⟩ := tk_only b h0
    split at h
    · cases h
    · rename_i h2
      split at h
      · cases h
      · rename_i l' b' hd
        split at h
        · rename_i hb
          injection h with h
          subst h hb
          obtain ⟨h3, h4, h5⟩ := decRs_only _ _ _ _ hd
          refine ⟨?_, h5, by omega⟩
          unfold enc
          rw [List.append_nil] at h3
          rw [h4, ← h3]
          exact h1.symm
        · cases h
  · cases h
end Go.Proofs.YtknmhdkomjjneaaGreatDoor.Cht.Fm

/-
  Plain mathematics of layer 3 (press), by the document's words: likenesses, tokens, expanding; what is pressed expands to the bytes.
-/

namespace Go.Proofs.YtknmhdkomjjneaaGreatDoor.Cht.Pm
open Vm

def likeF (b : List UInt8) (d : Nat) : Nat → Nat → Nat
  | 0, _ => 0
  | f + 1, i => if i < b.length ∧ b[i]? = b[i - d]? then likeF b d f (i + 1) + 1 else 0
def like (b : List UInt8) (i d : Nat) : Nat := likeF b d 200 i
theorem likeF_le (b : List UInt8) (d : Nat) : ∀ f i, likeF b d f i ≤ f
  | 0, _ => Nat.le_refl _
  | f + 1, i => by
    unfold likeF
    split
    · have := likeF_le b d f (i + 1); omega
    · omega
theorem likeF_len (b : List UInt8) (d : Nat) : ∀ f i, i ≤ b.length → i + likeF b d f i ≤ b.length
  | 0, i, h => h
  | f + 1, i, h => by
    unfold likeF
    split
    · rename_i h1
      have := likeF_len b d f (i + 1) h1.1; omega
    · omega
theorem likeF_eq (b : List UInt8) (d : Nat) : ∀ f i j, j < likeF b d f i → b[i + j]? = b[i + j - d]?
  | 0, _, j, h => by simp [likeF] at h
  | f + 1, i, j, h => by
    unfold likeF at h
    split at h
    · rename_i h1
      match j, h with
      | 0, _ => exact h1.2
      | j + 1, h =>
        have := likeF_eq b d f (i + 1) j (by omega)
        rw [show i + (j + 1) = i + 1 + j by omega]
        exact this
    · omega
theorem like_le (b : List UInt8) (i d : Nat) : like b i d ≤ 200 := likeF_le b d 200 i
theorem like_len (b : List UInt8) (i d : Nat) (h : i ≤ b.length) : i + like b i d ≤ b.length := likeF_len b d 200 i h
theorem like_eq (b : List UInt8) (i d j : Nat) (h : j < like b i d) : b[i + j]? = b[i + j - d]? := likeF_eq b d 200 i j h

def bestF (b : List UInt8) (i : Nat) : Nat → Nat → Nat × Nat → Nat × Nat
  | 0, _, r => r
  | k + 1, d, r => bestF b i k (d + 1) (if 4 ≤ like b i d ∧ r.1 < like b i d then (like b i d, d) else r)
def best (b : List UInt8) (i : Nat) : Nat × Nat := bestF b i (min i 4096) 1 (0, 0)
def Good (b : List UInt8) (i : Nat) (r : Nat × Nat) : Prop := r = (0, 0) ∨ (4 ≤ r.1 ∧ r.1 = like b i r.2 ∧ 1 ≤ r.2 ∧ r.2 ≤ i ∧ r.2 ≤ 4096)
theorem bestF_good (b : List UInt8) (i : Nat) : ∀ k d r, 1 ≤ d → d + k ≤ min i 4096 + 1 → Good b i r → Good b i (bestF b i k d r)
  | 0, _, _, _, _, h => h
  | k + 1, d, r, hd, hk, h => by
    unfold bestF
    refine bestF_good b i k (d + 1) _ (by omega) (by omega) ?_
    split
    · rename_i h1
      exact .inr ⟨h1.1, rfl, hd, by dsimp only; omega, by dsimp only; omega⟩
    · exact h
theorem best_good (b : List UInt8) (i : Nat) : Good b i (best b i) := bestF_good b i _ 1 _ (Nat.le_refl _) (by omega) (.inl rfl)
theorem best_cases (b : List UInt8) (i : Nat) (h : i ≤ b.length) : (best b i).1 = 0 ∨ (4 ≤ (best b i).1 ∧ (best b i).1 ≤ 200 ∧ i + (best b i).1 ≤ b.length ∧ 1 ≤ (best b i).2 ∧ (best b i).2 ≤ i ∧ (best b i).2 ≤ 4096 ∧ ∀ j, j < (best b i).1 → b[i + j]? = b[i + j - (best b i).2]?) := by
  rcases best_good b i with h1 | ⟨h1, h2, h3, h4, h5⟩
  · exact .inl (by rw [h1])
  · refine .inr ⟨h1, by rw [h2]; exact like_le _ _ _, by rw [h2]; exact like_len _ _ _ h, h3, h4, h5, fun j hj => like_eq b i _ j (by rw [← h2]; exact hj)⟩

def asB (l : List UInt8) : List UInt8 :=
  if _h : l = [] then [] else vb (2 * (min 64 l.length - 1)) ++ (l.take 64 ++ asB (l.drop 64))
termination_by l.length
decreasing_by
  have : 0 < l.length := List.length_pos_iff.2 _h
  simp; omega
theorem asB_nil : asB [] = [] := by rw [asB]; simp
theorem asB_ne (l : List UInt8) (h : l ≠ []) : asB l = vb (2 * (min 64 l.length - 1)) ++ (l.take 64 ++ asB (l.drop 64)) := by rw [asB, dif_neg h]

def pressGo (b : List UInt8) (from_ i : Nat) : List UInt8 :=
  if i < b.length then
    if h0 : (best b i).1 = 0 then pressGo b from_ (i + 1)
    else asB ((b.take i).drop from_) ++ (vb (2 * ((best b i).1 - 4) + 1) ++ (vb (best b i).2 ++ pressGo b (i + (best b i).1) (i + (best b i).1)))
  else asB (b.drop from_)
termination_by b.length - i
def pressS (b : List UInt8) : List UInt8 := vb b.length ++ pressGo b 0 0

def copyN : Nat → Nat → List UInt8 → List UInt8
  | 0, _, o => o
  | k + 1, d, o => copyN k d (o ++ [o.getD (o.length - d) 0])

theorem tk_pos (l : List UInt8) (h : (tk l).2.2 = 0) : 1 ≤ (tk l).2.1 := by
  rw [(tk_only l h).2.2]
  exact vb_pos _

def expGo (n : Nat) (out r : List UInt8) (p k : Nat) : List UInt8 × Nat × Nat × Nat :=
  if h0 : r = [] then (if out.length < n then ([], 0, 0, 3) else (out, p, k, 0))
  else if h1 : (tk r).2.2 = 0 then
    if (tk r).1 % 2 = 0 then
      if (r.drop (tk r).2.1).length < (tk r).1 / 2 + 1 then ([], 0, 0, 2)
      else if n < out.length + ((tk r).1 / 2 + 1) then ([], 0, 0, 3)
      else expGo n (out ++ (r.drop (tk r).2.1).take ((tk r).1 / 2 + 1)) ((r.drop (tk r).2.1).drop ((tk r).1 / 2 + 1)) (p + 1) k
    else if (tk (r.drop (tk r).2.1)).2.2 = 0 then
      if (tk (r.drop (tk r).2.1)).1 = 0 ∨ 4096 < (tk (r.drop (tk r).2.1)).1 ∨ out.length < (tk (r.drop (tk r).2.1)).1 ∨ n - out.length < (tk r).1 / 2 + 4 then ([], 0, 0, 3)
      else expGo n (copyN ((tk r).1 / 2 + 4) (tk (r.drop (tk r).2.1)).1 out) ((r.drop (tk r).2.1).drop (tk (r.drop (tk r).2.1)).2.1) p (k + 1)
    else ([], 0, 0, (tk (r.drop (tk r).2.1)).2.2)
  else ([], 0, 0, (tk r).2.2)
termination_by r.length
decreasing_by
  all_goals
    have h2 := tk_pos r h1
    have h3 : 0 < r.length := List.length_pos_iff.2 h0
    simp only [List.length_drop]
    omega
def expS (r : List UInt8) (most : Int) : List UInt8 × Nat × Nat × Nat :=
  if (tk r).2.2 = 0 then
    if most < 0 ∨ most < ((tk r).1 : Int) then ([], 0, 0, 5) else expGo (tk r).1 [] (r.drop (tk r).2.1) 0 0
  else ([], 0, 0, (tk r).2.2)

theorem copyN_take (b : List UInt8) (d : Nat) : ∀ k i, i + k ≤ b.length → 1 ≤ d → d ≤ i → (∀ j, j < k → b[i + j]? = b[i + j - d]?) → copyN k d (b.take i) = b.take (i + k)
  | 0, _, _, _, _, _ => rfl
  | k + 1, i, hl, h1, h2, h => by
    unfold copyN
    have hlen : (b.take i).length = i := by rw [List.length_take]; omega
    have e0 := h 0 (by omega)
    have hi : i < b.length := by omega
    have e1 : b.take i ++ [(b.take i).getD ((b.take i).length - d) 0] = b.take (i + 1) := by
      have hq : (b.take i).getD ((b.take i).length - d) 0 = b[i] := by
        rw [hlen, List.getD_eq_getElem?_getD, List.getElem?_take, if_pos (by omega)]
        rw [Nat.add_zero] at e0
        rw [← e0, List.getElem?_eq_getElem hi]
        rfl
      rw [hq, List.take_add_one, List.getElem?_eq_getElem hi]
      rfl
    rw [e1, copyN_take b d k (i + 1) (by omega) h1 (by omega) (fun j hj => by rw [show i + 1 + j = i + (j + 1) by omega]; exact h (j + 1) (by omega))]
    congr 1
    omega

def chunks (m : Nat) : Nat := (m + 63) / 64

theorem expGo_lit (n : Nat) (out l r : List UInt8) (p k : Nat) (h1 : 1 ≤ l.length) (h2 : l.length ≤ 64) (hn : out.length + l.length ≤ n) :
    expGo n out (vb (2 * (l.length - 1)) ++ (l ++ r)) p k = expGo n (out ++ l) r (p + 1) k := by
  have htk := tk_back (2 * (l.length - 1)) (l ++ r) (by omega)
  have hne : vb (2 * (l.length - 1)) ++ (l ++ r) ≠ [] := by
    intro e
    have h5 := congrArg List.length e
    have h6 := vb_pos (2 * (l.length - 1))
    rw [List.length_append, List.length_nil] at h5
    omega
  rw [expGo, dif_neg hne, htk]
  dsimp only
  have hd : 2 * (l.length - 1) / 2 + 1 = l.length := by omega
  rw [dif_pos rfl, if_pos (by omega), hd, List.drop_left, if_neg (by simp), if_neg (by omega), List.take_left, List.drop_left]
theorem expGo_match (n : Nat) (out r : List UInt8) (m d p k : Nat) (h4 : 4 ≤ m) (hm : m ≤ 200) (h1 : 1 ≤ d) (h2 : d ≤ 4096) (h3 : d ≤ out.length) (hn : out.length + m ≤ n) :
    expGo n out (vb (2 * (m - 4) + 1) ++ (vb d ++ r)) p k = expGo n (copyN m d out) r p (k + 1) := by
  have htk := tk_back (2 * (m - 4) + 1) (vb d ++ r) (by omega)
  have htk2 := tk_back d r (by omega)
  have hne : vb (2 * (m - 4) + 1) ++ (vb d ++ r) ≠ [] := by
    intro e
    have h5 := congrArg List.length e
    have h6 := vb_pos (2 * (m - 4) + 1)
    rw [List.length_append, List.length_nil] at h5
    omega
  rw [expGo, dif_neg hne, htk]
  dsimp only
  have hd : (2 * (m - 4) + 1) / 2 + 4 = m := by omega
  rw [dif_pos rfl, if_neg (by omega), List.drop_left, htk2]
  dsimp only
  rw [if_pos rfl, if_neg (by omega), hd, List.drop_left]

theorem expGo_as (n : Nat) : ∀ (m : Nat) (l : List UInt8), l.length ≤ m → ∀ (out r : List UInt8) (p k : Nat), out.length + l.length ≤ n → expGo n out (asB l ++ r) p k = expGo n (out ++ l) r (p + chunks l.length) k
  | 0, l, hm, out, r, p, k, _ => by
    obtain rfl : l = [] := List.eq_nil_of_length_eq_zero (by omega)
    simp [asB_nil, chunks]
  | m + 1, l, hm, out, r, p, k, hn => by
    by_cases h : l = []
    · subst h; simp [asB_nil, chunks]
    · have hp : 0 < l.length := List.length_pos_iff.2 h
      rw [asB_ne l h, List.append_assoc, List.append_assoc]
      have ht : (l.take 64).length = min 64 l.length := List.length_take
      rw [← ht]
      rw [expGo_lit n out (l.take 64) (asB (l.drop 64) ++ r) p k (by omega) (by omega) (by omega)]
      rw [expGo_as n m (l.drop 64) (by simp; omega) _ r _ k (by simp; omega)]
      rw [List.append_assoc, List.take_append_drop]
      congr 1
      unfold chunks
      simp
      omega

def cnt (b : List UInt8) (from_ i : Nat) : Nat × Nat :=
  if i < b.length then
    if h0 : (best b i).1 = 0 then cnt b from_ (i + 1)
    else (chunks (i - from_) + (cnt b (i + (best b i).1) (i + (best b i).1)).1, (cnt b (i + (best b i).1) (i + (best b i).1)).2 + 1)
  else (chunks (b.length - from_), 0)
termination_by b.length - i

theorem expGo_press (b : List UInt8) : ∀ (m from_ i : Nat), b.length - i ≤ m → from_ ≤ i → i ≤ b.length → ∀ p k, expGo b.length (b.take from_) (pressGo b from_ i) p k = (b, p + (cnt b from_ i).1, k + (cnt b from_ i).2, 0) := by
  have last : ∀ from_, from_ ≤ b.length → ∀ p k, expGo b.length (b.take from_) (pressGo b from_ b.length) p k = (b, p + (cnt b from_ b.length).1, k + (cnt b from_ b.length).2, 0) := by
    intro from_ hf p k
    rw [pressGo, if_neg (by omega), cnt, if_neg (by omega)]
    have := expGo_as b.length (b.drop from_).length (b.drop from_) (Nat.le_refl _) (b.take from_) [] p k (by simp; omega)
    rw [List.append_nil] at this
    rw [this, List.take_append_drop, expGo, dif_pos rfl, if_neg (by omega), List.length_drop]
    rfl
  intro m
  induction m with
  | zero =>
    intro from_ i hm hf hi p k
    obtain rfl : i = b.length := by omega
    exact last from_ hf p k
  | succ m ih =>
    intro from_ i hm hf hi p k
    by_cases hlt : i < b.length
    · rw [pressGo, if_pos hlt, cnt, if_pos hlt]
      rcases best_cases b i hi with h0 | ⟨h4, h200, hl, hd1, hdi, hd4, hq⟩
      · rw [dif_pos h0, dif_pos h0]
        exact ih from_ (i + 1) (by omega) (by omega) (by omega) p k
      · rw [dif_neg (by omega), dif_neg (by omega)]
        have e1 : b.take from_ ++ (b.take i).drop from_ = b.take i := by
          have := List.take_append_drop from_ (b.take i)
          rwa [List.take_take, Nat.min_eq_left hf] at this
        have hti : (b.take i).length = i := by rw [List.length_take]; omega
        rw [expGo_as b.length _ _ (Nat.le_refl _) (b.take from_) _ p k (by rw [← List.length_append, e1, hti]; omega), e1]
        rw [expGo_match b.length (b.take i) _ _ _ _ _ h4 h200 hd1 hd4 (by omega) (by omega)]
        rw [copyN_take b _ _ i (by omega) hd1 hdi hq]
        rw [ih _ _ (by omega) (Nat.le_refl _) (by omega) _ _, List.length_drop, hti]
        simp only [Prod.mk.injEq, true_and, and_true]
        omega
    · obtain rfl : i = b.length := by omega
      exact last from_ hf p k
theorem press_back (b : List UInt8) (hb : b.length ≤ 20000) (most : Int) (hm : (b.length : Int) ≤ most) : expS (pressS b) most = (b, (cnt b 0 0).1, (cnt b 0 0).2, 0) := by
  have htk := tk_back b.length (pressGo b 0 0) (by omega)
  unfold expS pressS
  rw [htk]
  dsimp only
  rw [if_pos rfl, if_neg (by omega), List.drop_left]
  have := expGo_press b b.length 0 0 (by omega) (Nat.le_refl _) (Nat.zero_le _) 0 0
  rw [Nat.zero_add, Nat.zero_add, List.take_zero] at this
  exact this
theorem asB_len : ∀ (m : Nat) (l : List UInt8), l.length ≤ m → (asB l).length = l.length + chunks l.length
  | 0, l, hm => by
    obtain rfl : l = [] := List.eq_nil_of_length_eq_zero (by omega)
    simp [asB_nil, chunks]
  | m + 1, l, hm => by
    by_cases h : l = []
    · subst h; simp [asB_nil, chunks]
    · have hp : 0 < l.length := List.length_pos_iff.2 h
      have e1 : (vb (2 * (min 64 l.length - 1))).length = 1 := by rw [vb_lt _ (by omega)]; rfl
      rw [asB_ne l h, List.length_append, List.length_append, asB_len m (l.drop 64) (by simp; omega), e1, List.length_take, List.length_drop]
      unfold chunks
      omega
theorem match_len (m d : Nat) (h4 : 4 ≤ m) (hm : m ≤ 200) (hd : d ≤ 4096) : (vb (2 * (m - 4) + 1)).length + (vb d).length + 1 ≤ m := by
  have e2 : (vb d).length ≤ 2 := vb_len_le 1 d (by omega)
  by_cases h : m ≤ 67
  · have e1 : (vb (2 * (m - 4) + 1)).length = 1 := by rw [vb_lt _ (by omega)]; rfl
    omega
  · have e1 : (vb (2 * (m - 4) + 1)).length ≤ 2 := vb_len_le 1 _ (by omega)
    omega
theorem pressGo_len (b : List UInt8) : ∀ (m from_ i : Nat), b.length - i ≤ m → from_ ≤ i → i ≤ b.length → (pressGo b from_ i).length ≤ (b.length - from_) + (b.length - from_) / 64 + 1 := by
  have last : ∀ from_, (pressGo b from_ b.length).length ≤ (b.length - from_) + (b.length - from_) / 64 + 1 := by
    intro from_
    rw [pressGo, if_neg (by omega), asB_len _ _ (Nat.le_refl _), List.length_drop]
    unfold chunks
    omega
  intro m
  induction m with
  | zero =>
    intro from_ i hm hf hi
    obtain rfl : i = b.length := by omega
    exact last from_
  | succ m ih =>
    intro from_ i hm hf hi
    by_cases hlt : i < b.length
    · rw [pressGo, if_pos hlt]
      rcases best_cases b i hi with h0 | ⟨h4, h200, hl, hd1, hdi, hd4, hq⟩
      · rw [dif_pos h0]
        exact ih from_ (i + 1) (by omega) (by omega) (by omega)
      · rw [dif_neg (by omega)]
        have h1 := ih (i + (best b i).1) (i + (best b i).1) (by omega) (Nat.le_refl _) (by omega)
        have h2 := match_len _ _ h4 h200 hd4
        rw [List.length_append, List.length_append, List.length_append, asB_len _ _ (Nat.le_refl _), List.length_drop, List.length_take]
        unfold chunks
        omega
    · obtain rfl : i = b.length := by omega
      exact last from_
theorem press_len (b : List UInt8) (hb : b.length ≤ 20000) : (pressS b).length ≤ b.length + b.length / 64 + 4 := by
  have h1 := pressGo_len b b.length 0 0 (by omega) (Nat.le_refl _) (Nat.zero_le _)
  have h2 : (vb b.length).length ≤ 3 := vb_len_le 2 _ (by omega)
  unfold pressS
  rw [List.length_append]
  omega

theorem likeF_ge (b : List UInt8) (d : Nat) : ∀ (n f i : Nat), n ≤ f → i + n ≤ b.length → (∀ j, j < n → b[i + j]? = b[i + j - d]?) → n ≤ likeF b d f i
  | 0, _, _, _, _, _ => Nat.zero_le _
  | n + 1, 0, _, h, _, _ => by omega
  | n + 1, f + 1, i, h, hl, hq => by
    unfold likeF
    rw [if_pos ⟨by omega, hq 0 (by omega)⟩]
    have := likeF_ge b d n f (i + 1) (by omega) (by omega) (fun j hj => by rw [show i + 1 + j = i + (j + 1) by omega]; exact hq (j + 1) (by omega))
    omega
end Go.Proofs.YtknmhdkomjjneaaGreatDoor.Cht.Pm

/-
  Plain mathematics of CRC-32: the table's entries, the register, the checksum, linearity, and that another byte gives another checksum.
-/
namespace Go.Proofs.YtknmhdkomjjneaaGreatDoor.Cm

def step (n : Nat) : Nat := if n % 2 = 1 then (n / 2) ^^^ 3988292384 else n / 2
def iter : Nat → Nat → Nat
  | 0, n => n
  | k + 1, n => iter k (step n)
def ent (n : Nat) : Nat := iter 8 n
theorem step_odd (n : Nat) (h : n % 2 = 1) : step n = (n / 2) ^^^ 3988292384 := by unfold step; rw [if_pos h]
theorem step_even (n : Nat) (h : n % 2 = 0) : step n = n / 2 := by unfold step; rw [if_neg (by omega)]
theorem iter_succ (k n : Nat) : iter (k + 1) n = iter k (step n) := rfl
theorem xor_lt {a b : Nat} (ha : a < 4294967296) (hb : b < 4294967296) : a ^^^ b < 4294967296 := Nat.xor_lt_two_pow (n := 32) ha hb
theorem xor_lt8 {a b : Nat} (ha : a < 256) (hb : b < 256) : a ^^^ b < 256 := Nat.xor_lt_two_pow (n := 8) ha hb
theorem step_lt (n : Nat) (h : n < 4294967296) : step n < 4294967296 := by
  unfold step
  split
  · exact xor_lt (by omega) (by omega)
  · omega
theorem iter_lt : ∀ (k n : Nat), n < 4294967296 → iter k n < 4294967296
  | 0, _, h => h
  | k + 1, n, h => iter_lt k _ (step_lt n h)
theorem ent_lt (n : Nat) (h : n < 4294967296) : ent n < 4294967296 := iter_lt 8 n h

def tab : List Nat := (List.range 256).map ent
theorem tab_len : tab.length = 256 := by simp [tab]
theorem tab_get (i : Nat) (h : i < 256) : tab[i]? = some (ent i) := by simp [tab, h]
theorem tab_getD (i : Nat) (h : i < 256) : tab.getD i 0 = ent i := by simp [List.getD, tab_get i h]
theorem tab_lt : ∀ x ∈ tab, x < 4294967296 := by
  intro x hx
  simp only [tab, List.mem_map, List.mem_range] at hx
  obtain ⟨i, hi, rfl⟩ := hx
  exact ent_lt i (by omega)

def upd (t : List Nat) (c : Nat) (x : UInt8) : Nat := t.getD (c % 256 ^^^ x.toNat) 0 ^^^ c / 256
def more (t : List Nat) (c : Nat) (l : List UInt8) : Nat := l.foldl (upd t) c
def sum (t : List Nat) (l : List UInt8) : Nat := 4294967295 ^^^ more t 4294967295 l
theorem more_cons (t : List Nat) (c : Nat) (x : UInt8) (l : List UInt8) : more t c (x :: l) = more t (upd t c x) l := rfl
theorem idx_lt (c : Nat) (x : UInt8) : c % 256 ^^^ x.toNat < 256 := xor_lt8 (by omega) x.toNat_lt
theorem idx_ref (c : Nat) (x : UInt8) : (c ^^^ x.toNat) % 256 = c % 256 ^^^ x.toNat := by
  have h := Nat.xor_mod_two_pow (a := c) (b := x.toNat) (n := 8)
  have e : (2 : Nat) ^ 8 = 256 := by decide
  rw [e] at h
  have := x.toNat_lt
  rw [h, Nat.mod_eq_of_lt (a := x.toNat) (by omega)]
def Fits (t : List Nat) : Prop := ∀ x ∈ t, x < 4294967296
theorem getD_lt (t : List Nat) (h : Fits t) (i : Nat) : t.getD i 0 < 4294967296 := by
  simp only [List.getD]
  cases hi : t[i]? with
  | none => simp
  | some x => simpa using h x (List.mem_of_getElem? hi)
theorem upd_lt (t : List Nat) (h : Fits t) (c : Nat) (hc : c < 4294967296) (x : UInt8) : upd t c x < 4294967296 := xor_lt (getD_lt t h _) (by omega)
theorem more_lt (t : List Nat) (h : Fits t) : ∀ (l : List UInt8) (c : Nat), c < 4294967296 → more t c l < 4294967296
  | [], _, hc => hc
  | x :: l, c, hc => more_lt t h l _ (upd_lt t h c hc x)
theorem sum_lt (t : List Nat) (h : Fits t) (l : List UInt8) : sum t l < 4294967296 := xor_lt (by omega) (more_lt t h l _ (by omega))

def byteAt (c i : Nat) : UInt8 := UInt8.ofNat (c / 256 ^ i)
def four (c : Nat) : List UInt8 := [byteAt c 0, byteAt c 1, byteAt c 2, byteAt c 3]
theorem byteAt_nat (c i : Nat) : (byteAt c i).toNat = c / 256 ^ i % 256 := by simp [byteAt]
theorem four_len (c : Nat) : (four c).length = 4 := rfl
theorem four_get (c i : Nat) (h : i < 4) : (four c)[i]? = some (byteAt c i) := by
  match i, h with
  | 0, _ => rfl
  | 1, _ => rfl
  | 2, _ => rfl
  | 3, _ => rfl

def sealS (t : List Nat) (l : List UInt8) : List UInt8 × Nat := if t.length = 256 then (l ++ four (sum t l), 0) else ([], 1)
def openS (t : List Nat) (l : List UInt8) : List UInt8 × Nat :=
  if t.length = 256 then
    if l.length < 4 then ([], 2)
    else if l.drop (l.length - 4) = four (sum t (l.take (l.length - 4))) then (l.take (l.length - 4), 0) else ([], 4)
  else ([], 1)
theorem open_seal (t : List Nat) (ht : t.length = 256) (l : List UInt8) : openS t (l ++ four (sum t l)) = (l, 0) := by
  unfold openS
  have hl : (l ++ four (sum t l)).length - 4 = l.length := by simp [four_len]
  rw [if_pos ht, if_neg (by simp [four_len]), hl, List.drop_left' rfl, List.take_left' rfl, if_pos rfl]
end Go.Proofs.YtknmhdkomjjneaaGreatDoor.Cm

/-
  Plain mathematics of varints: the document's way to read a number comes to the same.
-/

namespace Go.Proofs.YtknmhdkomjjneaaGreatDoor
namespace Vm
def val : List UInt8 → Nat
  | [] => 0
  | c :: r => c.toNat % 128 + 128 * val r

end Vm
end Go.Proofs.YtknmhdkomjjneaaGreatDoor

/-
  Plain mathematics of layer 3 (press): a run of one byte comes to little; a text said twice comes to not much more than said once.
-/

namespace Go.Proofs.YtknmhdkomjjneaaGreatDoor.Cht.Pm
open Vm

theorem pressGo_end (b : List UInt8) (f : Nat) : pressGo b f b.length = asB (b.drop f) := by rw [pressGo, if_neg (by omega)]
theorem pressGo_at (b : List UInt8) (f i : Nat) (h : i = b.length) : pressGo b f i = asB (b.drop f) := by subst h; exact pressGo_end b f
theorem pressGo_match (b : List UInt8) (f i : Nat) (h : i < b.length) (h0 : (best b i).1 ≠ 0) :
    pressGo b f i = asB ((b.take i).drop f) ++ (vb (2 * ((best b i).1 - 4) + 1) ++ (vb (best b i).2 ++ pressGo b (i + (best b i).1) (i + (best b i).1))) := by rw [pressGo, if_pos h, dif_neg h0]
theorem pressGo_lit (b : List UInt8) (f i : Nat) (h : i < b.length) (h0 : (best b i).1 = 0) : pressGo b f i = pressGo b f (i + 1) := by rw [pressGo, if_pos h, dif_pos h0]
theorem bestF_stay (b : List UInt8) (i : Nat) : ∀ k d (r : Nat × Nat), (∀ e, d ≤ e → e < d + k → like b i e ≤ r.1 ∨ like b i e < 4) → bestF b i k d r = r
  | 0, _, _, _ => rfl
  | k + 1, d, r, h => by
    unfold bestF
    rw [if_neg (by have := h d (Nat.le_refl _) (by omega); omega)]
    exact bestF_stay b i k (d + 1) r fun e h1 h2 => h e (by omega) (by omega)
theorem best_none (b : List UInt8) (i : Nat) (h : ∀ e, 1 ≤ e → e ≤ i → e ≤ 4096 → like b i e < 4) : best b i = (0, 0) :=
  bestF_stay b i _ 1 _ fun e h1 h2 => .inr (h e h1 (by omega) (by omega))
end Go.Proofs.YtknmhdkomjjneaaGreatDoor.Cht.Pm
