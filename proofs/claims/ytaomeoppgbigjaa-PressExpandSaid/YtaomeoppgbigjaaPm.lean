/-
  Plain mathematics of layer 3 (press), by the document's words: likenesses, tokens, expanding; what is pressed expands to the bytes.
-/
import Derived.Test.YtaomeoppgbigjaaVm
namespace Go.Proofs.Ytaomeoppgbigjaa.Pm
open Vm

/-- How many bytes from i on are like the ones d before, at most f. -/
def likeF (b : List UInt8) (d : Nat) : Nat → Nat → Nat
  | 0, _ => 0
  | f + 1, i => if i < b.length ∧ b[i]? = b[i - d]? then likeF b d f (i + 1) + 1 else 0
def like (b : List UInt8) (i d : Nat) : Nat := likeF b d 200 i
theorem likeF_le (b : List UInt8) (d : Nat) : ∀ f i, likeF b d f i ≤ f
  | 0, _ => Nat.le_refl _
  | f + 1, i => by
    unfold likeF
    split
    · have := likeF_le b d f (i + 1); omega
    · omega
theorem likeF_len (b : List UInt8) (d : Nat) : ∀ f i, i ≤ b.length → i + likeF b d f i ≤ b.length
  | 0, i, h => h
  | f + 1, i, h => by
    unfold likeF
    split
    · rename_i h1
      have := likeF_len b d f (i + 1) h1.1; omega
    · omega
theorem likeF_eq (b : List UInt8) (d : Nat) : ∀ f i j, j < likeF b d f i → b[i + j]? = b[i + j - d]?
  | 0, _, j, h => by simp [likeF] at h
  | f + 1, i, j, h => by
    unfold likeF at h
    split at h
    · rename_i h1
      match j, h with
      | 0, _ => exact h1.2
      | j + 1, h =>
        have := likeF_eq b d f (i + 1) j (by omega)
        rw [show i + (j + 1) = i + 1 + j by omega]
        exact this
    · omega
theorem like_le (b : List UInt8) (i d : Nat) : like b i d ≤ 200 := likeF_le b d 200 i
theorem like_len (b : List UInt8) (i d : Nat) (h : i ≤ b.length) : i + like b i d ≤ b.length := likeF_len b d 200 i h
theorem like_eq (b : List UInt8) (i d j : Nat) (h : j < like b i d) : b[i + j]? = b[i + j - d]? := likeF_eq b d 200 i j h

/-- The longest likeness, its least distance: distances d, d + 1, .. (k of them) behind what was found so far. -/
def bestF (b : List UInt8) (i : Nat) : Nat → Nat → Nat × Nat → Nat × Nat
  | 0, _, r => r
  | k + 1, d, r => bestF b i k (d + 1) (if 4 ≤ like b i d ∧ r.1 < like b i d then (like b i d, d) else r)
def best (b : List UInt8) (i : Nat) : Nat × Nat := bestF b i (min i 4096) 1 (0, 0)
def Good (b : List UInt8) (i : Nat) (r : Nat × Nat) : Prop := r = (0, 0) ∨ (4 ≤ r.1 ∧ r.1 = like b i r.2 ∧ 1 ≤ r.2 ∧ r.2 ≤ i ∧ r.2 ≤ 4096)
theorem bestF_good (b : List UInt8) (i : Nat) : ∀ k d r, 1 ≤ d → d + k ≤ min i 4096 + 1 → Good b i r → Good b i (bestF b i k d r)
  | 0, _, _, _, _, h => h
  | k + 1, d, r, hd, hk, h => by
    unfold bestF
    refine bestF_good b i k (d + 1) _ (by omega) (by omega) ?_
    split
    · rename_i h1
      exact .inr ⟨h1.1, rfl, hd, by dsimp only; omega, by dsimp only; omega⟩
    · exact h
theorem best_good (b : List UInt8) (i : Nat) : Good b i (best b i) := bestF_good b i _ 1 _ (Nat.le_refl _) (by omega) (.inl rfl)
theorem best_cases (b : List UInt8) (i : Nat) (h : i ≤ b.length) : (best b i).1 = 0 ∨ (4 ≤ (best b i).1 ∧ (best b i).1 ≤ 200 ∧ i + (best b i).1 ≤ b.length ∧ 1 ≤ (best b i).2 ∧ (best b i).2 ≤ i ∧ (best b i).2 ≤ 4096 ∧ ∀ j, j < (best b i).1 → b[i + j]? = b[i + j - (best b i).2]?) := by
  rcases best_good b i with h1 | ⟨h1, h2, h3, h4, h5⟩
  · exact .inl (by rw [h1])
  · refine .inr ⟨h1, by rw [h2]; exact like_le _ _ _, by rw [h2]; exact like_len _ _ _ h, h3, h4, h5, fun j hj => like_eq b i _ j (by rw [← h2]; exact hj)⟩

/-- Literal tokens. -/
def asB (l : List UInt8) : List UInt8 :=
  if _h : l = [] then [] else vb (2 * (min 64 l.length - 1)) ++ (l.take 64 ++ asB (l.drop 64))
termination_by l.length
decreasing_by
  have : 0 < l.length := List.length_pos_iff.2 _h
  simp; omega
theorem asB_nil : asB [] = [] := by rw [asB]; simp
theorem asB_ne (l : List UInt8) (h : l ≠ []) : asB l = vb (2 * (min 64 l.length - 1)) ++ (l.take 64 ++ asB (l.drop 64)) := by rw [asB, dif_neg h]

/-- Tokens, the bytes from 'from_' on to i being literals that are not put yet. -/
def pressGo (b : List UInt8) (from_ i : Nat) : List UInt8 :=
  if i < b.length then
    if h0 : (best b i).1 = 0 then pressGo b from_ (i + 1)
    else asB ((b.take i).drop from_) ++ (vb (2 * ((best b i).1 - 4) + 1) ++ (vb (best b i).2 ++ pressGo b (i + (best b i).1) (i + (best b i).1)))
  else asB (b.drop from_)
termination_by b.length - i
def pressS (b : List UInt8) : List UInt8 := vb b.length ++ pressGo b 0 0

/-- k bytes, each the one d before the end. -/
def copyN : Nat → Nat → List UInt8 → List UInt8
  | 0, _, o => o
  | k + 1, d, o => copyN k d (o ++ [o.getD (o.length - d) 0])

theorem tk_pos (l : List UInt8) (h : (tk l).2.2 = 0) : 1 ≤ (tk l).2.1 := by
  rw [(tk_only l h).2.2]
  exact vb_pos _

/-- Token by token: the bytes, literal tokens, match tokens, the error. -/
def expGo (n : Nat) (out r : List UInt8) (p k : Nat) : List UInt8 × Nat × Nat × Nat :=
  if h0 : r = [] then (if out.length < n then ([], 0, 0, 3) else (out, p, k, 0))
  else if h1 : (tk r).2.2 = 0 then
    if (tk r).1 % 2 = 0 then
      if (r.drop (tk r).2.1).length < (tk r).1 / 2 + 1 then ([], 0, 0, 2)
      else if n < out.length + ((tk r).1 / 2 + 1) then ([], 0, 0, 3)
      else expGo n (out ++ (r.drop (tk r).2.1).take ((tk r).1 / 2 + 1)) ((r.drop (tk r).2.1).drop ((tk r).1 / 2 + 1)) (p + 1) k
    else if (tk (r.drop (tk r).2.1)).2.2 = 0 then
      if (tk (r.drop (tk r).2.1)).1 = 0 ∨ 4096 < (tk (r.drop (tk r).2.1)).1 ∨ out.length < (tk (r.drop (tk r).2.1)).1 ∨ n - out.length < (tk r).1 / 2 + 4 then ([], 0, 0, 3)
      else expGo n (copyN ((tk r).1 / 2 + 4) (tk (r.drop (tk r).2.1)).1 out) ((r.drop (tk r).2.1).drop (tk (r.drop (tk r).2.1)).2.1) p (k + 1)
    else ([], 0, 0, (tk (r.drop (tk r).2.1)).2.2)
  else ([], 0, 0, (tk r).2.2)
termination_by r.length
decreasing_by
  all_goals
    have h2 := tk_pos r h1
    have h3 : 0 < r.length := List.length_pos_iff.2 h0
    simp only [List.length_drop]
    omega
def expS (r : List UInt8) (most : Int) : List UInt8 × Nat × Nat × Nat :=
  if (tk r).2.2 = 0 then
    if most < 0 ∨ most < ((tk r).1 : Int) then ([], 0, 0, 5) else expGo (tk r).1 [] (r.drop (tk r).2.1) 0 0
  else ([], 0, 0, (tk r).2.2)

theorem copyN_take (b : List UInt8) (d : Nat) : ∀ k i, i + k ≤ b.length → 1 ≤ d → d ≤ i → (∀ j, j < k → b[i + j]? = b[i + j - d]?) → copyN k d (b.take i) = b.take (i + k)
  | 0, _, _, _, _, _ => rfl
  | k + 1, i, hl, h1, h2, h => by
    unfold copyN
    have hlen : (b.take i).length = i := by rw [List.length_take]; omega
    have e0 := h 0 (by omega)
    have hi : i < b.length := by omega
    have e1 : b.take i ++ [(b.take i).getD ((b.take i).length - d) 0] = b.take (i + 1) := by
      have hq : (b.take i).getD ((b.take i).length - d) 0 = b[i] := by
        rw [hlen, List.getD_eq_getElem?_getD, List.getElem?_take, if_pos (by omega)]
        rw [Nat.add_zero] at e0
        rw [← e0, List.getElem?_eq_getElem hi]
        rfl
      rw [hq, List.take_add_one, List.getElem?_eq_getElem hi]
      rfl
    rw [e1, copyN_take b d k (i + 1) (by omega) h1 (by omega) (fun j hj => by rw [show i + 1 + j = i + (j + 1) by omega]; exact h (j + 1) (by omega))]
    congr 1
    omega

/-- How many literal tokens. -/
def chunks (m : Nat) : Nat := (m + 63) / 64

theorem expGo_lit (n : Nat) (out l r : List UInt8) (p k : Nat) (h1 : 1 ≤ l.length) (h2 : l.length ≤ 64) (hn : out.length + l.length ≤ n) :
    expGo n out (vb (2 * (l.length - 1)) ++ (l ++ r)) p k = expGo n (out ++ l) r (p + 1) k := by
  have htk := tk_back (2 * (l.length - 1)) (l ++ r) (by omega)
  have hne : vb (2 * (l.length - 1)) ++ (l ++ r) ≠ [] := by
    intro e
    have h5 := congrArg List.length e
    have h6 := vb_pos (2 * (l.length - 1))
    rw [List.length_append, List.length_nil] at h5
    omega
  rw [expGo, dif_neg hne, htk]
  dsimp only
  have hd : 2 * (l.length - 1) / 2 + 1 = l.length := by omega
  rw [dif_pos rfl, if_pos (by omega), hd, List.drop_left, if_neg (by simp), if_neg (by omega), List.take_left, List.drop_left]
theorem expGo_match (n : Nat) (out r : List UInt8) (m d p k : Nat) (h4 : 4 ≤ m) (hm : m ≤ 200) (h1 : 1 ≤ d) (h2 : d ≤ 4096) (h3 : d ≤ out.length) (hn : out.length + m ≤ n) :
    expGo n out (vb (2 * (m - 4) + 1) ++ (vb d ++ r)) p k = expGo n (copyN m d out) r p (k + 1) := by
  have htk := tk_back (2 * (m - 4) + 1) (vb d ++ r) (by omega)
  have htk2 := tk_back d r (by omega)
  have hne : vb (2 * (m - 4) + 1) ++ (vb d ++ r) ≠ [] := by
    intro e
    have h5 := congrArg List.length e
    have h6 := vb_pos (2 * (m - 4) + 1)
    rw [List.length_append, List.length_nil] at h5
    omega
  rw [expGo, dif_neg hne, htk]
  dsimp only
  have hd : (2 * (m - 4) + 1) / 2 + 4 = m := by omega
  rw [dif_pos rfl, if_neg (by omega), List.drop_left, htk2]
  dsimp only
  rw [if_pos rfl, if_neg (by omega), hd, List.drop_left]

theorem expGo_as (n : Nat) : ∀ (m : Nat) (l : List UInt8), l.length ≤ m → ∀ (out r : List UInt8) (p k : Nat), out.length + l.length ≤ n → expGo n out (asB l ++ r) p k = expGo n (out ++ l) r (p + chunks l.length) k
  | 0, l, hm, out, r, p, k, _ => by
    obtain rfl : l = [] := List.eq_nil_of_length_eq_zero (by omega)
    simp [asB_nil, chunks]
  | m + 1, l, hm, out, r, p, k, hn => by
    by_cases h : l = []
    · subst h; simp [asB_nil, chunks]
    · have hp : 0 < l.length := List.length_pos_iff.2 h
      rw [asB_ne l h, List.append_assoc, List.append_assoc]
      have ht : (l.take 64).length = min 64 l.length := List.length_take
      rw [← ht]
      rw [expGo_lit n out (l.take 64) (asB (l.drop 64) ++ r) p k (by omega) (by omega) (by omega)]
      rw [expGo_as n m (l.drop 64) (by simp; omega) _ r _ k (by simp; omega)]
      rw [List.append_assoc, List.take_append_drop]
      congr 1
      unfold chunks
      simp
      omega

/-- How many tokens of each kind. -/
def cnt (b : List UInt8) (from_ i : Nat) : Nat × Nat :=
  if i < b.length then
    if h0 : (best b i).1 = 0 then cnt b from_ (i + 1)
    else (chunks (i - from_) + (cnt b (i + (best b i).1) (i + (best b i).1)).1, (cnt b (i + (best b i).1) (i + (best b i).1)).2 + 1)
  else (chunks (b.length - from_), 0)
termination_by b.length - i

theorem expGo_press (b : List UInt8) : ∀ (m from_ i : Nat), b.length - i ≤ m → from_ ≤ i → i ≤ b.length → ∀ p k, expGo b.length (b.take from_) (pressGo b from_ i) p k = (b, p + (cnt b from_ i).1, k + (cnt b from_ i).2, 0) := by
  have last : ∀ from_, from_ ≤ b.length → ∀ p k, expGo b.length (b.take from_) (pressGo b from_ b.length) p k = (b, p + (cnt b from_ b.length).1, k + (cnt b from_ b.length).2, 0) := by
    intro from_ hf p k
    rw [pressGo, if_neg (by omega), cnt, if_neg (by omega)]
    have := expGo_as b.length (b.drop from_).length (b.drop from_) (Nat.le_refl _) (b.take from_) [] p k (by simp; omega)
    rw [List.append_nil] at this
    rw [this, List.take_append_drop, expGo, dif_pos rfl, if_neg (by omega), List.length_drop]
    rfl
  intro m
  induction m with
  | zero =>
    intro from_ i hm hf hi p k
    obtain rfl : i = b.length := by omega
    exact last from_ hf p k
  | succ m ih =>
    intro from_ i hm hf hi p k
    by_cases hlt : i < b.length
    · rw [pressGo, if_pos hlt, cnt, if_pos hlt]
      rcases best_cases b i hi with h0 | ⟨h4, h200, hl, hd1, hdi, hd4, hq⟩
      · rw [dif_pos h0, dif_pos h0]
        exact ih from_ (i + 1) (by omega) (by omega) (by omega) p k
      · rw [dif_neg (by omega), dif_neg (by omega)]
        have e1 : b.take from_ ++ (b.take i).drop from_ = b.take i := by
          have := List.take_append_drop from_ (b.take i)
          rwa [List.take_take, Nat.min_eq_left hf] at this
        have hti : (b.take i).length = i := by rw [List.length_take]; omega
        rw [expGo_as b.length _ _ (Nat.le_refl _) (b.take from_) _ p k (by rw [← List.length_append, e1, hti]; omega), e1]
        rw [expGo_match b.length (b.take i) _ _ _ _ _ h4 h200 hd1 hd4 (by omega) (by omega)]
        rw [copyN_take b _ _ i (by omega) hd1 hdi hq]
        rw [ih _ _ (by omega) (Nat.le_refl _) (by omega) _ _, List.length_drop, hti]
        simp only [Prod.mk.injEq, true_and, and_true]
        omega
    · obtain rfl : i = b.length := by omega
      exact last from_ hf p k
/-- What is pressed expands to the bytes, by any bound that they do not pass. -/
theorem press_back (b : List UInt8) (hb : b.length ≤ 20000) (most : Int) (hm : (b.length : Int) ≤ most) : expS (pressS b) most = (b, (cnt b 0 0).1, (cnt b 0 0).2, 0) := by
  have htk := tk_back b.length (pressGo b 0 0) (by omega)
  unfold expS pressS
  rw [htk]
  dsimp only
  rw [if_pos rfl, if_neg (by omega), List.drop_left]
  have := expGo_press b b.length 0 0 (by omega) (Nat.le_refl _) (Nat.zero_le _) 0 0
  rw [Nat.zero_add, Nat.zero_add, List.take_zero] at this
  exact this
theorem press_large (b : List UInt8) (hb : b.length ≤ 20000) (most : Int) (hm : most < (b.length : Int)) : expS (pressS b) most = ([], 0, 0, 5) := by
  have htk := tk_back b.length (pressGo b 0 0) (by omega)
  unfold expS pressS
  rw [htk]
  dsimp only
  rw [if_pos rfl, if_pos (.inr hm)]

/-- Lengths. -/
theorem asB_len : ∀ (m : Nat) (l : List UInt8), l.length ≤ m → (asB l).length = l.length + chunks l.length
  | 0, l, hm => by
    obtain rfl : l = [] := List.eq_nil_of_length_eq_zero (by omega)
    simp [asB_nil, chunks]
  | m + 1, l, hm => by
    by_cases h : l = []
    · subst h; simp [asB_nil, chunks]
    · have hp : 0 < l.length := List.length_pos_iff.2 h
      have e1 : (vb (2 * (min 64 l.length - 1))).length = 1 := by rw [vb_lt _ (by omega)]; rfl
      rw [asB_ne l h, List.length_append, List.length_append, asB_len m (l.drop 64) (by simp; omega), e1, List.length_take, List.length_drop]
      unfold chunks
      omega
theorem match_len (m d : Nat) (h4 : 4 ≤ m) (hm : m ≤ 200) (hd : d ≤ 4096) : (vb (2 * (m - 4) + 1)).length + (vb d).length + 1 ≤ m := by
  have e2 : (vb d).length ≤ 2 := vb_len_le 1 d (by omega)
  by_cases h : m ≤ 67
  · have e1 : (vb (2 * (m - 4) + 1)).length = 1 := by rw [vb_lt _ (by omega)]; rfl
    omega
  · have e1 : (vb (2 * (m - 4) + 1)).length ≤ 2 := vb_len_le 1 _ (by omega)
    omega
theorem pressGo_len (b : List UInt8) : ∀ (m from_ i : Nat), b.length - i ≤ m → from_ ≤ i → i ≤ b.length → (pressGo b from_ i).length ≤ (b.length - from_) + (b.length - from_) / 64 + 1 := by
  have last : ∀ from_, (pressGo b from_ b.length).length ≤ (b.length - from_) + (b.length - from_) / 64 + 1 := by
    intro from_
    rw [pressGo, if_neg (by omega), asB_len _ _ (Nat.le_refl _), List.length_drop]
    unfold chunks
    omega
  intro m
  induction m with
  | zero =>
    intro from_ i hm hf hi
    obtain rfl : i = b.length := by omega
    exact last from_
  | succ m ih =>
    intro from_ i hm hf hi
    by_cases hlt : i < b.length
    · rw [pressGo, if_pos hlt]
      rcases best_cases b i hi with h0 | ⟨h4, h200, hl, hd1, hdi, hd4, hq⟩
      · rw [dif_pos h0]
        exact ih from_ (i + 1) (by omega) (by omega) (by omega)
      · rw [dif_neg (by omega)]
        have h1 := ih (i + (best b i).1) (i + (best b i).1) (by omega) (Nat.le_refl _) (by omega)
        have h2 := match_len _ _ h4 h200 hd4
        rw [List.length_append, List.length_append, List.length_append, asB_len _ _ (Nat.le_refl _), List.length_drop, List.length_take]
        unfold chunks
        omega
    · obtain rfl : i = b.length := by omega
      exact last from_
theorem press_len (b : List UInt8) (hb : b.length ≤ 20000) : (pressS b).length ≤ b.length + b.length / 64 + 4 := by
  have h1 := pressGo_len b b.length 0 0 (by omega) (Nat.le_refl _) (Nat.zero_le _)
  have h2 : (vb b.length).length ≤ 3 := vb_len_le 2 _ (by omega)
  unfold pressS
  rw [List.length_append]
  omega

/-- Counts. -/
theorem cnt_le (b : List UInt8) : ∀ (m from_ i : Nat), b.length - i ≤ m → from_ ≤ i → i ≤ b.length → (cnt b from_ i).1 + (cnt b from_ i).2 ≤ b.length - from_ := by
  intro m
  induction m with
  | zero =>
    intro from_ i hm hf hi
    obtain rfl : i = b.length := by omega
    rw [cnt, if_neg (by omega)]
    unfold chunks
    dsimp only
    omega
  | succ m ih =>
    intro from_ i hm hf hi
    by_cases hlt : i < b.length
    · rw [cnt, if_pos hlt]
      rcases best_cases b i hi with h0 | ⟨h4, h200, hl, _⟩
      · rw [dif_pos h0]
        exact ih from_ (i + 1) (by omega) (by omega) (by omega)
      · rw [dif_neg (by omega)]
        have h1 := ih (i + (best b i).1) (i + (best b i).1) (by omega) (Nat.le_refl _) (by omega)
        unfold chunks
        dsimp only
        omega
    · obtain rfl : i = b.length := by omega
      rw [cnt, if_neg (by omega)]
      unfold chunks
      dsimp only
      omega
theorem cnt_first (b : List UInt8) : ∀ (m from_ i : Nat), b.length - i ≤ m → from_ < i → i ≤ b.length → 1 ≤ (cnt b from_ i).1 := by
  intro m
  induction m with
  | zero =>
    intro from_ i hm hf hi
    obtain rfl : i = b.length := by omega
    rw [cnt, if_neg (by omega)]
    unfold chunks
    dsimp only
    omega
  | succ m ih =>
    intro from_ i hm hf hi
    by_cases hlt : i < b.length
    · rw [cnt, if_pos hlt]
      by_cases h0 : (best b i).1 = 0
      · rw [dif_pos h0]
        exact ih from_ (i + 1) (by omega) (by omega) (by omega)
      · rw [dif_neg h0]
        unfold chunks
        dsimp only
        omega
    · obtain rfl : i = b.length := by omega
      rw [cnt, if_neg (by omega)]
      unfold chunks
      dsimp only
      omega
theorem cnt_pos (b : List UInt8) (h : 0 < b.length) : 1 ≤ (cnt b 0 0).1 := by
  rw [cnt, if_pos h]
  have e : (best b 0).1 = 0 := by simp [best, bestF]
  rw [dif_pos e]
  exact cnt_first b b.length 0 1 (by omega) (by omega) (by omega)
theorem cnt_nil : cnt [] 0 0 = (0, 0) := by rw [cnt]; simp [chunks]
/-- There are match tokens just if somewhere there is a likeness of four. -/
theorem cnt_none (b : List UInt8) : ∀ (m from_ i : Nat), b.length - i ≤ m → (cnt b from_ i).2 = 0 → ∀ j, i ≤ j → j < b.length → (best b j).1 = 0 := by
  intro m
  induction m with
  | zero => intro from_ i hm _ j h1 h2; omega
  | succ m ih =>
    intro from_ i hm hc j h1 h2
    rw [cnt, if_pos (by omega)] at hc
    by_cases h0 : (best b i).1 = 0
    · rw [dif_pos h0] at hc
      by_cases hj : j = i
      · rw [hj]; exact h0
      · exact ih from_ (i + 1) (by omega) hc j (by omega) h2
    · rw [dif_neg h0] at hc
      dsimp only at hc
      omega
theorem cnt_some (b : List UInt8) : ∀ (m from_ i : Nat), b.length - i ≤ m → (cnt b from_ i).2 ≠ 0 → ∃ j, j < b.length ∧ (best b j).1 ≠ 0 := by
  intro m
  induction m with
  | zero =>
    intro from_ i hm hc
    rw [cnt, if_neg (by omega)] at hc
    exact absurd rfl hc
  | succ m ih =>
    intro from_ i hm hc
    rw [cnt] at hc
    by_cases hi : i < b.length
    · rw [if_pos hi] at hc
      by_cases h0 : (best b i).1 = 0
      · rw [dif_pos h0] at hc
        exact ih from_ (i + 1) (by omega) hc
      · exact ⟨i, hi, h0⟩
    · rw [if_neg hi] at hc
      exact absurd rfl hc
theorem bestF_mono (b : List UInt8) (i : Nat) : ∀ k d r, r.1 ≤ (bestF b i k d r).1
  | 0, _, _ => Nat.le_refl _
  | k + 1, d, r => by
    unfold bestF
    refine Nat.le_trans ?_ (bestF_mono b i k (d + 1) _)
    split
    · rename_i h; dsimp only; omega
    · exact Nat.le_refl _
theorem bestF_all (b : List UInt8) (i : Nat) : ∀ k d r e, d ≤ e → e < d + k → 4 ≤ like b i e → like b i e ≤ (bestF b i k d r).1
  | 0, _, _, _, h1, h2, _ => by omega
  | k + 1, d, r, e, h1, h2, h4 => by
    unfold bestF
    by_cases he : e = d
    · subst he
      refine Nat.le_trans ?_ (bestF_mono b i k (e + 1) _)
      split
      · exact Nat.le_refl _
      · rename_i h; omega
    · exact bestF_all b i k (d + 1) _ e (by omega) (by omega) h4
theorem best_all (b : List UInt8) (i e : Nat) (h1 : 1 ≤ e) (h2 : e ≤ i) (h3 : e ≤ 4096) (h4 : 4 ≤ like b i e) : like b i e ≤ (best b i).1 :=
  bestF_all b i _ 1 _ e h1 (by omega) h4
theorem likeF_ge (b : List UInt8) (d : Nat) : ∀ (n f i : Nat), n ≤ f → i + n ≤ b.length → (∀ j, j < n → b[i + j]? = b[i + j - d]?) → n ≤ likeF b d f i
  | 0, _, _, _, _, _ => Nat.zero_le _
  | n + 1, 0, _, h, _, _ => by omega
  | n + 1, f + 1, i, h, hl, hq => by
    unfold likeF
    rw [if_pos ⟨by omega, hq 0 (by omega)⟩]
    have := likeF_ge b d n f (i + 1) (by omega) (by omega) (fun j hj => by rw [show i + 1 + j = i + (j + 1) by omega]; exact hq (j + 1) (by omega))
    omega
/-- Four bytes that stand at j stand again at i. -/
theorem twice_best (b : List UInt8) (i j : Nat) (hj : j < i) (hi : i + 4 ≤ b.length) (hb : b.length ≤ 4096) (h : ∀ k, k < 4 → b[i + k]? = b[j + k]?) : (best b i).1 ≠ 0 := by
  have h4 : 4 ≤ like b i (i - j) := likeF_ge b (i - j) 4 200 i (by omega) hi (fun k hk => by rw [show i + k - (i - j) = j + k by omega]; exact h k hk)
  have := best_all b i (i - j) (by omega) (by omega) (by omega) h4
  omega
theorem best_twice (b : List UInt8) (i : Nat) (hi : i ≤ b.length) (h : (best b i).1 ≠ 0) : i + 4 ≤ b.length ∧ ∃ j, j < i ∧ ∀ k, k < 4 → b[i + k]? = b[j + k]? := by
  rcases best_cases b i hi with h0 | ⟨h4, h200, hl, hd1, hdi, hd4, hq⟩
  · exact absurd h0 h
  · exact ⟨by omega, i - (best b i).2, by omega, fun k hk => by rw [hq k (by omega)]; congr 1; omega⟩
end Go.Proofs.Ytaomeoppgbigjaa.Pm
