/-
  Plain mathematics of layer 3 (press): a run of one byte comes to little; a text said twice comes to not much more than said once.
-/
import Derived.Test.YtaomeoppgbigjaaPm
namespace Go.Proofs.Ytaomeoppgbigjaa.Pm
open Vm

theorem pressGo_end (b : List UInt8) (f : Nat) : pressGo b f b.length = asB (b.drop f) := by rw [pressGo, if_neg (by omega)]
theorem pressGo_at (b : List UInt8) (f i : Nat) (h : i = b.length) : pressGo b f i = asB (b.drop f) := by subst h; exact pressGo_end b f
theorem pressGo_match (b : List UInt8) (f i : Nat) (h : i < b.length) (h0 : (best b i).1 ≠ 0) :
    pressGo b f i = asB ((b.take i).drop f) ++ (vb (2 * ((best b i).1 - 4) + 1) ++ (vb (best b i).2 ++ pressGo b (i + (best b i).1) (i + (best b i).1))) := by rw [pressGo, if_pos h, dif_neg h0]
theorem pressGo_lit (b : List UInt8) (f i : Nat) (h : i < b.length) (h0 : (best b i).1 = 0) : pressGo b f i = pressGo b f (i + 1) := by rw [pressGo, if_pos h, dif_pos h0]
/-- Fewer than four bytes are left: they are literals. -/
theorem pressGo_few (b : List UInt8) : ∀ (m f i : Nat), b.length - i ≤ m → f ≤ i → i ≤ b.length → b.length < i + 4 → pressGo b f i = asB (b.drop f) := by
  intro m
  induction m with
  | zero => intro f i hm hf hi h4; exact pressGo_at b f i (by omega)
  | succ m ih =>
    intro f i hm hf hi h4
    by_cases hlt : i < b.length
    · rw [pressGo, if_pos hlt]
      rcases best_cases b i hi with h0 | ⟨h1, _, h2, _⟩
      · rw [dif_pos h0]; exact ih f (i + 1) (by omega) (by omega) (by omega) (by omega)
      · omega
    · exact pressGo_at b f i (by omega)
/-- The rest is one likeness. -/
theorem pressGo_rest (b : List UInt8) (f i d : Nat) (hf : f ≤ i) (hi : i ≤ b.length) (h4 : i + 4 ≤ b.length) (h200 : b.length ≤ i + 200) (hd : 1 ≤ d) (hdi : d ≤ i) (hd4 : d ≤ 4096) (h : ∀ j, i + j < b.length → b[i + j]? = b[i + j - d]?) :
    (pressGo b f i).length ≤ (i - f) + chunks (i - f) + 4 := by
  have hl : b.length - i ≤ like b i d := likeF_ge b d (b.length - i) 200 i (by omega) (by omega) (fun j hj => h j (by omega))
  have h1 := best_all b i d hd hdi hd4 (by omega)
  rcases best_cases b i hi with h0 | ⟨h2, h3, h5, h6, h7, h8, _⟩
  · omega
  · have e : i + (best b i).1 = b.length := by omega
    have e1 : (vb (2 * ((best b i).1 - 4) + 1)).length ≤ 2 := vb_len_le 1 _ (by omega)
    have e2 : (vb (best b i).2).length ≤ 2 := vb_len_le 1 _ (by omega)
    have e3 : asB (b.drop (i + (best b i).1)) = [] := by rw [List.drop_of_length_le (by omega), asB_nil]
    rw [pressGo_match b f i (by omega) (by omega), pressGo_at b _ _ e, e3, List.append_nil, List.length_append, List.length_append, asB_len _ _ (Nat.le_refl _), List.length_drop, List.length_take, Nat.min_eq_left hi]
    omega

/-- A run. -/
theorem run_get (n : Nat) (c : UInt8) (i : Nat) (h : i < n) : (List.replicate n c)[i]? = some c := by simp [h]
theorem run_len (n : Nat) (c : UInt8) : ∀ (m i : Nat), n - i ≤ m → 1 ≤ i → i ≤ n → (pressGo (List.replicate n c) i i).length ≤ 3 * ((n - i) / 200) + 4 := by
  intro m
  have hlen : (List.replicate n c).length = n := List.length_replicate
  induction m with
  | zero =>
    intro i hm h1 hi
    rw [pressGo_at _ _ _ (by omega), asB_len _ _ (Nat.le_refl _), List.length_drop, hlen]
    unfold chunks
    omega
  | succ m ih =>
    intro i hm h1 hi
    by_cases h4 : n < i + 4
    · rw [pressGo_few _ n i i (by omega) (Nat.le_refl _) (by omega) (by omega), asB_len _ _ (Nat.le_refl _), List.length_drop, hlen]
      unfold chunks
      omega
    · by_cases h2 : n ≤ i + 200
      · have := pressGo_rest (List.replicate n c) i i 1 (Nat.le_refl _) (by omega) (by omega) (by omega) (by omega) h1 (by omega) (fun j hj => by rw [run_get n c _ (by omega), run_get n c _ (by omega)])
        unfold chunks at this
        omega
      · have hl : 200 ≤ like (List.replicate n c) i 1 := likeF_ge _ 1 200 200 i (by omega) (by omega) (fun j hj => by rw [run_get n c _ (by omega), run_get n c _ (by omega)])
        have hb := best_all (List.replicate n c) i 1 (by omega) h1 (by omega) (by omega)
        rcases best_cases (List.replicate n c) i (by omega) with h0 | ⟨h5, h6, h7, h8, h9, h10, _⟩
        · omega
        · have e : (best (List.replicate n c) i).1 = 200 := by omega
          have e3 : (best (List.replicate n c) i).2 = 1 := run_dist n c i h1 (by omega)
          rw [pressGo_match _ _ _ (by omega) (by omega), e, e3]
          have h11 := ih (i + 200) (by omega) (by omega) (by omega)
          have e1 : (vb (2 * (200 - 4) + 1)).length ≤ 2 := vb_len_le 1 _ (by omega)
          have e2 : (vb 1).length = 1 := by rw [vb_lt 1 (by omega)]; rfl
          rw [List.length_append, List.length_append, List.length_append, e2, asB_len _ _ (Nat.le_refl _), List.length_drop, List.length_take, hlen]
          unfold chunks
          omega
where
  run_dist (n : Nat) (c : UInt8) (i : Nat) (h1 : 1 ≤ i) (h2 : i + 200 < n) : (best (List.replicate n c) i).2 = 1 := by
    have hl : like (List.replicate n c) i 1 = 200 := by
      have h3 : 200 ≤ like (List.replicate n c) i 1 := likeF_ge _ 1 200 200 i (by omega) (by simp; omega) (fun j hj => by rw [run_get n c _ (by omega), run_get n c _ (by omega)])
      have h4 := like_le (List.replicate n c) i 1
      omega
    unfold best
    obtain ⟨k, hk⟩ : ∃ k, min i 4096 = k + 1 := ⟨min i 4096 - 1, by omega⟩
    rw [hk]
    unfold bestF
    rw [hl, if_pos ⟨by omega, by dsimp only; omega⟩]
    exact stay (List.replicate n c) i k 2 (200, 1) (by dsimp only; omega)
  stay (b : List UInt8) (i : Nat) : ∀ k d (r : Nat × Nat), 200 ≤ r.1 → (bestF b i k d r).2 = r.2
    | 0, _, _, _ => rfl
    | k + 1, d, r, h => by
      unfold bestF
      rw [if_neg (by have := like_le b i d; omega)]
      exact stay b i k (d + 1) r h
theorem run_press (n : Nat) (c : UInt8) (hn : n < 4000) : (pressS (List.replicate n c)).length ≤ 10 + 3 * (n / 200 + 1) := by
  have hlen : (List.replicate n c).length = n := List.length_replicate
  have e0 : (vb n).length ≤ 2 := vb_len_le 1 _ (by omega)
  unfold pressS
  rw [List.length_append, hlen]
  by_cases h0 : n = 0
  · subst h0
    rw [pressGo_at (List.replicate 0 c) 0 0 rfl, show (List.replicate 0 c).drop 0 = [] from rfl, asB_nil, List.length_nil]
    omega
  · have eb : (best (List.replicate n c) 0).1 = 0 := by simp [best, bestF]
    rw [pressGo_lit _ 0 0 (by omega) eb]
    show (vb n).length + (pressGo (List.replicate n c) 0 1).length ≤ _
    by_cases h4 : n < 5
    · rw [pressGo_few _ n 0 1 (by omega) (by omega) (by omega) (by omega), asB_len _ _ (Nat.le_refl _), List.length_drop, hlen]
      unfold chunks
      omega
    · have h5 : (pressGo (List.replicate n c) 0 1).length ≤ (pressGo (List.replicate n c) 1 1).length + 2 := by
        have hb : (best (List.replicate n c) 1).1 ≠ 0 := by
          have hl : 4 ≤ like (List.replicate n c) 1 1 := likeF_ge _ 1 4 200 1 (by omega) (by omega) (fun j hj => by rw [run_get n c _ (by omega), run_get n c _ (by omega)])
          have := best_all (List.replicate n c) 1 1 (by omega) (by omega) (by omega) hl
          omega
        rw [pressGo_match _ 0 1 (by omega) hb, pressGo_match _ 1 1 (by omega) hb]
        rw [List.length_append, List.length_append (as := asB (((List.replicate n c).take 1).drop 1)), asB_len _ _ (Nat.le_refl _), asB_len _ _ (Nat.le_refl _), List.length_drop, List.length_drop, List.length_take, hlen]
        unfold chunks
        omega
      have h6 := run_len n c n 1 (by omega) (by omega) (by omega)
      omega

/-- A text said twice. -/
theorem twice_get (s : List UInt8) (i : Nat) (h : i < s.length) : (s ++ s)[i]? = s[i]? := List.getElem?_append_left h
theorem twice_get' (s : List UInt8) (i : Nat) (h : s.length ≤ i) : (s ++ s)[i]? = s[i - s.length]? := List.getElem?_append_right h
theorem twice_likeF (s : List UInt8) (d : Nat) (hd : 1 ≤ d) : ∀ f i, i ≤ s.length → likeF (s ++ s) d f i = likeF s d f i ∨ s.length < i + likeF (s ++ s) d f i
  | 0, _, _ => .inl rfl
  | f + 1, i, hi => by
    by_cases hlt : i < s.length
    · have e1 : (s ++ s)[i]? = s[i]? := twice_get s i hlt
      have e2 : (s ++ s)[i - d]? = s[i - d]? := twice_get s (i - d) (by omega)
      unfold likeF
      rw [e1, e2]
      by_cases h : s[i]? = s[i - d]?
      · rw [if_pos ⟨by simp; omega, h⟩, if_pos ⟨hlt, h⟩]
        rcases twice_likeF s d hd f (i + 1) (by omega) with h1 | h1
        · exact .inl (by rw [h1])
        · exact .inr (by omega)
      · rw [if_neg (fun q => h q.2), if_neg (fun q => h q.2)]
        exact .inl rfl
    · have e : likeF s d (f + 1) i = 0 := by unfold likeF; rw [if_neg (fun q => hlt q.1)]
      rw [e]
      by_cases h0 : likeF (s ++ s) d (f + 1) i = 0
      · exact .inl h0
      · exact .inr (by omega)
theorem bestF_congr (b s : List UInt8) (i : Nat) : ∀ k d r, (∀ e, d ≤ e → e < d + k → like b i e = like s i e ∨ (like b i e < 4 ∧ like s i e < 4)) → bestF b i k d r = bestF s i k d r
  | 0, _, _, _ => rfl
  | k + 1, d, r, h => by
    unfold bestF
    have e : (if 4 ≤ like b i d ∧ r.1 < like b i d then (like b i d, d) else r) = (if 4 ≤ like s i d ∧ r.1 < like s i d then (like s i d, d) else r) := by
      rcases h d (Nat.le_refl _) (by omega) with h1 | ⟨h1, h2⟩
      · rw [h1]
      · rw [if_neg (by omega), if_neg (by omega)]
    rw [e]
    exact bestF_congr b s i k (d + 1) _ fun e h1 h2 => h e (by omega) (by omega)
/-- The same likeness is found, or one that goes beyond the first text. -/
theorem twice_best_or (s : List UInt8) (i : Nat) (hi : i ≤ s.length) : best (s ++ s) i = best s i ∨ ((best (s ++ s) i).1 ≠ 0 ∧ s.length < i + (best (s ++ s) i).1) := by
  by_cases h : ∃ e, 1 ≤ e ∧ e < 1 + min i 4096 ∧ s.length < i + like (s ++ s) i e ∧ 4 ≤ like (s ++ s) i e
  · obtain ⟨e, h1, h2, h3, h4⟩ := h
    have := best_all (s ++ s) i e h1 (by omega) (by omega) h4
    exact .inr ⟨by omega, by omega⟩
  · refine .inl (bestF_congr _ _ i _ 1 _ fun e h1 h2 => ?_)
    rcases twice_likeF s e h1 200 i hi with h3 | h3
    · exact .inl h3
    · have h5 : like (s ++ s) i e < 4 := by
        rcases Nat.lt_or_ge (like (s ++ s) i e) 4 with h' | h'
        · exact h'
        · exact absurd ⟨e, h1, h2, h3, h'⟩ h
      have h6 : i + like s i e ≤ s.length := like_len s i e hi
      have h7 : s.length < i + like (s ++ s) i e := h3
      exact .inr ⟨h5, by omega⟩
theorem pressGo_ge (s : List UInt8) : ∀ (m f i : Nat), s.length - i ≤ m → f ≤ i → i ≤ s.length → (i - f) + chunks (i - f) ≤ (pressGo s f i).length := by
  have last : ∀ f i, i = s.length → (i - f) + chunks (i - f) ≤ (pressGo s f i).length := by
    intro f i hi
    rw [pressGo_at s f i hi, asB_len _ _ (Nat.le_refl _), List.length_drop, hi]
    exact Nat.le_refl _
  intro m
  induction m with
  | zero => intro f i hm hf hi; exact last f i (by omega)
  | succ m ih =>
    intro f i hm hf hi
    by_cases hlt : i < s.length
    · by_cases h0 : (best s i).1 = 0
      · rw [pressGo_lit s f i hlt h0]
        have := ih f (i + 1) (by omega) (by omega) (by omega)
        unfold chunks at *
        omega
      · rw [pressGo_match s f i hlt h0, List.length_append, asB_len _ _ (Nat.le_refl _), List.length_drop, List.length_take, Nat.min_eq_left hi]
        omega
    · exact last f i (by omega)
theorem twice_len (s : List UInt8) (h100 : 100 ≤ s.length) (h200 : s.length ≤ 200) : ∀ (m f i : Nat), s.length - i ≤ m → f ≤ i → i ≤ s.length → (pressGo (s ++ s) f i).length ≤ (pressGo s f i).length + 8 := by
  have hl2 : (s ++ s).length = s.length + s.length := List.length_append
  have hrep : ∀ p j, s.length ≤ p → p + j < (s ++ s).length → (s ++ s)[p + j]? = (s ++ s)[p + j - s.length]? := by
    intro p j hp hj
    rw [twice_get' s (p + j) (by omega), twice_get s (p + j - s.length) (by omega)]
  have tail : ∀ p, s.length ≤ p → p ≤ (s ++ s).length → (pressGo (s ++ s) p p).length ≤ 4 := by
    intro p hp hp2
    by_cases h4 : (s ++ s).length < p + 4
    · rw [pressGo_few (s ++ s) _ p p (Nat.le_refl _) (Nat.le_refl _) hp2 h4, asB_len _ _ (Nat.le_refl _), List.length_drop]
      unfold chunks
      omega
    · have := pressGo_rest (s ++ s) p p s.length (Nat.le_refl _) hp2 (by omega) (by omega) (by omega) hp (by omega) (fun j hj => hrep p j hp hj)
      unfold chunks at this
      omega
  have last : ∀ f i, f ≤ i → i = s.length → (pressGo (s ++ s) f i).length ≤ (pressGo s f i).length + 8 := by
    intro f i hf hi
    have h1 := pressGo_rest (s ++ s) f i s.length hf (by omega) (by omega) (by omega) (by omega) (by omega) (by omega) (fun j hj => hrep i j (by omega) hj)
    have h2 := pressGo_ge s s.length f i (by omega) hf (by omega)
    omega
  intro m
  induction m with
  | zero => intro f i hm hf hi; exact last f i hf (by omega)
  | succ m ih =>
    intro f i hm hf hi
    by_cases hlt : i < s.length
    · rcases twice_best_or s i hi with he | ⟨hn, hgt⟩
      · by_cases h0 : (best s i).1 = 0
        · rw [pressGo_lit s f i hlt h0, pressGo_lit (s ++ s) f i (by omega) (by rw [he]; exact h0)]
          exact ih f (i + 1) (by omega) (by omega) (by omega)
        · have hl := best_cases s i hi
          rcases hl with hl | ⟨h4, _, hl, _⟩
          · exact absurd hl h0
          · rw [pressGo_match s f i hlt h0, pressGo_match (s ++ s) f i (by omega) (by rw [he]; exact h0), he]
            have h1 := ih (i + (best s i).1) (i + (best s i).1) (by omega) (Nat.le_refl _) hl
            have e1 : (s ++ s).take i = s.take i := List.take_append_of_le_length hi
            rw [e1]
            simp only [List.length_append]
            omega
      · have h2 := pressGo_ge s s.length f i (by omega) hf (by omega)
        rcases best_cases (s ++ s) i (by omega) with h0 | ⟨h4, h5, hl, h6, h7, h8, _⟩
        · exact absurd h0 hn
        · have h3 := tail (i + (best (s ++ s) i).1) (by omega) hl
          have e1 : (vb (2 * ((best (s ++ s) i).1 - 4) + 1)).length ≤ 2 := vb_len_le 1 _ (by omega)
          have e2 : (vb (best (s ++ s) i).2).length ≤ 2 := vb_len_le 1 _ (by omega)
          rw [pressGo_match (s ++ s) f i (by omega) hn, List.length_append, List.length_append, List.length_append, asB_len _ _ (Nat.le_refl _), List.length_drop, List.length_take, Nat.min_eq_left (by omega)]
          omega
    · exact last f i hf (by omega)
theorem twice_press (s : List UInt8) (h100 : 100 ≤ s.length) (h200 : s.length ≤ 200) : (pressS (s ++ s)).length ≤ (pressS s).length + 12 := by
  have h1 := twice_len s h100 h200 s.length 0 0 (by omega) (Nat.le_refl _) (Nat.zero_le _)
  have h2 : (vb (s ++ s).length).length ≤ 2 := vb_len_le 1 _ (by simp; omega)
  unfold pressS
  rw [List.length_append, List.length_append (as := vb s.length)]
  omega

/-- What the longest likeness is, said without a search. -/
theorem bestF_stay (b : List UInt8) (i : Nat) : ∀ k d (r : Nat × Nat), (∀ e, d ≤ e → e < d + k → like b i e ≤ r.1 ∨ like b i e < 4) → bestF b i k d r = r
  | 0, _, _, _ => rfl
  | k + 1, d, r, h => by
    unfold bestF
    rw [if_neg (by have := h d (Nat.le_refl _) (by omega); omega)]
    exact bestF_stay b i k (d + 1) r fun e h1 h2 => h e (by omega) (by omega)
theorem bestF_char (b : List UInt8) (i n t : Nat) (h4 : 4 ≤ n) (ht : like b i t = n) : ∀ k d (r : Nat × Nat), d ≤ t → t < d + k → r.1 < n → (∀ e, d ≤ e → e < d + k → like b i e ≤ n) → (∀ e, d ≤ e → e < t → like b i e < n) → bestF b i k d r = (n, t)
  | 0, _, _, h1, h2, _, _, _ => by omega
  | k + 1, d, r, h1, h2, hr, hle, hlt => by
    unfold bestF
    by_cases hd : d = t
    · subst hd
      rw [ht, if_pos ⟨h4, hr⟩]
      exact bestF_stay b i k (d + 1) _ fun e h3 h5 => .inl (hle e (by omega) (by omega))
    · have h3 := hlt d (Nat.le_refl _) (by omega)
      refine bestF_char b i n t h4 ht k (d + 1) _ (by omega) (by omega) ?_ (fun e h5 h6 => hle e (by omega) (by omega)) (fun e h5 h6 => hlt e (by omega) h6)
      split
      · exact h3
      · exact hr
theorem best_char (b : List UInt8) (i n t : Nat) (h4 : 4 ≤ n) (ht : like b i t = n) (h1 : 1 ≤ t) (h2 : t ≤ i) (h3 : t ≤ 4096) (hle : ∀ e, 1 ≤ e → e ≤ i → e ≤ 4096 → like b i e ≤ n) (hlt : ∀ e, 1 ≤ e → e < t → like b i e < n) : best b i = (n, t) :=
  bestF_char b i n t h4 ht _ 1 _ h1 (by omega) (by dsimp only; omega) (fun e h5 h6 => hle e h5 (by omega) (by omega)) (fun e h5 h6 => hlt e h5 h6)
theorem best_none (b : List UInt8) (i : Nat) (h : ∀ e, 1 ≤ e → e ≤ i → e ≤ 4096 → like b i e < 4) : best b i = (0, 0) :=
  bestF_stay b i _ 1 _ fun e h1 h2 => .inr (h e h1 (by omega) (by omega))
end Go.Proofs.Ytaomeoppgbigjaa.Pm
