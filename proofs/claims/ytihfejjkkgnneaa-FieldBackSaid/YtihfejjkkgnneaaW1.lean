/-
  Words by the library's way over runes are words over bytes.
-/
import Derived.Test.YtihfejjkkgnneaaFn
import Derived.Lib.FieldsP
namespace Go.Proofs.Ytihfejjkkgnneaa.Fm
open Go.Lib

/-- White space, for a rune. -/
def wsR (x : Nat) : Bool := x == 32 || x == 9 || x == 10 || x == 13
theorem wsR_blank (b : UInt8) : wsR b.toNat = blank b := by
  unfold wsR blank
  have h : ∀ c : UInt8, (b.toNat == c.toNat) = (b == c) := fun c => by
    rw [Bool.eq_iff_iff, beq_iff_eq, beq_iff_eq, UInt8.toNat_inj]
  have h1 := h 32; have h2 := h 9; have h3 := h 10; have h4 := h 13
  rw [← h1, ← h2, ← h3, ← h4]; rfl
theorem wsR_big {x : Nat} (h : 128 ≤ x) : wsR x = false := by
  unfold wsR
  have h1 : x ≠ 32 := by omega
  have h2 : x ≠ 9 := by omega
  have h3 : x ≠ 10 := by omega
  have h4 : x ≠ 13 := by omega
  simp [h1, h2, h3, h4]
theorem blank_big {b : UInt8} (h : 128 ≤ b.toNat) : blank b = false := by rw [← wsR_blank]; exact wsR_big h

theorem get_bang (s : ByteArray) (i : Nat) (h : i < s.size) : s.get! i = s[i] := by
  cases s with
  | mk d =>
    show d[i]! = d[i]'h
    exact getElem!_pos d i h

/-- What one step over a rune goes past. -/
theorem decode_step (s : ByteArray) (pos : Nat) (h : pos < s.size) :
    1 ≤ (Utf8.decode s pos).2 ∧ pos + (Utf8.decode s pos).2 ≤ s.size ∧
      ((wsR (Utf8.decode s pos).1 = true ∧ (Utf8.decode s pos).2 = 1 ∧ blank s[pos] = true) ∨
       (wsR (Utf8.decode s pos).1 = false ∧ ∀ j, j < (Utf8.decode s pos).2 → ∀ hj : pos + j < s.size, blank s[pos + j] = false)) := by
  have hb := get_bang s pos h
  have cont : ∀ k, (decide (pos + k < s.size) && (s.get! (pos + k)).toNat / 64 == 2) = true → pos + k < s.size ∧ ∀ hk : pos + k < s.size, blank s[pos + k] = false := by
    intro k hk
    rw [Bool.and_eq_true, decide_eq_true_eq, beq_iff_eq] at hk
    refine ⟨hk.1, fun h' => ?_⟩
    have h2 := hk.2
    rw [get_bang s _ h'] at h2
    exact blank_big (by omega)
  have one : ∀ (r : Nat), wsR r = false → blank s[pos] = false → (1 ≤ 1 ∧ pos + 1 ≤ s.size ∧ ((wsR r = true ∧ 1 = 1 ∧ blank s[pos] = true) ∨ (wsR r = false ∧ ∀ j, j < 1 → ∀ hj : pos + j < s.size, blank s[pos + j] = false))) := by
    intro r hr hbl
    refine ⟨Nat.le_refl _, h, .inr ⟨hr, fun j hj hjs => ?_⟩⟩
    obtain rfl : j = 0 := by omega
    exact hbl
  unfold Utf8.decode
  simp only [Nat.add_zero, hb]
  split
  · rename_i hlt
    dsimp only
    by_cases hbl : blank s[pos] = true
    · exact ⟨Nat.le_refl _, h, .inl ⟨by rw [wsR_blank]; exact hbl, rfl, hbl⟩⟩
    · have hbl' : blank s[pos] = false := by simpa using hbl
      exact one _ (by rw [wsR_blank]; exact hbl') hbl'
  · rename_i hge
    have hbl : blank s[pos] = false := blank_big (by omega)
    have bad := one Utf8.runeError (by decide) hbl
    split
    · rename_i hc
      rw [Bool.and_eq_true] at hc
      obtain ⟨c1, d1⟩ := cont 1 hc.2
      split
      · rename_i hv
        refine ⟨by omega, by dsimp only; omega, .inr ⟨wsR_big hv, fun j hj hjs => ?_⟩⟩
        dsimp only at hj
        match j, hj with
        | 0, _ => exact hbl
        | 1, _ => exact d1 hjs
      · exact bad
    · split
      · rename_i hc
        rw [Bool.and_eq_true, Bool.and_eq_true] at hc
        obtain ⟨c1, d1⟩ := cont 1 hc.1.2
        obtain ⟨c2, d2⟩ := cont 2 hc.2
        split
        · rename_i hv
          rw [Bool.and_eq_true, decide_eq_true_eq] at hv
          refine ⟨by omega, by dsimp only; omega, .inr ⟨wsR_big (by have := hv.1; omega), fun j hj hjs => ?_⟩⟩
          dsimp only at hj
          match j, hj with
          | 0, _ => exact hbl
          | 1, _ => exact d1 hjs
          | 2, _ => exact d2 hjs
        · exact bad
      · split
        · rename_i hc
          rw [Bool.and_eq_true, Bool.and_eq_true, Bool.and_eq_true] at hc
          obtain ⟨c1, d1⟩ := cont 1 hc.1.1.2
          obtain ⟨c2, d2⟩ := cont 2 hc.1.2
          obtain ⟨c3, d3⟩ := cont 3 hc.2
          split
          · rename_i hv
            rw [Bool.and_eq_true, decide_eq_true_eq] at hv
            refine ⟨by omega, by dsimp only; omega, .inr ⟨wsR_big (by have := hv.1; omega), fun j hj hjs => ?_⟩⟩
            dsimp only at hj
            match j, hj with
            | 0, _ => exact hbl
            | 1, _ => exact d1 hjs
            | 2, _ => exact d2 hjs
            | 3, _ => exact d3 hjs
          · exact bad
        · exact bad

/-- The bytes from a to b. -/
def seg (s : ByteArray) (a b : Nat) : List UInt8 := (s.data.toList.take b).drop a
theorem seg_extract (s : ByteArray) (a b : Nat) : (s.extract a b).data.toList = seg s a b := by
  unfold seg
  rw [ByteArray.data_extract, Array.toList_extract]
  simp [List.extract_eq_take_drop, List.drop_take]
theorem wordsGo_plain : ∀ (x cur t : List UInt8), (∀ c ∈ x, blank c = false) → wordsGo cur (x ++ t) = wordsGo (cur ++ x) t
  | [], cur, t, _ => by simp
  | c :: r, cur, t, h => by
    rw [List.cons_append, wg_cons, if_neg (by rw [h c (List.mem_cons_self ..)]; simp), wordsGo_plain r _ t (fun d hd => h d (List.mem_cons_of_mem _ hd))]
    simp
theorem drop_seg (s : ByteArray) (a b : Nat) (h : a ≤ b) : s.data.toList.drop a = seg s a b ++ s.data.toList.drop b := by
  unfold seg
  conv => lhs; rw [← List.take_append_drop b s.data.toList]
  by_cases hb : b ≤ s.data.toList.length
  · rw [List.drop_append_of_le_length (by rw [List.length_take]; omega)]
  · have h1 : s.data.toList.drop b = [] := List.drop_of_length_le (by omega)
    rw [h1]; simp
theorem seg_app (s : ByteArray) (a b c : Nat) (h : a ≤ b) (h2 : b ≤ c) (h3 : c ≤ s.size) : seg s a b ++ seg s b c = seg s a c := by
  have hl : s.data.toList.length = s.size := by rw [Array.length_toList]; rfl
  unfold seg
  have e : s.data.toList.take b = (s.data.toList.take c).take b := by rw [List.take_take, Nat.min_eq_left h2]
  rw [e]
  conv => rhs; rw [← List.take_append_drop b (s.data.toList.take c)]
  rw [List.drop_append_of_le_length (by simp; omega)]
theorem seg_mem (s : ByteArray) (a n : Nat) (h : ∀ j, j < n → ∀ hj : a + j < s.size, blank s[a + j] = false) (hs : a + n ≤ s.size) : ∀ c ∈ seg s a (a + n), blank c = false := by
  intro c hc
  obtain ⟨j, hj, rfl⟩ := List.getElem_of_mem hc
  have hl : s.data.toList.length = s.size := by rw [Array.length_toList]; rfl
  have hlen : (seg s a (a + n)).length = n := by unfold seg; simp; omega
  have := h j (by omega) (by omega)
  simp only [seg, List.getElem_drop, List.getElem_take, Array.getElem_toList]
  exact this
theorem seg_one (s : ByteArray) (pos : Nat) (h : pos < s.size) : seg s pos (pos + 1) = [s[pos]] := by
  have hl : s.data.toList.length = s.size := by rw [Array.length_toList]; rfl
  unfold seg
  rw [List.take_succ_eq_append_getElem (by omega), List.drop_append_of_le_length (by simp; omega), List.drop_of_length_le (by simp; omega)]
  rfl
def pieces (s : ByteArray) (l : List (Nat × Nat)) : List (List UInt8) := l.map fun x => seg s x.1 x.2
/-- What is still to come. -/
def todo (s : ByteArray) (pos : Nat) : Option Nat → List (List UInt8)
  | none => wordsGo [] (s.data.toList.drop pos)
  | some a => wordsGo (seg s a pos) (s.data.toList.drop pos)
theorem spans_end (s : ByteArray) (f pos : Nat) (st : Option Nat) (acc : List (Nat × Nat)) (hp : pos ≤ s.size) (hst : ∀ a, st = some a → a < pos) (hlt : ¬ pos < s.size) :
    pieces s (closeSpans s (spansFromP wsR s f pos st acc)) = pieces s acc ++ todo s pos st := by
  have hl : s.data.toList.length = s.size := by rw [Array.length_toList]; rfl
  have he : s.data.toList.drop pos = [] := List.drop_of_length_le (by omega)
  rw [spansFromP_end wsR s f pos st acc hlt]
  unfold todo
  cases st with
  | none =>
    dsimp only
    rw [he, wg_nil, if_pos rfl]
    simp [closeSpans]
  | some a =>
    have ha := hst a rfl
    have hpe : pos = s.size := by omega
    have hne : seg s a pos ≠ [] := by
      intro e
      have := congrArg List.length e
      unfold seg at this
      simp at this
      omega
    dsimp only
    rw [he, wg_nil, if_neg hne]
    unfold closeSpans pieces
    simp [hpe]
theorem spans_words (s : ByteArray) (f : Nat) : ∀ (pos : Nat) (st : Option Nat) (acc : List (Nat × Nat)), pos ≤ s.size → s.size - pos ≤ f → (∀ a, st = some a → a < pos) →
    pieces s (closeSpans s (spansFromP wsR s f pos st acc)) = pieces s acc ++ todo s pos st := by
  have hl : s.data.toList.length = s.size := by rw [Array.length_toList]; rfl
  induction f with
  | zero => exact fun pos st acc hp hf hst => spans_end s 0 pos st acc hp hst (by omega)
  | succ f ih =>
    intro pos st acc hp hf hst
    by_cases hlt : pos < s.size
    · obtain ⟨h1, h2, h3⟩ := decode_step s pos hlt
      have hd := drop_seg s pos (pos + (Utf8.decode s pos).2) (by omega)
      unfold spansFromP
      rw [if_pos hlt]
      rcases h3 with ⟨hw, hn, hb⟩ | ⟨hw, hb⟩
      · rw [if_pos hw]
        rw [hn] at hd ⊢
        rw [seg_one s pos hlt] at hd
        cases st with
        | none =>
          dsimp only
          rw [ih (pos + 1) none acc (by omega) (by omega) (fun a h => by cases h)]
          unfold todo
          rw [hd, List.singleton_append, wg_cons, if_pos hb, if_pos rfl]
        | some a =>
          have ha := hst a rfl
          dsimp only
          rw [ih (pos + 1) none _ (by omega) (by omega) (fun a h => by cases h)]
          unfold todo pieces
          have hne : seg s a pos ≠ [] := by
            intro e
            have := congrArg List.length e
            unfold seg at this
            simp at this
            omega
          dsimp only
          rw [hd, List.singleton_append, wg_cons, if_pos hb, if_neg hne]
          simp
      · rw [if_neg (by rw [hw]; simp)]
        have hpl := seg_mem s pos _ hb h2
        cases st with
        | none =>
          dsimp only
          rw [ih _ (some pos) acc h2 (by omega) (fun a h => by injection h with h; omega)]
          unfold todo
          rw [hd, wordsGo_plain _ _ _ hpl, List.nil_append]
        | some a =>
          have ha := hst a rfl
          dsimp only
          rw [ih _ (some a) acc h2 (by omega) (fun b h => by injection h with h; omega)]
          unfold todo
          dsimp only
          rw [hd, wordsGo_plain _ _ _ hpl, seg_app s a pos _ (by omega) (by omega) h2]
    · exact spans_end s _ pos st acc hp hst hlt
theorem fields_words (s : ByteArray) : (goFieldsP wsR s).map (fun x => x.data.toList) = words s.data.toList := by
  have h := spans_words s s.size 0 none [] (Nat.zero_le _) (by omega) (fun a h => by cases h)
  unfold goFieldsP spansOfP
  rw [List.map_map]
  have e : ((fun x : ByteArray => x.data.toList) ∘ fun x : Nat × Nat => s.extract x.1 x.2) = fun x => seg s x.1 x.2 := by
    funext x
    exact seg_extract s x.1 x.2
  rw [e]
  unfold pieces at h
  rw [h]
  unfold todo words
  simp
end Go.Proofs.Ytihfejjkkgnneaa.Fm
