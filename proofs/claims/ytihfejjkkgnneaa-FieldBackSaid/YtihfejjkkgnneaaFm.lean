/-
  Plain mathematics of layer 4 (field), by the document's words: texts escaped and back, lines of pairs and back, words, records as bytes and back.
-/
import Derived.Test.YtihfejjkkgnneaaVm
namespace Go.Proofs.Ytihfejjkkgnneaa.Fm
open Vm

/-- Escaped. -/
def esc : List UInt8 → List UInt8
  | [] => []
  | c :: r => if c = 9 then 92 :: 116 :: esc r else if c = 10 then 92 :: 110 :: esc r else if c = 92 then 92 :: 92 :: esc r else c :: esc r
/-- And back. -/
def unesc : List UInt8 → Option (List UInt8)
  | [] => some []
  | c :: r =>
    if c = 9 ∨ c = 10 then none
    else if c = 92 then
      match r with
      | [] => none
      | d :: r' => if d = 116 then (unesc r').map (9 :: ·) else if d = 110 then (unesc r').map (10 :: ·) else if d = 92 then (unesc r').map (92 :: ·) else none
    else (unesc r).map (c :: ·)
theorem unesc_plain (c : UInt8) (r : List UInt8) (h1 : c ≠ 9) (h2 : c ≠ 10) (h3 : c ≠ 92) : unesc (c :: r) = (unesc r).map (c :: ·) := by
  rw [unesc.eq_def]
  dsimp only
  rw [if_neg (by simp [h1, h2]), if_neg h3]
theorem unesc_bad (c : UInt8) (r : List UInt8) (h : c = 9 ∨ c = 10) : unesc (c :: r) = none := by
  rw [unesc.eq_def]
  dsimp only
  rw [if_pos h]
theorem unesc_last : unesc [92] = none := by decide
theorem unesc_t (r : List UInt8) : unesc (92 :: 116 :: r) = (unesc r).map (9 :: ·) := by rw [unesc]; simp
theorem unesc_n (r : List UInt8) : unesc (92 :: 110 :: r) = (unesc r).map (10 :: ·) := by rw [unesc]; simp
theorem unesc_b (r : List UInt8) : unesc (92 :: 92 :: r) = (unesc r).map (92 :: ·) := by rw [unesc]; simp
theorem unesc_other (d : UInt8) (r : List UInt8) (h1 : d ≠ 116) (h2 : d ≠ 110) (h3 : d ≠ 92) : unesc (92 :: d :: r) = none := by rw [unesc]; simp [h1, h2, h3]
theorem esc_9 (r : List UInt8) : esc (9 :: r) = 92 :: 116 :: esc r := by simp [esc]
theorem esc_10 (r : List UInt8) : esc (10 :: r) = 92 :: 110 :: esc r := by simp [esc]
theorem esc_92 (r : List UInt8) : esc (92 :: r) = 92 :: 92 :: esc r := by simp [esc]
theorem esc_plain (c : UInt8) (r : List UInt8) (h1 : c ≠ 9) (h2 : c ≠ 10) (h3 : c ≠ 92) : esc (c :: r) = c :: esc r := by simp [esc, h1, h2, h3]
theorem unesc_esc : ∀ s : List UInt8, unesc (esc s) = some s
  | [] => rfl
  | c :: r => by
    have ih := unesc_esc r
    by_cases h1 : c = 9
    · subst h1; rw [esc_9, unesc_t, ih]; rfl
    · by_cases h2 : c = 10
      · subst h2; rw [esc_10, unesc_n, ih]; rfl
      · by_cases h3 : c = 92
        · subst h3; rw [esc_92, unesc_b, ih]; rfl
        · rw [esc_plain c r h1 h2 h3, unesc_plain c _ h1 h2 h3, ih]; rfl
theorem esc_unesc : ∀ (n : Nat) (b t : List UInt8), b.length ≤ n → unesc b = some t → esc t = b
  | _, [], t, _, h => by
    have h' : some [] = some t := h
    injection h' with h'
    subst h'; rfl
  | 0, c :: r, _, hn, _ => by simp at hn
  | n + 1, c :: r, t, hn, h => by
    have hr : r.length ≤ n := by simpa using hn
    by_cases h0 : c = 9 ∨ c = 10
    · rw [unesc_bad c r h0] at h; cases h
    · have h1 : c ≠ 9 := fun e => h0 (.inl e)
      have h2 : c ≠ 10 := fun e => h0 (.inr e)
      by_cases h3 : c = 92
      · subst h3
        cases r with
        | nil => rw [unesc_last] at h; cases h
        | cons d r' =>
          have hr' : r'.length ≤ n := by simp at hr; omega
          by_cases g1 : d = 116
          · subst g1
            rw [unesc_t, Option.map_eq_some_iff] at h
            obtain ⟨u, hu, rfl⟩ := h
            rw [esc_9, esc_unesc n r' u hr' hu]
          · by_cases g2 : d = 110
            · subst g2
              rw [unesc_n, Option.map_eq_some_iff] at h
              obtain ⟨u, hu, rfl⟩ := h
              rw [esc_10, esc_unesc n r' u hr' hu]
            · by_cases g3 : d = 92
              · subst g3
                rw [unesc_b, Option.map_eq_some_iff] at h
                obtain ⟨u, hu, rfl⟩ := h
                rw [esc_92, esc_unesc n r' u hr' hu]
              · rw [unesc_other d r' g1 g2 g3] at h; cases h
      · rw [unesc_plain c r h1 h2 h3, Option.map_eq_some_iff] at h
        obtain ⟨u, hu, rfl⟩ := h
        rw [esc_plain c u h1 h2 h3, esc_unesc n r u hr hu]
theorem esc_back {b t : List UInt8} (h : unesc b = some t) : esc t = b := esc_unesc b.length b t (Nat.le_refl _) h
theorem esc_free : ∀ s : List UInt8, ∀ x ∈ esc s, x ≠ 9 ∧ x ≠ 10
  | [], x, h => by simp [esc] at h
  | c :: r, x, h => by
    have ih := esc_free r
    by_cases h1 : c = 9
    · subst h1; rw [esc_9] at h
      rcases List.mem_cons.1 h with rfl | h
      · decide
      · rcases List.mem_cons.1 h with rfl | h
        · decide
        · exact ih x h
    · by_cases h2 : c = 10
      · subst h2; rw [esc_10] at h
        rcases List.mem_cons.1 h with rfl | h
        · decide
        · rcases List.mem_cons.1 h with rfl | h
          · decide
          · exact ih x h
      · by_cases h3 : c = 92
        · subst h3; rw [esc_92] at h
          rcases List.mem_cons.1 h with rfl | h
          · decide
          · rcases List.mem_cons.1 h with rfl | h
            · decide
            · exact ih x h
        · rw [esc_plain c r h1 h2 h3] at h
          rcases List.mem_cons.1 h with rfl | h
          · exact ⟨h1, h2⟩
          · exact ih x h
theorem esc_len : ∀ s : List UInt8, (esc s).length ≤ 2 * s.length
  | [] => by simp [esc]
  | c :: r => by
    have ih := esc_len r
    unfold esc
    split
    · simp; omega
    · split
      · simp; omega
      · split <;> simp <;> omega

/-- What stands between bytes of one kind. -/
def cut (a : UInt8) : List UInt8 → List (List UInt8)
  | [] => [[]]
  | c :: r => if c = a then [] :: cut a r else match cut a r with | [] => [[c]] | h :: t => (c :: h) :: t
def join (a : UInt8) : List (List UInt8) → List UInt8
  | [] => []
  | [x] => x
  | x :: y :: r => x ++ a :: join a (y :: r)
theorem cut_ne (a : UInt8) : ∀ s, cut a s ≠ []
  | [] => by simp [cut]
  | c :: r => by
    unfold cut
    split
    · simp
    · split <;> simp
theorem cut_none (a : UInt8) : ∀ s : List UInt8, (∀ x ∈ s, x ≠ a) → cut a s = [s]
  | [], _ => rfl
  | c :: r, h => by
    unfold cut
    rw [if_neg (h c (List.mem_cons_self ..)), cut_none a r (fun x hx => h x (List.mem_cons_of_mem _ hx))]
theorem cut_app (a : UInt8) : ∀ s t : List UInt8, (∀ x ∈ s, x ≠ a) → cut a (s ++ a :: t) = s :: cut a t
  | [], t, _ => by simp [cut]
  | c :: r, t, h => by
    rw [List.cons_append, cut, if_neg (h c (List.mem_cons_self ..)), cut_app a r t (fun x hx => h x (List.mem_cons_of_mem _ hx))]
theorem join_cut (a : UInt8) : ∀ s : List UInt8, join a (cut a s) = s
  | [] => rfl
  | c :: r => by
    have ih := join_cut a r
    have hne := cut_ne a r
    unfold cut
    split
    · rename_i h
      cases hc : cut a r with
      | nil => exact absurd hc hne
      | cons y q => rw [join, ← hc, ih, h]; rfl
    · cases hc : cut a r with
      | nil => exact absurd hc hne
      | cons y q =>
        rw [hc] at ih
        cases q with
        | nil => simp only [join] at ih ⊢; rw [ih]
        | cons z q' => simp only [join] at ih ⊢; rw [← ih]; rfl
theorem cut_free (a : UInt8) : ∀ s : List UInt8, ∀ x ∈ cut a s, ∀ y ∈ x, y ≠ a
  | [], x, hx, y, hy => by
    simp [cut] at hx
    subst hx
    cases hy
  | c :: r, x, hx, y, hy => by
    have ih := cut_free a r
    unfold cut at hx
    split at hx
    · rcases List.mem_cons.1 hx with rfl | hx
      · cases hy
      · exact ih x hx y hy
    · rename_i hca
      split at hx
      · rename_i hc; exact absurd hc (cut_ne a r)
      · rename_i h t hc
        rw [hc] at ih
        rcases List.mem_cons.1 hx with rfl | hx
        · rcases List.mem_cons.1 hy with rfl | hy
          · exact hca
          · exact ih h (List.mem_cons_self ..) y hy
        · exact ih x (List.mem_cons_of_mem _ hx) y hy

/-- A pair's line, without the byte 10. -/
def lineOf (p : List UInt8 × List UInt8) : List UInt8 := esc p.1 ++ 9 :: esc p.2
def lines : List (List UInt8 × List UInt8) → List UInt8
  | [] => []
  | p :: r => lineOf p ++ 10 :: lines r
def pairOf (x : List UInt8) : Option (List UInt8 × List UInt8) :=
  match cut 9 x with
  | [k, v] => match unesc k, unesc v with | some k', some v' => some (k', v') | _, _ => none
  | _ => none
def pairsL : List (List UInt8) → Option (List (List UInt8 × List UInt8))
  | [] => none
  | [x] => if x = [] then some [] else none
  | x :: y :: r => match pairOf x, pairsL (y :: r) with | some p, some q => some (p :: q) | _, _ => none
def pairs (b : List UInt8) : Option (List (List UInt8 × List UInt8)) := pairsL (cut 10 b)
theorem pair_line (p : List UInt8 × List UInt8) : pairOf (lineOf p) = some p := by
  unfold pairOf lineOf
  rw [cut_app 9 _ _ (fun x hx => (esc_free _ x hx).1), cut_none 9 _ (fun x hx => (esc_free _ x hx).1)]
  simp only [unesc_esc]
theorem line_pair {x : List UInt8} {p : List UInt8 × List UInt8} (h : pairOf x = some p) : lineOf p = x := by
  unfold pairOf at h
  split at h
  · rename_i k v hc
    split at h
    · rename_i k' v' hk hv
      injection h with h
      subst h
      have hj := join_cut 9 x
      rw [hc] at hj
      simp only [join] at hj
      unfold lineOf
      rw [esc_back hk, esc_back hv, hj]
    · cases h
  · cases h
theorem line_free (p : List UInt8 × List UInt8) : ∀ x ∈ lineOf p, x ≠ 10 := by
  intro x hx
  unfold lineOf at hx
  rcases List.mem_append.1 hx with h | h
  · exact (esc_free _ x h).2
  · rcases List.mem_cons.1 h with rfl | h
    · decide
    · exact (esc_free _ x h).2
theorem pairs_lines : ∀ l : List (List UInt8 × List UInt8), pairs (lines l) = some l
  | [] => by simp [pairs, lines, cut, pairsL]
  | p :: r => by
    have ih := pairs_lines r
    unfold pairs at ih ⊢
    rw [lines, cut_app 10 _ _ (line_free p)]
    cases hc : cut 10 (lines r) with
    | nil => exact absurd hc (cut_ne 10 _)
    | cons y q =>
      rw [hc] at ih
      rw [pairsL, pair_line, ih]
theorem lines_pairsL : ∀ (l : List (List UInt8)) (u : List (List UInt8 × List UInt8)), pairsL l = some u → lines u = join 10 l
  | [], _, h => by cases h
  | [x], u, h => by
    unfold pairsL at h
    split at h
    · rename_i hx; injection h with h; subst h; subst hx; rfl
    · cases h
  | x :: y :: r, u, h => by
    unfold pairsL at h
    split at h
    · rename_i p q hp hq
      injection h with h
      subst h
      rw [lines, join, line_pair hp, lines_pairsL (y :: r) q hq]
    · cases h
theorem lines_pairs {b : List UInt8} {u : List (List UInt8 × List UInt8)} (h : pairs b = some u) : lines u = b := by
  rw [lines_pairsL _ _ h, join_cut]
end Go.Proofs.Ytihfejjkkgnneaa.Fm
