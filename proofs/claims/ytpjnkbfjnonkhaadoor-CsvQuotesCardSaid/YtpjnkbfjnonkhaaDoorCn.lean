/-
  Records of a file between two places, found from a place on with the number of quotes ahead. Plain mathematics.
-/
import Derived.Test.YtpjnkbfjnonkhaaDoorCv
import Derived.Test.YtpjnkbfjnonkhaaDoorTm
namespace Go.Proofs.YtpjnkbfjnonkhaaDoor.Cv

/-- How large a record may be. -/
def Few50 (r : List (List UInt8)) : Prop := 1 ≤ r.length ∧ r.length ≤ 50 ∧ ∀ x ∈ r, x.length ≤ 1000
theorem few_snoc {r : List (List UInt8)} {f : List UInt8} (h : r.length < 50) (hr : ∀ x ∈ r, x.length ≤ 1000) (hf : f.length ≤ 1000) : Few50 (r ++ [f]) := by
  refine ⟨by simp, by simp; omega, fun x hx => ?_⟩
  rcases List.mem_append.1 hx with hx | hx
  · exact hr x hx
  · simp at hx; subst hx; exact hf
theorem stp_small {s r f c s' r' f'} (h : stp s r f (some c) = .go s' r' f') (h1 : r.length < 50) (h2 : ∀ x ∈ r, x.length ≤ 1000) (h3 : f.length ≤ 1000) : r'.length < 50 ∧ (∀ x ∈ r', x.length ≤ 1000) ∧ f'.length ≤ 1000 := by
  have ka : ∀ {c s' r' f'}, aF r f (some c) = .go s' r' f' → r'.length < 50 ∧ (∀ x ∈ r', x.length ≤ 1000) ∧ f'.length ≤ 1000 := fun h => by
    rcases aF_go h with ⟨_, _, rfl, h4, rfl⟩ | ⟨_, _, rfl, rfl⟩
    · exact ⟨by simp; omega, (few_snoc h1 h2 h3).2.2, by simp⟩
    · exact ⟨h1, h2, h3⟩
  have kd : ∀ {s c s' r' f'}, ad s r f c = .go s' r' f' → r'.length < 50 ∧ (∀ x ∈ r', x.length ≤ 1000) ∧ f'.length ≤ 1000 := fun h => by
    obtain ⟨_, rfl, h4, rfl⟩ := ad_go h
    exact ⟨h1, h2, by simp; omega⟩
  have kg : ∀ {t s' r' f'}, Out.go t r f = .go s' r' f' → r'.length < 50 ∧ (∀ x ∈ r', x.length ≤ 1000) ∧ f'.length ≤ 1000 := fun h => by
    injection h with _ h4 h5; subst h4; subst h5; exact ⟨h1, h2, h3⟩
  cases s <;> simp only [stp, bgS, unS, quS, aqS, arS] at h <;> (repeat' split at h) <;> first | exact ka h | exact kd h | exact kg h | cases h
theorem run_few : ∀ {l s r f r' rest}, r.length < 50 → (∀ x ∈ r, x.length ≤ 1000) → f.length ≤ 1000 → run s r f l = .ok r' rest → Few50 r'
  | [], s, r, f, r', rest, h1, h2, h3, h => by
    rw [run] at h
    rcases stp_none s r f with ⟨e', h4, _⟩ | h4
    · rw [h4] at h; cases h
    · rw [h4] at h; injection h with h5 h6; subst h5; exact few_snoc h1 h2 h3
  | c :: l, s, r, f, r', rest, h1, h2, h3, h => by
    rcases e : stp s r f (some c) with ⟨s', r2, f'⟩ | r2 | e'
    · rw [run_go e] at h
      obtain ⟨g1, g2, g3⟩ := stp_small e h1 h2 h3
      exact run_few g1 g2 g3 h
    · rw [run_fin e] at h
      injection h with h5 h6; subst h5
      rw [(stp_fin e).2.2]; exact few_snoc h1 h2 h3
    · rw [run_bad e] at h; cases h
theorem run_few0 {l r rest} (h : run .bg [] [] l = .ok r rest) : Few50 r := run_few (by simp) (by simp) (by simp) h
/-- What a record that stands leaves. -/
theorem run_rest {s r f l r' rest} (h : run s r f l = .ok r' rest) : rest = l.drop (l.length - rest.length) ∧ rest.length ≤ l.length ∧ (l ≠ [] → rest.length < l.length) := by
  obtain ⟨pre, rfl, h2, _⟩ := run_ok h
  rw [List.length_append]
  refine ⟨by rw [show pre.length + rest.length - rest.length = pre.length by omega]; simp, by omega, fun h => ?_⟩
  have := List.length_pos_iff.2 (h2 h)
  omega
theorem rs_few : ∀ (n : Nat) (l : List UInt8) (a : Nat), l.length ≤ n → ∀ p ∈ (rs a l).1, Few50 p.2
  | n, [], a, _, p, hp => by rw [rs_nil] at hp; cases hp
  | 0, c :: l, a, h, p, hp => by simp at h
  | n + 1, c :: l, a, h, p, hp => by
    rcases e : run .bg [] [] (c :: l) with ⟨r, rest⟩ | e'
    · rw [rs_ok (by simp) e] at hp
      obtain ⟨_, _, h3⟩ := run_rest e
      have h3 := h3 (by simp)
      rcases List.mem_cons.1 hp with rfl | hp
      · exact run_few0 e
      · exact rs_few n rest _ (by simp at h h3; omega) p hp
    · rw [rs_err (by simp) e] at hp; cases hp

/-- The record at a place, or what is wrong with it. -/
theorem rs_step (l : List UInt8) (a : Nat) (ha : a < l.length) : (∃ r m, run .bg [] [] (l.drop a) = .ok r (l.drop m) ∧ a < m ∧ m ≤ l.length ∧ rs a (l.drop a) = cons3 (a, r) (rs m (l.drop m)) ∧ (l.drop a).length - (l.drop m).length = m - a ∧ Few50 r) ∨ ∃ k, run .bg [] [] (l.drop a) = .err k ∧ rs a (l.drop a) = ([], a, k) ∧ (k = 3 ∨ k = 5) := by
  have hne : l.drop a ≠ [] := by rw [← List.length_pos_iff, List.length_drop]; omega
  rcases e : run .bg [] [] (l.drop a) with ⟨r, rest⟩ | e'
  · have e2 := rs_ok (a := a) hne e
    obtain ⟨h1, h2, h3⟩ := run_rest e
    have h3 := h3 hne
    have h4 : (l.drop a).length = l.length - a := List.length_drop ..
    have h5 : rest = l.drop (a + ((l.drop a).length - rest.length)) := by rw [← List.drop_drop]; exact h1
    refine .inl ⟨r, a + ((l.drop a).length - rest.length), by rw [← h5], by omega, by omega, by rw [← h5]; exact e2, by rw [← h5]; omega, run_few0 e⟩
  · exact .inr ⟨e', rfl, rs_err hne e, run_err e⟩

/-- From a record's begin on the file is right. -/
def V (v : List UInt8) (a : Nat) : Prop := (rs a (v.drop a)).2.2 = 0
/-- The records that begin from a place on, ahead of another one; those from a record's begin on. -/
def rd (P : List (Nat × List (List UInt8))) (f t : Nat) : List (Nat × List (List UInt8)) := P.filter fun p => decide (f ≤ p.1) && decide (p.1 < t)
def rl (v : List UInt8) (a t : Nat) : List (Nat × List (List UInt8)) := (rs a (v.drop a)).1.filter fun p => decide (p.1 < t)
theorem rl_end (v : List UInt8) (a t : Nat) (h : t ≤ a) : rl v a t = [] := by
  unfold rl
  rw [List.filter_eq_nil_iff]
  intro p hp
  have := rs_ge hp
  simp; omega
/-- The record that begins at a place, and where the next one does. -/
theorem V_step (v : List UInt8) (a : Nat) (h : V v a) (ha : a < v.length) : ∃ r n, run .bg [] [] (v.drop a) = .ok r (v.drop n) ∧ a < n ∧ n ≤ v.length ∧ V v n ∧ (v.drop a).length - (v.drop n).length = n - a ∧ rs a (v.drop a) = cons3 (a, r) (rs n (v.drop n)) := by
  have hne : v.drop a ≠ [] := by rw [← List.length_pos_iff, List.length_drop]; omega
  unfold V at h
  rcases e : run .bg [] [] (v.drop a) with ⟨r, rest⟩ | e'
  · have e2 := rs_ok (a := a) hne e
    obtain ⟨h1, h2, h3⟩ := run_rest e
    have h3 := h3 hne
    have h4 : (v.drop a).length = v.length - a := List.length_drop ..
    have h5 : rest = v.drop (a + ((v.drop a).length - rest.length)) := by rw [← List.drop_drop]; exact h1
    rw [e2] at h
    refine ⟨r, a + ((v.drop a).length - rest.length), by rw [← h5], by omega, by omega, ?_, by rw [← h5]; omega, by rw [← h5]; exact e2⟩
    unfold V; rw [← h5]; exact h
  · rw [rs_err hne e] at h
    rcases run_err e with h1 | h1 <;> simp at h <;> omega
theorem rl_step (v : List UInt8) (a t n : Nat) (r : List (List UInt8)) (h : a < t) (e : rs a (v.drop a) = cons3 (a, r) (rs n (v.drop n))) : rl v a t = (a, r) :: rl v n t := by
  unfold rl
  rw [e]
  show ((a, r) :: (rs n (v.drop n)).1).filter _ = _
  rw [List.filter_cons, if_pos (by simpa using h)]

/-- Where the first record begins, sought byte by byte. -/
def fsl : Bool → Nat → Nat → List UInt8 → Nat
  | _, _, t, [] => t
  | q, p, t, c :: l => if p < t then (if c = 34 then fsl (!q) (p + 1) t l else if c = 10 ∧ q = false then p + 1 else fsl q (p + 1) t l) else t
theorem fsl_end (q : Bool) (p t : Nat) (l : List UInt8) (h : t ≤ p) : fsl q p t l = t := by
  cases l with
  | nil => rfl
  | cons c l => rw [fsl, if_neg (by omega)]
theorem fsl_quote (q : Bool) (p t : Nat) (l : List UInt8) (h : p < t) : fsl q p t (34 :: l) = fsl (!q) (p + 1) t l := by rw [fsl, if_pos h, if_pos rfl]
theorem fsl_line (p t : Nat) (l : List UInt8) (h : p < t) : fsl false p t (10 :: l) = p + 1 := by rw [fsl, if_pos h, if_neg (by decide), if_pos ⟨rfl, rfl⟩]
theorem fsl_other (q : Bool) (p t : Nat) (c : UInt8) (l : List UInt8) (h : p < t) (hc : c ≠ 34) (h2 : c = 10 → q = true) : fsl q p t (c :: l) = fsl q (p + 1) t l := by
  rw [fsl, if_pos h, if_neg hc, if_neg]
  rintro ⟨h3, h4⟩
  rw [h2 h3] at h4; cases h4
theorem fsl_rs : ∀ (l : List UInt8) (a : Nat) (s : St) (r : List (List UInt8)) (f : List UInt8) (p t : Nat) (q : Bool), a < p → p ≤ t → t ≤ p + l.length → (recs a s r f p l).2.2 = 0 → (s = .qu ↔ q = true) →
    ∃ F, fsl q p t l = F ∧ p ≤ F ∧ F ≤ t ∧ (recs a s r f p l).1.filter (fun x => decide (p ≤ x.1) && decide (x.1 < t)) = (rs F (l.drop (F - p))).1.filter (fun x => decide (x.1 < t)) ∧ (F = t ∨ (rs F (l.drop (F - p))).2.2 = 0)
  | l, a, s, r, f, p, t, q, ha, hp, ht, h, hq => by
    by_cases hpt : p = t
    · subst hpt
      refine ⟨p, fsl_end q p p l (Nat.le_refl _), Nat.le_refl _, Nat.le_refl _, ?_, .inl rfl⟩
      have e1 : (recs a s r f p l).1.filter (fun x => decide (p ≤ x.1) && decide (x.1 < p)) = [] := by
        rw [List.filter_eq_nil_iff]; intro x _; simp
      have e2 : (rs p (l.drop (p - p))).1.filter (fun x => decide (x.1 < p)) = [] := by
        rw [List.filter_eq_nil_iff]; intro x hx; have := rs_ge hx; simp; omega
      rw [e1, e2]
    · match l with
      | [] => simp at ht; omega
      | c :: l =>
        rw [List.length_cons] at ht
        have hlt : p < t := by omega
        -- no record begins at p
        have weak : ∀ (s' : St) (r2 f' : _), (recs a s' r2 f' (p + 1) l).1.filter (fun x => decide (p ≤ x.1) && decide (x.1 < t)) = (recs a s' r2 f' (p + 1) l).1.filter (fun x => decide (p + 1 ≤ x.1) && decide (x.1 < t)) := fun s' r2 f' => by
          refine List.filter_congr fun x hx => ?_
          congr 1
          rcases recs_ge hx with h1 | h1
          · rw [h1]; simp; omega
          · simp; omega
        rcases e : stp s r f (some c) with ⟨s', r2, f'⟩ | r2 | e'
        · rw [recs_go e] at h ⊢
          obtain ⟨g1, g2, g3⟩ := stp_go e
          obtain ⟨F, i1, i2, i3, i4, i5⟩ := fsl_rs l a s' r2 f' (p + 1) t (if c = 34 then !q else q) (by omega) (by omega) (by omega) h (by
            by_cases hc : c = 34
            · rw [if_pos hc, g1 hc]; simp [hq]
            · rw [if_neg hc, g2 hc]; exact hq)
          refine ⟨F, ?_, by omega, i3, ?_, ?_⟩
          · by_cases hc : c = 34
            · rw [if_pos hc] at i1; subst hc; rw [fsl_quote q p t l hlt]; exact i1
            · rw [if_neg hc] at i1; rw [fsl_other q p t c l hlt hc fun h10 => hq.1 (g3 h10)]; exact i1
          · rw [weak, i4, show F - p = (F - (p + 1)) + 1 by omega, List.drop_succ_cons]
          · rw [show F - p = (F - (p + 1)) + 1 by omega, List.drop_succ_cons]; exact i5
        · rw [recs_fin e] at h ⊢
          obtain ⟨rfl, g2, g3⟩ := stp_fin e
          have hqf : q = false := by cases q with | false => rfl | true => exact absurd (hq.2 rfl) g2
          subst hqf
          refine ⟨p + 1, fsl_line p t l hlt, by omega, by omega, ?_, .inr ?_⟩
          · rw [show p + 1 - p = 0 + 1 by omega, List.drop_succ_cons, List.drop_zero]
            show ((a, r2) :: (rs (p + 1) l).1).filter _ = _
            rw [List.filter_cons, if_neg (by simp; omega)]
            refine List.filter_congr fun x hx => ?_
            have := rs_ge hx
            have e1 : decide (p ≤ x.1) = true := by simp; omega
            rw [e1, Bool.true_and]
          · rw [show p + 1 - p = 0 + 1 by omega, List.drop_succ_cons, List.drop_zero]; exact h
        · rw [recs_bad e] at h
          rcases stp_bad e with h1 | h1 <;> simp at h <;> omega

/-- Where the first record of a split begins. -/
def fs (v : List UInt8) (f t : Nat) (q : Bool) : Nat := if t ≤ f then t else if q = false ∧ (f = 0 ∨ v[f - 1]? = some 10) then f else fsl q f t (v.drop f)
theorem fs_rd (v : List UInt8) (f t : Nat) (h : V v 0) (ht : t ≤ v.length) (hft : f ≤ v.length) : rd (rs 0 v).1 f t = rl v (fs v f t (odd (v.take f))) t ∧ (t ≤ fs v f t (odd (v.take f)) ∨ V v (fs v f t (odd (v.take f)))) ∧ fs v f t (odd (v.take f)) ≤ v.length := by
  unfold fs
  by_cases h1 : t ≤ f
  · rw [if_pos h1, rl_end v t t (Nat.le_refl _)]
    refine ⟨?_, .inl (Nat.le_refl _), ht⟩
    unfold rd
    rw [List.filter_eq_nil_iff]
    intro x _; simp; omega
  · rw [if_neg h1]
    unfold V at h
    rw [List.drop_zero] at h
    obtain ⟨pre, a', s', r', f', i1, i2, i3, i4, i5, i6, i7⟩ := recs_at v 0 .bg [] [] 0 f (by omega) (Nat.le_refl _) (fun _ => ⟨rfl, rfl, rfl⟩) h false (by simp)
    rw [Nat.zero_add] at i1 i2 i3 i4 i5 i7
    rw [Bool.false_xor] at i6
    have e0 : rd (rs 0 v).1 f t = (recs a' s' r' f' f (v.drop f)).1.filter (fun x => decide (f ≤ x.1) && decide (x.1 < t)) := by
      unfold rd
      show (recs 0 .bg [] [] 0 v).1.filter _ = _
      rw [i1, List.filter_append]
      have : pre.filter (fun x => decide (f ≤ x.1) && decide (x.1 < t)) = [] := by
        rw [List.filter_eq_nil_iff]; intro x hx; have := i3 x hx; simp; omega
      rw [this, List.nil_append]
    rw [e0]
    by_cases h2 : a' = f
    · have h3 := i7.1 h2
      have hq : odd (v.take f) = false := by
        cases ho : odd (v.take f) with
        | false => rfl
        | true => exact absurd (i6.2 ho) h3.1
      rw [if_pos ⟨hq, by rcases h3.2 with h4 | h4; exact .inl h4.1; exact .inr h4.2⟩]
      obtain ⟨rfl, rfl, rfl⟩ := i5 h2
      subst h2
      refine ⟨?_, .inr i2, by omega⟩
      unfold rl
      refine List.filter_congr fun x hx => ?_
      have := rs_ge hx
      have e1 : decide (a' ≤ x.1) = true := by simp; omega
      rw [e1, Bool.true_and]
    · rw [if_neg]
      · obtain ⟨F, j1, j2, j3, j4, j5⟩ := fsl_rs (v.drop f) a' s' r' f' f t (odd (v.take f)) (by omega) (by omega) (by rw [List.length_drop]; omega) i2 i6
        rw [j1, j4]
        have e2 : (v.drop f).drop (F - f) = v.drop F := by rw [List.drop_drop, show f + (F - f) = F by omega]
        rw [e2] at j5 ⊢
        exact ⟨rfl, by rcases j5 with j5 | j5; exact .inl (by omega); exact .inr j5, by omega⟩
      · rintro ⟨h4, h5⟩
        refine h2 (i7.2 ⟨fun h6 => ?_, ?_⟩)
        · have := i6.1 h6; rw [h4] at this; cases this
        · rcases h5 with h5 | h5
          · exact .inl ⟨h5, rfl⟩
          · by_cases hf : f = 0
            · exact .inl ⟨hf, rfl⟩
            · exact .inr ⟨by omega, h5⟩

theorem filter_split (a c t : Nat) (h1 : a ≤ c) (h2 : c ≤ t) : ∀ l : List (Nat × List (List UInt8)), l.Pairwise (fun p q => p.1 < q.1) →
    l.filter (fun p => decide (a ≤ p.1) && decide (p.1 < t)) = l.filter (fun p => decide (a ≤ p.1) && decide (p.1 < c)) ++ l.filter (fun p => decide (c ≤ p.1) && decide (p.1 < t))
  | [], _ => rfl
  | p :: l, h => by
    rw [List.pairwise_cons] at h
    have ih := filter_split a c t h1 h2 l h.2
    by_cases hc : p.1 < c
    · rw [List.filter_cons, List.filter_cons, List.filter_cons, ih]
      have e3 : (decide (c ≤ p.1) && decide (p.1 < t)) = false := by simp; omega
      have e1 : decide (p.1 < t) = true := by simp; omega
      have e2 : decide (p.1 < c) = true := by simpa using hc
      rw [e3, e1, e2]
      cases decide (a ≤ p.1) <;> simp
    · have e4 : l.filter (fun p => decide (a ≤ p.1) && decide (p.1 < c)) = [] := by
        rw [List.filter_eq_nil_iff]
        intro q hq
        have := h.1 q hq
        simp; omega
      rw [List.filter_cons, List.filter_cons, List.filter_cons, ih, e4]
      have e2 : decide (p.1 < c) = false := by simpa using hc
      have e1 : decide (a ≤ p.1) = decide (c ≤ p.1) := by simp; omega
      rw [e1, e2]
      simp
/-- The records of a file. -/
def ls (b : List UInt8) : List (Nat × List (List UInt8)) := (rs 0 b).1
def good (b : List UInt8) : Nat := (rs 0 b).2.1
def er (b : List UInt8) : Nat := (rs 0 b).2.2
theorem good_le (b : List UInt8) : good b ≤ b.length := by have := (rs_take b.length b 0 (Nat.le_refl _)).2.1; unfold good; omega
theorem er_or (b : List UInt8) : er b = 0 ∧ good b = b.length ∨ (er b = 3 ∨ er b = 5) ∧ good b < b.length := by
  have := (rs_take b.length b 0 (Nat.le_refl _)).2.2.2
  unfold er good; rw [Nat.zero_add] at this; exact this
/-- The right part alone. -/
theorem ls_good (b : List UInt8) : rs 0 (b.take (good b)) = (ls b, good b, 0) := by
  have := (rs_take b.length b 0 (Nat.le_refl _)).2.2.1
  rw [Nat.sub_zero] at this; exact this
theorem V_good (b : List UInt8) : V (b.take (good b)) 0 := by unfold V; rw [List.drop_zero, ls_good]
theorem ls_lt {b : List UInt8} {p : Nat × List (List UInt8)} (h : p ∈ ls b) : p.1 < good b := by
  have h2 := ls_good b
  have h3 : p ∈ (rs 0 (b.take (good b))).1 := by rw [h2]; exact h
  have := rs_lt h3
  rw [List.length_take] at this
  omega
theorem ls_len (b : List UInt8) : (ls b).length ≤ b.length := rs_len 0 b
theorem ls_few {b : List UInt8} {p : Nat × List (List UInt8)} (h : p ∈ ls b) : Few50 p.2 := rs_few b.length b 0 (Nat.le_refl _) p h
theorem rd_split (b : List UInt8) (a c t : Nat) (h1 : a ≤ c) (h2 : c ≤ t) : rd (ls b) a t = rd (ls b) a c ++ rd (ls b) c t := filter_split a c t h1 h2 _ (rs_sorted 0 b)
theorem rd_all (b : List UInt8) (t : Nat) (h : good b ≤ t) : rd (ls b) 0 t = ls b := by
  unfold rd
  rw [List.filter_eq_self]
  intro p hp
  have := ls_lt hp
  simp; omega
theorem rd_min (b : List UInt8) (f t : Nat) : rd (ls b) f t = rd (ls b) f (min t (good b)) := by
  unfold rd
  refine List.filter_congr fun p hp => ?_
  have := ls_lt hp
  congr 1
  simp only [decide_eq_decide]
  omega
theorem rd_len (b : List UInt8) (f t : Nat) : (rd (ls b) f t).length ≤ b.length := Nat.le_trans (List.length_filter_le _ _) (ls_len b)
/-- A record as a piece. -/
def pc (p : Nat × List (List UInt8)) : Nat × List (List (List UInt8)) := (p.1, [p.2])
theorem all_pc (l : List (Nat × List (List UInt8))) : Tm.all (l.map pc) = l.map (·.2) := by
  induction l with
  | nil => rfl
  | cons p l ih => simp only [Tm.all, List.map_cons, List.flatMap_cons] at ih ⊢; rw [ih]; rfl
theorem btw_pc (l : List (Nat × List (List UInt8))) (f t : Nat) : Tm.all (Tm.btw f t (l.map pc)) = (rd l f t).map (·.2) := by
  unfold Tm.btw rd
  rw [List.filter_map, all_pc]
  rfl
theorem odd_take (b : List UInt8) (f g : Nat) (h : f ≤ g) : odd ((b.take g).take f) = odd (b.take f) := by rw [List.take_take, show min f g = f by omega]
end Go.Proofs.YtpjnkbfjnonkhaaDoor.Cv
