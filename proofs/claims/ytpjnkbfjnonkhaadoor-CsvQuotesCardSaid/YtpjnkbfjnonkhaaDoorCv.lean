/-
  Records of a file of fields between commas, byte by byte: what a record is, which begin between two places. Plain mathematics.
-/
import Derived.Lib.Bytealg
namespace Go.Proofs.YtpjnkbfjnonkhaaDoor.Cv

/-- What is awaited: a field's begin, a plain field's byte, a quoted one's, what is behind a quote, a byte 10 behind a byte 13. -/
inductive St where
  | bg | un | qu | aq | ar
/-- What a byte comes to. -/
inductive Out where
  | go (s : St) (r : List (List UInt8)) (f : List UInt8)
  | fin (r : List (List UInt8))
  | bad (e : Nat)
/-- What a record comes to. -/
inductive Res where
  | ok (r : List (List UInt8)) (rest : List UInt8)
  | err (e : Nat)

def aF (r : List (List UInt8)) (f : List UInt8) : Option UInt8 → Out
  | none => .fin (r ++ [f])
  | some c => if c = 44 then (if r.length + 1 = 50 then .bad 5 else .go .bg (r ++ [f]) []) else if c = 13 then .go .ar r f else if c = 10 then .fin (r ++ [f]) else .bad 3
def ad (s : St) (r : List (List UInt8)) (f : List UInt8) (c : UInt8) : Out := if f.length = 1000 then .bad 5 else .go s r (f ++ [c])
def unS (r : List (List UInt8)) (f : List UInt8) : Option UInt8 → Out
  | none => aF r f none
  | some c => if c = 44 ∨ c = 34 ∨ c = 10 ∨ c = 13 then aF r f (some c) else ad .un r f c
def quS (r : List (List UInt8)) (f : List UInt8) : Option UInt8 → Out
  | none => .bad 3
  | some c => if c = 34 then .go .aq r f else ad .qu r f c
def aqS (r : List (List UInt8)) (f : List UInt8) : Option UInt8 → Out
  | none => aF r f none
  | some c => if c = 34 then ad .qu r f 34 else aF r f (some c)
def arS (r : List (List UInt8)) (f : List UInt8) : Option UInt8 → Out
  | none => .bad 3
  | some c => if c = 10 then aF r f (some 10) else .bad 3
def bgS (r : List (List UInt8)) (f : List UInt8) : Option UInt8 → Out
  | none => unS r f none
  | some c => if c = 34 then .go .qu r f else unS r f (some c)
def stp : St → List (List UInt8) → List UInt8 → Option UInt8 → Out
  | .bg => bgS
  | .un => unS
  | .qu => quS
  | .aq => aqS
  | .ar => arS
def run : St → List (List UInt8) → List UInt8 → List UInt8 → Res
  | s, r, f, [] => match stp s r f none with
    | .go _ _ _ => .err 3
    | .fin r' => .ok r' []
    | .bad e => .err e
  | s, r, f, c :: l => match stp s r f (some c) with
    | .go s' r' f' => run s' r' f' l
    | .fin r' => .ok r' l
    | .bad e => .err e
abbrev T := List (Nat × List (List UInt8)) × Nat × Nat
def cons3 (x : Nat × List (List UInt8)) (y : T) : T := (x :: y.1, y.2.1, y.2.2)
/-- The records behind a place, where one began at another place and is under way; where the right part ends; what is wrong. -/
def recs : Nat → St → List (List UInt8) → List UInt8 → Nat → List UInt8 → T
  | a, s, r, f, p, [] => if a = p then ([], a, 0) else match stp s r f none with
    | .go _ _ _ => ([], a, 3)
    | .fin r' => ([(a, r')], p, 0)
    | .bad e => ([], a, e)
  | a, s, r, f, p, c :: l => match stp s r f (some c) with
    | .go s' r' f' => recs a s' r' f' (p + 1) l
    | .fin r' => cons3 (a, r') (recs (p + 1) .bg [] [] (p + 1) l)
    | .bad e => ([], a, e)
def rs (a : Nat) (l : List UInt8) : T := recs a .bg [] [] a l

theorem run_go {s r f c l s' r' f'} (h : stp s r f (some c) = .go s' r' f') : run s r f (c :: l) = run s' r' f' l := by rw [run, h]
theorem run_fin {s r f c l r'} (h : stp s r f (some c) = .fin r') : run s r f (c :: l) = .ok r' l := by rw [run, h]
theorem run_bad {s r f c l e} (h : stp s r f (some c) = .bad e) : run s r f (c :: l) = .err e := by rw [run, h]
theorem run_none (s r f) : run s r f [] = match stp s r f none with
    | .go _ _ _ => .err 3
    | .fin r' => .ok r' []
    | .bad e => .err e := by rw [run]
theorem recs_go {a s r f p c l s' r' f'} (h : stp s r f (some c) = .go s' r' f') : recs a s r f p (c :: l) = recs a s' r' f' (p + 1) l := by rw [recs, h]
theorem recs_fin {a s r f p c l r'} (h : stp s r f (some c) = .fin r') : recs a s r f p (c :: l) = cons3 (a, r') (rs (p + 1) l) := by rw [recs, h]; rfl
theorem recs_bad {a s r f p c l e} (h : stp s r f (some c) = .bad e) : recs a s r f p (c :: l) = ([], a, e) := by rw [recs, h]

theorem stp_none (s r f) : (∃ e, stp s r f none = .bad e ∧ e = 3) ∨ stp s r f none = .fin (r ++ [f]) := by
  cases s <;> simp [stp, bgS, unS, quS, aqS, arS, aF]
theorem aF_bad {r f c e} (h : aF r f c = .bad e) : e = 3 ∨ e = 5 := by
  cases c with
  | none => simp [aF] at h
  | some c => simp only [aF] at h; (repeat' split at h) <;> simp at h <;> omega
theorem ad_bad {s r f c e} (h : ad s r f c = .bad e) : e = 3 ∨ e = 5 := by
  simp only [ad] at h; split at h <;> simp at h; omega
theorem stp_bad {s r f c e} (h : stp s r f c = .bad e) : e = 3 ∨ e = 5 := by
  cases s <;> cases c <;> simp only [stp, bgS, unS, quS, aqS, arS] at h <;> (repeat' split at h) <;> first | exact aF_bad h | exact ad_bad h | (simp at h; done) | (simp at h; omega)
theorem aF_go {r f c s' r' f'} (h : aF r f (some c) = .go s' r' f') : (c = 44 ∧ s' = .bg ∧ r' = r ++ [f] ∧ r.length + 1 ≠ 50 ∧ f' = []) ∨ (c = 13 ∧ s' = .ar ∧ r' = r ∧ f' = f) := by
  simp only [aF] at h
  split at h
  · split at h
    · cases h
    · injection h with h1 h2 h3; exact .inl ⟨by assumption, h1.symm, h2.symm, by assumption, h3.symm⟩
  · split at h
    · injection h with h1 h2 h3; exact .inr ⟨by assumption, h1.symm, h2.symm, h3.symm⟩
    · split at h <;> cases h
theorem aF_fin {r f c r'} (h : aF r f (some c) = .fin r') : c = 10 ∧ r' = r ++ [f] := by
  simp only [aF] at h
  split at h
  · split at h <;> cases h
  · split at h
    · cases h
    · split at h
      · injection h with h; exact ⟨by assumption, h.symm⟩
      · cases h
theorem ad_go {s r f c s' r' f'} (h : ad s r f c = .go s' r' f') : s' = s ∧ r' = r ∧ f.length ≠ 1000 ∧ f' = f ++ [c] := by
  simp only [ad] at h
  split at h
  · cases h
  · injection h with h1 h2 h3; exact ⟨h1.symm, h2.symm, by assumption, h3.symm⟩
theorem ad_fin {s r f c r'} (h : ad s r f c = .fin r') : False := by
  simp only [ad] at h; split at h <;> cases h
/-- How the state and the number of quotes go together; a byte 10 is gone on behind within quotes alone. -/
theorem stp_go {s r f c s' r' f'} (h : stp s r f (some c) = .go s' r' f') : (c = 34 → (s' = .qu ↔ s ≠ .qu)) ∧ (c ≠ 34 → (s' = .qu ↔ s = .qu)) ∧ (c = 10 → s = .qu) := by
  cases s
  · simp only [stp, bgS, unS] at h
    split at h
    next hc => injection h with h1; subst h1; subst hc; simp
    next hc =>
      split at h
      next => rcases aF_go h with ⟨rfl, rfl, _⟩ | ⟨rfl, rfl, _⟩ <;> simp
      next h2 => obtain ⟨rfl, _⟩ := ad_go h; simp at h2; simp [h2]
  · simp only [stp, unS] at h
    split at h
    next => rcases aF_go h with ⟨rfl, rfl, _⟩ | ⟨rfl, rfl, _⟩ <;> simp
    next h2 => obtain ⟨rfl, _⟩ := ad_go h; simp at h2; simp [h2]
  · simp only [stp, quS] at h
    split at h
    next hc => injection h with h1; subst h1; subst hc; simp
    next hc => obtain ⟨rfl, _⟩ := ad_go h; simp [hc]
  · simp only [stp, aqS] at h
    split at h
    next hc => obtain ⟨rfl, _⟩ := ad_go h; subst hc; simp
    next hc => rcases aF_go h with ⟨rfl, rfl, _⟩ | ⟨rfl, rfl, _⟩ <;> simp
  · simp only [stp, arS] at h
    split at h
    next => rcases aF_go h with ⟨h1, _⟩ | ⟨h1, _⟩ <;> simp at h1
    next => cases h
theorem stp_fin {s r f c r'} (h : stp s r f (some c) = .fin r') : c = 10 ∧ s ≠ .qu ∧ r' = r ++ [f] := by
  cases s
  · simp only [stp, bgS, unS] at h
    split at h
    · cases h
    · split at h
      · exact ⟨(aF_fin h).1, by simp, (aF_fin h).2⟩
      · exact (ad_fin h).elim
  · simp only [stp, unS] at h
    split at h
    · exact ⟨(aF_fin h).1, by simp, (aF_fin h).2⟩
    · exact (ad_fin h).elim
  · simp only [stp, quS] at h
    split at h
    · cases h
    · exact (ad_fin h).elim
  · simp only [stp, aqS] at h
    split at h
    · exact (ad_fin h).elim
    · exact ⟨(aF_fin h).1, by simp, (aF_fin h).2⟩
  · simp only [stp, arS] at h
    split at h
    · exact ⟨by assumption, by simp, (aF_fin h).2⟩
    · cases h

/-- A record is what a few bytes ahead say, and what is behind its byte 10 tells nothing. -/
theorem run_ok : ∀ {l s r f r' rest}, run s r f l = .ok r' rest → ∃ pre, l = pre ++ rest ∧ (l ≠ [] → pre ≠ []) ∧ (rest = [] ∨ ∀ x, run s r f (pre ++ x) = .ok r' x)
  | [], s, r, f, r', rest, h => by
    rw [run] at h
    split at h
    · cases h
    · injection h with h1 h2; subst h2; exact ⟨[], rfl, fun h => h, .inl rfl⟩
    · cases h
  | c :: l, s, r, f, r', rest, h => by
    rcases e : stp s r f (some c) with ⟨s', r2, f'⟩ | r2 | e'
    · rw [run_go e] at h
      obtain ⟨pre, h1, _, h3⟩ := run_ok h
      refine ⟨c :: pre, by rw [h1]; rfl, fun _ => by simp, h3.imp id fun h x => ?_⟩
      rw [List.cons_append, run_go e]; exact h x
    · rw [run_fin e] at h
      injection h with h1 h2; subst h1; subst h2
      exact ⟨[c], rfl, fun _ => by simp, .inr fun x => run_fin e⟩
    · rw [run_bad e] at h; cases h
theorem run_err : ∀ {l s r f e}, run s r f l = .err e → e = 3 ∨ e = 5
  | [], s, r, f, e, h => by
    rw [run] at h
    rcases stp_none s r f with ⟨e', h1, h2⟩ | h1
    · rw [h1] at h; injection h with h; omega
    · rw [h1] at h; cases h
  | c :: l, s, r, f, e, h => by
    rcases e2 : stp s r f (some c) with ⟨s', r2, f'⟩ | r2 | e'
    · rw [run_go e2] at h; exact run_err h
    · rw [run_fin e2] at h; cases h
    · rw [run_bad e2] at h; injection h with h; exact h ▸ stp_bad e2
theorem recs_ok : ∀ {l a s r f p r' rest}, a ≤ p → (a < p ∨ l ≠ []) → run s r f l = .ok r' rest → recs a s r f p l = cons3 (a, r') (rs (p + (l.length - rest.length)) rest)
  | [], a, s, r, f, p, r', rest, hp, ha, h => by
    rcases ha with ha | ha
    · rw [run] at h
      rw [recs, if_neg (by omega)]
      rcases stp_none s r f with ⟨e', h1, _⟩ | h1
      · rw [h1] at h; cases h
      · rw [h1] at h ⊢; injection h with h2 h3; subst h2; subst h3
        simp [cons3, rs, recs]
    · exact absurd rfl ha
  | c :: l, a, s, r, f, p, r', rest, hp, ha, h => by
    rcases e : stp s r f (some c) with ⟨s', r2, f'⟩ | r2 | e'
    · rw [run_go e] at h
      rw [recs_go e, recs_ok (by omega) (.inl (by omega)) h]
      obtain ⟨pre, h1, _⟩ := run_ok h
      have := congrArg List.length h1
      rw [List.length_append] at this
      rw [List.length_cons, show p + 1 + (l.length - rest.length) = p + (l.length + 1 - rest.length) by omega]
    · rw [run_fin e] at h
      injection h with h1 h2; subst h1; subst h2
      rw [recs_fin e, List.length_cons, show p + (l.length + 1 - l.length) = p + 1 by omega]
    · rw [run_bad e] at h; cases h
theorem recs_err : ∀ {l a s r f p e}, a ≤ p → (a < p ∨ l ≠ []) → run s r f l = .err e → recs a s r f p l = ([], a, e)
  | [], a, s, r, f, p, e, hp, ha, h => by
    rcases ha with ha | ha
    · rw [run] at h
      rw [recs, if_neg (by omega)]
      rcases stp_none s r f with ⟨e', h1, _⟩ | h1
      · rw [h1] at h ⊢; injection h with h; subst h; rfl
      · rw [h1] at h; cases h
    · exact absurd rfl ha
  | c :: l, a, s, r, f, p, e, hp, ha, h => by
    rcases e2 : stp s r f (some c) with ⟨s', r2, f'⟩ | r2 | e'
    · rw [run_go e2] at h
      rw [recs_go e2, recs_err (by omega) (.inl (by omega)) h]
    · rw [run_fin e2] at h; cases h
    · rw [run_bad e2] at h; injection h with h; subst h; exact recs_bad e2
theorem rs_nil (a : Nat) : rs a [] = ([], a, 0) := by simp [rs, recs]
theorem rs_ok {a l r rest} (hl : l ≠ []) (h : run .bg [] [] l = .ok r rest) : rs a l = cons3 (a, r) (rs (a + (l.length - rest.length)) rest) := recs_ok (Nat.le_refl _) (.inr hl) h
theorem rs_err {a l e} (hl : l ≠ []) (h : run .bg [] [] l = .err e) : rs a l = ([], a, e) := recs_err (Nat.le_refl _) (.inr hl) h

/-- The right part, read alone, is the same; it is shorter just if something is wrong. -/
theorem rs_take : ∀ (n : Nat) (l : List UInt8) (a : Nat), l.length ≤ n → a ≤ (rs a l).2.1 ∧ (rs a l).2.1 ≤ a + l.length ∧ rs a (l.take ((rs a l).2.1 - a)) = ((rs a l).1, (rs a l).2.1, 0) ∧ ((rs a l).2.2 = 0 ∧ (rs a l).2.1 = a + l.length ∨ ((rs a l).2.2 = 3 ∨ (rs a l).2.2 = 5) ∧ (rs a l).2.1 < a + l.length)
  | n, [], a, _ => by rw [rs_nil]; simp [rs_nil]
  | 0, c :: l, a, h => by simp at h
  | n + 1, c :: l, a, h => by
    rcases e : run .bg [] [] (c :: l) with ⟨r, rest⟩ | e'
    · rw [rs_ok (by simp) e]
      obtain ⟨pre, h1, h2, h3⟩ := run_ok e
      have h4 := congrArg List.length h1
      have h5 : 0 < pre.length := List.length_pos_iff.2 (h2 (by simp))
      rw [List.length_append] at h4
      have h6 : (c :: l).length - rest.length = pre.length := by omega
      rw [h6]
      obtain ⟨i1, i2, i3, i4⟩ := rs_take n rest (a + pre.length) (by rw [List.length_cons] at h h4; omega)
      simp only [cons3]
      refine ⟨by omega, by omega, ?_, ?_⟩
      · have g : (c :: l).take ((rs (a + pre.length) rest).2.1 - a) = pre ++ rest.take ((rs (a + pre.length) rest).2.1 - (a + pre.length)) := by
          rw [h1, List.take_append]
          rw [List.take_of_length_le (by omega), show (rs (a + pre.length) rest).2.1 - a - pre.length = (rs (a + pre.length) rest).2.1 - (a + pre.length) by omega]
        rw [g]
        have hne : pre ++ rest.take ((rs (a + pre.length) rest).2.1 - (a + pre.length)) ≠ [] := by
          intro h; have := (List.append_eq_nil_iff.1 h).1; subst this; simp at h5
        rcases h3 with h3 | h3
        · subst h3
          rw [List.take_nil, List.append_nil]
          have : run .bg [] [] pre = .ok r [] := by rw [List.append_nil] at h1; rw [← h1]; exact e
          rw [rs_ok (by intro h; subst h; simp at h5) this]
          simp [cons3, rs_nil]
        · rw [rs_ok hne (h3 _)]
          rw [List.length_append, Nat.add_sub_cancel, i3]
          rfl
      · rcases i4 with ⟨j1, j2⟩ | ⟨j1, j2⟩
        · exact .inl ⟨j1, by omega⟩
        · exact .inr ⟨j1, by omega⟩
    · rw [rs_err (by simp) e]
      simp [rs_nil]
      exact run_err e
theorem recs_ge : ∀ {l a s r f p x}, x ∈ (recs a s r f p l).1 → x.1 = a ∨ p < x.1
  | [], a, s, r, f, p, x, h => by
    rw [recs] at h
    split at h
    · cases h
    · split at h
      · cases h
      · simp at h; exact .inl (by rw [h])
      · cases h
  | c :: l, a, s, r, f, p, x, h => by
    rcases e : stp s r f (some c) with ⟨s', r2, f'⟩ | r2 | e'
    · rw [recs_go e] at h; rcases recs_ge h with h | h
      · exact .inl h
      · exact .inr (by omega)
    · rw [recs_fin e] at h
      rcases List.mem_cons.1 h with rfl | h
      · exact .inl rfl
      · rcases recs_ge h with h | h <;> exact .inr (by omega)
    · rw [recs_bad e] at h; cases h
theorem rs_ge {l a x} (h : x ∈ (rs a l).1) : a ≤ x.1 := by rcases recs_ge h with h | h <;> omega
theorem recs_lt : ∀ {l a s r f p x}, a ≤ p → x ∈ (recs a s r f p l).1 → x.1 < p + l.length
  | [], a, s, r, f, p, x, ha, h => by
    rw [recs] at h
    split at h
    · cases h
    · split at h
      · cases h
      · simp at h; rw [h]; simp; omega
      · cases h
  | c :: l, a, s, r, f, p, x, ha, h => by
    rw [List.length_cons]
    rcases e : stp s r f (some c) with ⟨s', r2, f'⟩ | r2 | e'
    · rw [recs_go e] at h; have := recs_lt (by omega) h; omega
    · rw [recs_fin e] at h
      rcases List.mem_cons.1 h with rfl | h
      · show a < _; omega
      · have := recs_lt (Nat.le_refl _) h; omega
    · rw [recs_bad e] at h; cases h
theorem rs_lt {l a x} (h : x ∈ (rs a l).1) : x.1 < a + l.length := recs_lt (Nat.le_refl _) h
theorem recs_sorted : ∀ {l a s r f p}, a ≤ p → (recs a s r f p l).1.Pairwise fun x y => x.1 < y.1
  | [], a, s, r, f, p, ha => by
    rw [recs]
    split
    · simp
    · split <;> simp
  | c :: l, a, s, r, f, p, ha => by
    rcases e : stp s r f (some c) with ⟨s', r2, f'⟩ | r2 | e'
    · rw [recs_go e]; exact recs_sorted (by omega)
    · rw [recs_fin e]
      show ((a, r2) :: (rs (p + 1) l).1).Pairwise _
      rw [List.pairwise_cons]
      exact ⟨fun y hy => by have := rs_ge hy; show a < y.1; omega, recs_sorted (Nat.le_refl _)⟩
    · rw [recs_bad e]; simp
theorem rs_sorted (a : Nat) (l : List UInt8) : (rs a l).1.Pairwise fun x y => x.1 < y.1 := recs_sorted (Nat.le_refl _)
theorem recs_len : ∀ {l a s r f p}, a ≤ p → (recs a s r f p l).1.length ≤ l.length + (if a = p then 0 else 1)
  | [], a, s, r, f, p, ha => by
    rw [recs]
    split
    · simp
    · split <;> simp
  | c :: l, a, s, r, f, p, ha => by
    rw [List.length_cons]
    rcases e : stp s r f (some c) with ⟨s', r2, f'⟩ | r2 | e'
    · rw [recs_go e]
      have := @recs_len l a s' r2 f' (p + 1) (by omega)
      rw [if_neg (by omega)] at this
      omega
    · rw [recs_fin e]
      have := @recs_len l (p + 1) .bg [] [] (p + 1) (Nat.le_refl _)
      rw [if_pos rfl] at this
      show ((rs (p + 1) l).1.length + 1) ≤ _
      unfold rs; omega
    · rw [recs_bad e]; simp
theorem rs_len (a : Nat) (l : List UInt8) : (rs a l).1.length ≤ l.length := by
  have := @recs_len l a .bg [] [] a (Nat.le_refl _)
  rw [if_pos rfl] at this
  exact this

/-- Whether the number of quotes is odd. -/
def odd (l : List UInt8) : Bool := l.count 34 % 2 == 1
theorem odd_nil : odd [] = false := rfl
theorem odd_cons (c : UInt8) (l : List UInt8) : odd (c :: l) = if c = 34 then !odd l else odd l := by
  unfold odd
  rw [List.count_cons]
  by_cases h : c = 34
  · subst h
    simp only [beq_self_eq_true, if_true]
    rcases Nat.mod_two_eq_zero_or_one (l.count 34) with h | h
    · rw [h, show (l.count 34 + 1) % 2 = 1 by omega]; rfl
    · rw [h, show (l.count 34 + 1) % 2 = 0 by omega]; rfl
  · have : (c == 34) = false := by simpa using h
    rw [this, if_neg h]; rfl
theorem odd_snoc (l : List UInt8) (c : UInt8) : odd (l ++ [c]) = if c = 34 then !odd l else odd l := by
  rw [← odd_cons]
  unfold odd
  rw [List.count_append, List.count_cons, List.count_cons]
  simp [Nat.add_comm]

/-- What is under way at a place of a right file. -/
theorem recs_at : ∀ (l : List UInt8) (a : Nat) (s : St) (r : List (List UInt8)) (f : List UInt8) (p k : Nat), k ≤ l.length → a ≤ p → (a = p → s = .bg ∧ r = [] ∧ f = []) → (recs a s r f p l).2.2 = 0 → ∀ q : Bool, (s = .qu ↔ q = true) →
    ∃ pre a' s' r' f', (recs a s r f p l).1 = pre ++ (recs a' s' r' f' (p + k) (l.drop k)).1 ∧ (recs a' s' r' f' (p + k) (l.drop k)).2.2 = 0 ∧ (∀ x ∈ pre, x.1 < p + k) ∧ a' ≤ p + k ∧
      (a' = p + k → s' = .bg ∧ r' = [] ∧ f' = []) ∧ (s' = .qu ↔ (q ^^ odd (l.take k)) = true) ∧ (a' = p + k ↔ s' ≠ .qu ∧ (k = 0 ∧ a = p ∨ 0 < k ∧ l[k - 1]? = some 10))
  | l, a, s, r, f, p, 0, _, ha, h0, h, q, hq => by
    refine ⟨[], a, s, r, f, rfl, h, by simp, ha, h0, by rw [List.take_zero, odd_nil]; simp [hq], ?_⟩
    simp only [Nat.add_zero, true_and, Nat.lt_irrefl, false_and, or_false]
    constructor
    · intro e; exact ⟨by rw [(h0 e).1]; simp, e⟩
    · exact fun e => e.2
  | [], a, s, r, f, p, k + 1, hk, ha, h0, h, q, hq => by simp at hk
  | c :: l, a, s, r, f, p, k + 1, hk, ha, h0, h, q, hq => by
    rw [List.length_cons] at hk
    rcases e : stp s r f (some c) with ⟨s', r2, f'⟩ | r2 | e'
    · rw [recs_go e] at h
      obtain ⟨g1, g2, g3⟩ := stp_go e
      obtain ⟨pre, a', s2, r3, f3, i1, i2, i3, i4, i5, i6, i7⟩ := recs_at l a s' r2 f' (p + 1) k (by omega) (by omega) (by omega) h (if c = 34 then !q else q) (by
        by_cases hc : c = 34
        · rw [if_pos hc, g1 hc]; simp [hq]
        · rw [if_neg hc, g2 hc]; exact hq)
      rw [show p + 1 + k = p + (k + 1) by omega] at i1 i2 i3 i4 i5 i7
      refine ⟨pre, a', s2, r3, f3, by rw [recs_go e, List.drop_succ_cons]; exact i1, by rw [List.drop_succ_cons]; exact i2, i3, i4, i5, ?_, ?_⟩
      · rw [i6, List.take_succ_cons, odd_cons]
        by_cases hc : c = 34
        · rw [if_pos hc, if_pos hc]; cases q <;> cases odd (l.take k) <;> simp
        · rw [if_neg hc, if_neg hc]
      · rw [i7]
        constructor
        · rintro ⟨j1, ⟨j2, j3⟩ | ⟨j2, j3⟩⟩
          · omega
          · refine ⟨j1, .inr ⟨by omega, ?_⟩⟩
            rw [show k + 1 - 1 = (k - 1) + 1 by omega, List.getElem?_cons_succ]; exact j3
        · rintro ⟨j1, ⟨j2, j3⟩ | ⟨j2, j3⟩⟩
          · omega
          · cases k with
            | zero =>
              exfalso
              simp at j3
              have := g3 j3
              have h34 : c ≠ 34 := by rw [j3]; decide
              have h5 := (g2 h34).2 this
              -- k = 0: the state is s'
              apply j1
              rw [i6, List.take_zero, odd_nil, if_neg h34]
              simp [hq.1 this]
            | succ k =>
              refine ⟨j1, .inr ⟨by omega, ?_⟩⟩
              rw [show k + 1 + 1 - 1 = k + 1 by omega, List.getElem?_cons_succ] at j3
              rw [Nat.add_sub_cancel]; exact j3
    · rw [recs_fin e] at h
      obtain ⟨rfl, g2, g3⟩ := stp_fin e
      obtain ⟨pre, a', s2, r3, f3, i1, i2, i3, i4, i5, i6, i7⟩ := recs_at l (p + 1) .bg [] [] (p + 1) k (by omega) (Nat.le_refl _) (fun _ => ⟨rfl, rfl, rfl⟩) h false (by simp)
      rw [show p + 1 + k = p + (k + 1) by omega] at i1 i2 i3 i4 i5 i7
      have hq' : q = false := by cases q with | false => rfl | true => exact absurd (hq.2 rfl) g2
      refine ⟨(a, r2) :: pre, a', s2, r3, f3, ?_, by rw [List.drop_succ_cons]; exact i2, ?_, i4, i5, ?_, ?_⟩
      · rw [recs_fin e, List.drop_succ_cons, List.cons_append]
        show (a, r2) :: (rs (p + 1) l).1 = _
        unfold rs; rw [i1]
      · intro x hx
        rcases List.mem_cons.1 hx with rfl | hx
        · show a < _; omega
        · exact i3 x hx
      · rw [i6, List.take_succ_cons, odd_cons, if_neg (by decide), hq']
      · rw [i7]
        constructor
        · rintro ⟨j1, ⟨j2, j3⟩ | ⟨j2, j3⟩⟩
          · subst j2; exact ⟨j1, .inr ⟨by omega, rfl⟩⟩
          · refine ⟨j1, .inr ⟨by omega, ?_⟩⟩
            rw [show k + 1 - 1 = (k - 1) + 1 by omega, List.getElem?_cons_succ]; exact j3
        · rintro ⟨j1, ⟨j2, j3⟩ | ⟨j2, j3⟩⟩
          · omega
          · cases k with
            | zero => exact ⟨j1, .inl ⟨rfl, rfl⟩⟩
            | succ k =>
              refine ⟨j1, .inr ⟨by omega, ?_⟩⟩
              rw [show k + 1 + 1 - 1 = k + 1 by omega, List.getElem?_cons_succ] at j3
              rw [Nat.add_sub_cancel]; exact j3
    · rw [recs_bad e] at h
      rcases stp_bad e with h1 | h1 <;> simp at h <;> omega
end Go.Proofs.YtpjnkbfjnonkhaaDoor.Cv
