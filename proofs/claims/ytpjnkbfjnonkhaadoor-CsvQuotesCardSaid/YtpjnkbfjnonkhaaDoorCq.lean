/-
  A record field by field: what the document's plain, quoted and record come to, in the words of Cv. Plain mathematics.
-/
import Derived.Test.YtpjnkbfjnonkhaaDoorCn
namespace Go.Proofs.YtpjnkbfjnonkhaaDoor.Cv

/-- How many bytes the end of a line has with which a row begins; 0: none stands there. -/
def En : List UInt8 → Nat
  | [] => 0
  | c :: t => if c = 10 then 1 else if c = 13 ∧ t.head? = some 10 then 2 else 0
theorem En_ten (t : List UInt8) : En (10 :: t) = 1 := rfl
theorem En_two (t : List UInt8) : En (13 :: 10 :: t) = 2 := rfl
theorem En_other {c : UInt8} {t : List UInt8} (h : c ≠ 10) (h2 : c ≠ 13) : En (c :: t) = 0 := by simp [En, h, h2]
theorem En_lone {t : List UInt8} (h : t.head? ≠ some 10) : En (13 :: t) = 0 := by simp [En, h]
theorem En_cases (m : List UInt8) : (En m = 0 ∧ ∀ t, m ≠ 10 :: t ∧ m ≠ 13 :: 10 :: t) ∨ (En m = 1 ∧ ∃ t, m = 10 :: t) ∨ (En m = 2 ∧ ∃ t, m = 13 :: 10 :: t) := by
  match m with
  | [] => exact .inl ⟨rfl, fun t => ⟨by simp, by simp⟩⟩
  | c :: t =>
    by_cases h : c = 10
    · subst h; exact .inr (.inl ⟨rfl, t, rfl⟩)
    · by_cases h2 : c = 13
      · subst h2
        match t with
        | [] => exact .inl ⟨rfl, fun t => ⟨by simp, by simp⟩⟩
        | d :: t =>
          by_cases h3 : d = 10
          · subst h3; exact .inr (.inr ⟨rfl, t, rfl⟩)
          · exact .inl ⟨En_lone (by simpa using h3), fun t => ⟨by simp, by simp [h3]⟩⟩
      · exact .inl ⟨En_other h h2, fun t => ⟨by simp [h], by simp [h2]⟩⟩
theorem drop_head {l t : List UInt8} {p : Nat} {x : UInt8} (h : l.drop p = x :: t) : l[p]? = some x ∧ l.drop (p + 1) = t ∧ p < l.length := by
  have h1 : (l.drop p)[0]? = some x := by rw [h]; rfl
  rw [List.getElem?_drop, Nat.add_zero] at h1
  refine ⟨h1, by rw [← List.drop_drop, h]; rfl, ?_⟩
  rcases Nat.lt_or_ge p l.length with h2 | h2
  · exact h2
  · rw [List.getElem?_eq_none h2] at h1; cases h1
theorem En_two_le (m : List UInt8) : En m ≤ 2 := by
  rcases En_cases m with ⟨h, _⟩ | ⟨h, _⟩ | ⟨h, _⟩ <;> omega
theorem En_le (m : List UInt8) : En m ≤ m.length := by
  rcases En_cases m with ⟨h, _⟩ | ⟨h, t, rfl⟩ | ⟨h, t, rfl⟩ <;> rw [h] <;> simp
/-- A field is at its end. -/
def Stop (m : List UInt8) : Prop := m = [] ∨ (∃ t, m = 44 :: t) ∨ En m ≠ 0

theorem aF_lone {r f c t} (st : St) (h34 : c ≠ 34) (h : st = .un ∨ st = .aq) (hc : c = 13) (ht : En (c :: t) = 0) : run st r f (c :: t) = .err 3 := by
  subst hc
  have e : stp st r f (some 13) = .go .ar r f := by rcases h with rfl | rfl <;> simp [stp, unS, aqS, aF]
  rw [run_go e]
  match t with
  | [] => rw [run_none]; rfl
  | d :: t =>
    have hd : d ≠ 10 := fun h => by subst h; simp [En] at ht
    exact run_bad (by simp [stp, arS, hd])
/-- A record ends behind a field. -/
theorem run_end {st : St} {r f m} (h : st = .un ∨ st = .aq) (hm : m = [] ∨ En m ≠ 0) : run st r f m = .ok (r ++ [f]) (m.drop (En m)) := by
  rcases hm with rfl | hm
  · rw [run_none]
    rcases h with rfl | rfl <;> rfl
  · rcases En_cases m with ⟨h1, _⟩ | ⟨h1, t, rfl⟩ | ⟨h1, t, rfl⟩
    · exact absurd h1 hm
    · rw [h1]
      have e : stp st r f (some 10) = .fin (r ++ [f]) := by rcases h with rfl | rfl <;> simp [stp, unS, aqS, aF]
      rw [run_fin e]; rfl
    · rw [h1]
      have e : stp st r f (some 13) = .go .ar r f := by rcases h with rfl | rfl <;> simp [stp, unS, aqS, aF]
      rw [run_go e, run_fin (show stp .ar r f (some 10) = .fin (r ++ [f]) by simp [stp, arS, aF])]; rfl
/-- A comma behind a field. -/
theorem run_comma {st : St} {r f t} (h : st = .un ∨ st = .aq) : run st r f (44 :: t) = if r.length + 1 = 50 then .err 5 else run .bg (r ++ [f]) [] t := by
  by_cases h50 : r.length + 1 = 50
  · rw [if_pos h50]
    exact run_bad (by rcases h with rfl | rfl <;> simp [stp, unS, aqS, aF, h50])
  · rw [if_neg h50]
    exact run_go (by rcases h with rfl | rfl <;> simp [stp, unS, aqS, aF, h50])
/-- A field begins, with a quote or without. -/
theorem run_bg_un {r m} (h : ∀ t, m ≠ 34 :: t) : run .bg r [] m = run .un r [] m := by
  match m with
  | [] => rw [run_none, run_none]; rfl
  | c :: t =>
    have hc : c ≠ 34 := fun e => h t (by rw [e])
    have e : stp .bg r [] (some c) = stp .un r [] (some c) := by simp [stp, bgS, hc]
    rw [run, run, e]
theorem run_bg_qu {r t} : run .bg r [] (34 :: t) = run .qu r [] t := run_go (by simp [stp, bgS])
/-- A plain field's byte. -/
theorem un_bad {r f c t} (h44 : c ≠ 44) (hE : En (c :: t) = 0) (h : c = 34 ∨ c = 13) : run .un r f (c :: t) = .err 3 := by
  rcases h with rfl | rfl
  · exact run_bad (by simp [stp, unS, aF])
  · exact aF_lone .un (by decide) (.inl rfl) rfl hE
theorem ne_ten {c : UInt8} {t : List UInt8} (hE : En (c :: t) = 0) : c ≠ 10 := fun e => by subst e; simp [En] at hE
theorem un_large {r f c t} (h44 : c ≠ 44) (hE : En (c :: t) = 0) (h34 : c ≠ 34) (h13 : c ≠ 13) (hf : f.length = 1000) : run .un r f (c :: t) = .err 5 :=
  run_bad (by simp [stp, unS, ad, h44, h34, h13, ne_ten hE, hf])
theorem un_go {r f c t} (h44 : c ≠ 44) (hE : En (c :: t) = 0) (h34 : c ≠ 34) (h13 : c ≠ 13) (hf : f.length ≠ 1000) : run .un r f (c :: t) = run .un r (f ++ [c]) t :=
  run_go (by simp [stp, unS, ad, h44, h34, h13, ne_ten hE, hf])
/-- A quoted field's byte. -/
theorem qu_end {r f} : run .qu r f [] = .err 3 := by rw [run_none]; rfl
theorem qu_large {r f c t} (h34 : c ≠ 34) (hf : f.length = 1000) : run .qu r f (c :: t) = .err 5 := run_bad (by simp [stp, quS, ad, h34, hf])
theorem qu_go {r f c t} (h34 : c ≠ 34) (hf : f.length ≠ 1000) : run .qu r f (c :: t) = run .qu r (f ++ [c]) t := run_go (by simp [stp, quS, ad, h34, hf])
theorem qu_aq {r f t} : run .qu r f (34 :: t) = run .aq r f t := run_go (by simp [stp, quS])
theorem aq_large {r f t} (hf : f.length = 1000) : run .aq r f (34 :: t) = .err 5 := run_bad (by simp [stp, aqS, ad, hf])
theorem aq_go {r f t} (hf : f.length ≠ 1000) : run .aq r f (34 :: t) = run .qu r (f ++ [34]) t := run_go (by simp [stp, aqS, ad, hf])
theorem aq_bad {r f c t} (h34 : c ≠ 34) (h44 : c ≠ 44) (hE : En (c :: t) = 0) : run .aq r f (c :: t) = .err 3 := by
  by_cases h13 : c = 13
  · exact aF_lone .aq h34 (.inr rfl) h13 hE
  · exact run_bad (by simp [stp, aqS, aF, h34, h44, h13, ne_ten hE])

/-- What a field comes to: an error of the record, or a text and the place behind it. -/
def FErr (l : List UInt8) (st : St) (a k : Nat) : Prop := (k = 3 ∨ k = 5) ∧ ∀ r, run st r [] (l.drop a) = .err k
def FOk (l : List UInt8) (st st' : St) (a : Nat) (s : List UInt8) (n : Nat) : Prop := s.length ≤ 1000 ∧ a ≤ n ∧ n ≤ l.length ∧ Stop (l.drop n) ∧ ∀ r, run st r [] (l.drop a) = run st' r s (l.drop n)
end Go.Proofs.YtpjnkbfjnonkhaaDoor.Cv
