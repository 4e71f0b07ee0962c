/-
  Joined: Ce.
-/
import Derived.Test.YtknmhdkomjjneaaGreatDoorJW1
import Derived.Test.YtknmhdkomjjneaaGreatDoorJW6
import Derived.Lib.CountLaws
import Derived.Lib.Replace
/-
  Writing: a field between quotes, a record between commas, a file; what was written is read; which files are as they would be written. Plain mathematics.
-/
namespace Go.Proofs.YtknmhdkomjjneaaGreatDoor.Csv.Cv

def nd (c : UInt8) : Bool := c == 44 || c == 34 || c == 10 || c == 13
def dbl : List UInt8 → List UInt8
  | [] => []
  | c :: t => if c = 34 then 34 :: 34 :: dbl t else c :: dbl t
theorem dbl_quote (t : List UInt8) : dbl (34 :: t) = 34 :: 34 :: dbl t := by rw [dbl, if_pos rfl]
theorem dbl_other {c : UInt8} (t : List UInt8) (h : c ≠ 34) : dbl (c :: t) = c :: dbl t := by rw [dbl, if_neg h]
theorem dbl_app : ∀ s t : List UInt8, dbl (s ++ t) = dbl s ++ dbl t
  | [], t => rfl
  | c :: s, t => by
    by_cases h : c = 34
    · subst h; rw [List.cons_append, dbl_quote, dbl_quote, dbl_app s t]; rfl
    · rw [List.cons_append, dbl_other _ h, dbl_other _ h, dbl_app s t]; rfl
theorem dbl_len : ∀ s : List UInt8, (dbl s).length ≤ 2 * s.length
  | [] => Nat.le_refl _
  | c :: s => by
    have := dbl_len s
    by_cases h : c = 34
    · subst h; rw [dbl_quote]; simp; omega
    · rw [dbl_other _ h]; simp; omega
theorem dbl_none : ∀ {s : List UInt8}, (∀ x ∈ s, x ≠ 34) → dbl s = s
  | [], _ => rfl
  | c :: s, h => by rw [dbl_other _ (h c (List.mem_cons_self ..)), dbl_none fun x hx => h x (List.mem_cons_of_mem _ hx)]
def qt (s : List UInt8) : List UInt8 := if s.any nd then 34 :: (dbl s ++ [34]) else s
theorem qt_yes {s : List UInt8} (h : s.any nd = true) : qt s = 34 :: (dbl s ++ [34]) := if_pos h
theorem qt_no {s : List UInt8} (h : s.any nd = false) : qt s = s := if_neg (by simp [h])
theorem qt_len (s : List UInt8) : (qt s).length ≤ 2 * s.length + 2 := by
  have := dbl_len s
  unfold qt
  split <;> simp <;> omega
def rowC : List (List UInt8) → List UInt8
  | [] => []
  | x :: t => qt x ++ t.flatMap fun y => 44 :: qt y
def row (r : List (List UInt8)) : List UInt8 := rowC r ++ [10]
def wr (l : List (List (List UInt8))) : List UInt8 := l.flatMap row
theorem rowC_one (x : List UInt8) : rowC [x] = qt x := by simp [rowC]
theorem rowC_two (x y : List UInt8) (t : List (List UInt8)) : rowC (x :: y :: t) = qt x ++ 44 :: rowC (y :: t) := by simp [rowC]
theorem rowC_snoc (x : List UInt8) : ∀ r : List (List UInt8), rowC (r ++ [x]) = if r.length = 0 then qt x else (rowC r ++ [44]) ++ qt x
  | [] => by simp [rowC]
  | y :: t => by simp [rowC]
theorem wr_cons (r : List (List UInt8)) (l : List (List (List UInt8))) : wr (r :: l) = row r ++ wr l := rfl
theorem wr_snoc (l : List (List (List UInt8))) (r : List (List UInt8)) : wr (l ++ [r]) = wr l ++ row r := by simp [wr]
theorem rowC_len : ∀ r : List (List UInt8), (rowC r).length + (if r.length = 0 then 0 else 1) ≤ 3 * wR r
  | [] => by simp [rowC, wR]
  | [x] => by rw [rowC_one]; have := qt_len x; simp [wR]; omega
  | x :: y :: t => by
    have h1 := rowC_len (y :: t)
    have h2 := qt_len x
    rw [rowC_two]
    simp [wR] at h1 ⊢; omega
theorem row_len' {r : List (List UInt8)} (h : 1 ≤ r.length) : (row r).length ≤ 3 * wR r := by
  have := rowC_len r
  rw [if_neg (by omega)] at this
  unfold row
  rw [List.length_append]; simp; omega
def okR (r : List (List UInt8)) : Bool := decide (1 ≤ r.length) && decide (r.length ≤ 50) && r.all fun x => decide (x.length ≤ 1000)
theorem okR_few {r : List (List UInt8)} : okR r = true ↔ Few50 r := by
  unfold okR Few50
  simp [and_assoc]
theorem wr_len : ∀ l : List (List (List UInt8)), l.all okR = true → (wr l).length ≤ 3 * wL l
  | [], _ => Nat.le_refl _
  | r :: l, h => by
    rw [List.all_cons, Bool.and_eq_true] at h
    have h1 := row_len' (okR_few.1 h.1).1
    have h2 := wr_len l h.2
    rw [wr_cons, List.length_append]
    simp only [wL]; omega

theorem run_dbl : ∀ (s f : List UInt8) (r : List (List UInt8)) (rest : List UInt8), f.length + s.length ≤ 1000 → run .qu r f (dbl s ++ 34 :: rest) = run .aq r (f ++ s) rest
  | [], f, r, rest, _ => by rw [List.append_nil]; exact qu_aq
  | c :: s, f, r, rest, h => by
    rw [List.length_cons] at h
    have ih := run_dbl s (f ++ [c]) r rest (by simp; omega)
    rw [List.append_assoc, List.singleton_append] at ih
    by_cases h34 : c = 34
    · subst h34
      rw [dbl_quote]
      show run .qu r f (34 :: 34 :: (dbl s ++ 34 :: rest)) = _
      rw [qu_aq, aq_go (by omega)]; exact ih
    · rw [dbl_other _ h34]
      show run .qu r f (c :: (dbl s ++ 34 :: rest)) = _
      rw [qu_go h34 (by omega)]; exact ih
theorem nd_no {c : UInt8} (h : nd c = false) : c ≠ 44 ∧ c ≠ 34 ∧ c ≠ 10 ∧ c ≠ 13 := by
  simpa [nd, and_assoc] using h
theorem run_plain : ∀ (s f : List UInt8) (r : List (List UInt8)) (rest : List UInt8), s.any nd = false → f.length + s.length ≤ 1000 → run .un r f (s ++ rest) = run .un r (f ++ s) rest
  | [], f, r, rest, _, _ => by rw [List.append_nil]; rfl
  | c :: s, f, r, rest, hn, h => by
    rw [List.length_cons] at h
    rw [List.any_cons, Bool.or_eq_false_iff] at hn
    obtain ⟨h1, h2, h3, h4⟩ := nd_no hn.1
    have ih := run_plain s (f ++ [c]) r rest hn.2 (by simp; omega)
    rw [List.append_assoc, List.singleton_append] at ih
    rw [List.cons_append, un_go h1 (En_other h3 h4) h2 h4 (by omega)]; exact ih
theorem run_qt (s : List UInt8) (r : List (List UInt8)) (rest : List UInt8) (h : s.length ≤ 1000) (hr : ∀ t, rest ≠ 34 :: t) : ∃ st, (st = .un ∨ st = .aq) ∧ run .bg r [] (qt s ++ rest) = run st r s rest := by
  by_cases hn : s.any nd = true
  · refine ⟨.aq, .inr rfl, ?_⟩
    rw [qt_yes hn, List.cons_append, run_bg_qu, List.append_assoc, List.singleton_append, run_dbl s [] r rest (by simpa using h)]
    rfl
  · have hn : s.any nd = false := by simpa using hn
    refine ⟨.un, .inl rfl, ?_⟩
    rw [qt_no hn, run_bg_un]
    · exact run_plain s [] r rest hn (by simpa using h)
    · intro t ht
      cases s with
      | nil => exact hr t ht
      | cons c s =>
        rw [List.any_cons, Bool.or_eq_false_iff] at hn
        rw [List.cons_append] at ht
        injection ht with h1 _
        exact (nd_no hn.1).2.1 h1
theorem run_rowC : ∀ (t : List (List UInt8)) (x : List UInt8) (r : List (List UInt8)) (e : List UInt8), r.length + t.length < 50 → (∀ y ∈ x :: t, y.length ≤ 1000) → (e = [] ∨ En e ≠ 0) → (∀ u, e ≠ 34 :: u) → run .bg r [] (rowC (x :: t) ++ e) = .ok (r ++ x :: t) (e.drop (En e))
  | [], x, r, e, h, hs, he, hq => by
    rw [rowC_one]
    obtain ⟨st, h1, h2⟩ := run_qt x r e (hs x (List.mem_cons_self ..)) hq
    rw [h2, run_end h1 he]
  | y :: t, x, r, e, h, hs, he, hq => by
    rw [rowC_two, List.append_assoc, List.cons_append]
    obtain ⟨st, h1, h2⟩ := run_qt x r (44 :: (rowC (y :: t) ++ e)) (hs x (List.mem_cons_self ..)) (fun u => by simp)
    rw [List.length_cons] at h
    rw [h2, run_comma h1, if_neg (by omega), run_rowC t y (r ++ [x]) e (by simp; omega) (fun z hz => hs z (List.mem_cons_of_mem _ hz)) he hq]
    simp
theorem run_row {r : List (List UInt8)} (h : Few50 r) (rest : List UInt8) : run .bg [] [] (row r ++ rest) = .ok r rest := by
  match r, h with
  | [], h => exact absurd h.1 (by simp)
  | x :: t, h =>
    have h1 := run_rowC t x [] (10 :: rest) (by have := h.2.1; simp at this ⊢; omega) h.2.2 (.inr (by simp [En])) (fun u => by simp)
    rw [En_ten] at h1
    unfold row
    rw [List.append_assoc]
    exact h1
theorem row_ne (r : List (List UInt8)) : row r ≠ [] := by simp [row]
theorem rs_wr : ∀ (l : List (List (List UInt8))) (a : Nat), l.all okR = true → (rs a (wr l)).1.map (·.2) = l ∧ (rs a (wr l)).2 = (a + (wr l).length, 0)
  | [], a, _ => by simp [wr, rs_nil]
  | r :: l, a, h => by
    rw [List.all_cons, Bool.and_eq_true] at h
    have h1 := run_row (okR_few.1 h.1) (wr l)
    rw [wr_cons, rs_ok (by simp [row_ne]) h1]
    obtain ⟨i1, i2⟩ := rs_wr l (a + ((row r ++ wr l).length - (wr l).length)) h.2
    refine ⟨?_, ?_⟩
    · simp only [cons3, List.map_cons]; rw [i1]
    · simp only [cons3]
      rw [i2, List.length_append]
      congr 1; omega
theorem ls_wr {l : List (List (List UInt8))} (h : l.all okR = true) : (ls (wr l)).map (·.2) = l ∧ good (wr l) = (wr l).length ∧ er (wr l) = 0 := by
  obtain ⟨h1, h2⟩ := rs_wr l 0 h
  refine ⟨h1, ?_, ?_⟩
  · unfold good; rw [h2, Nat.zero_add]
  · unfold er; rw [h2]
def wrS (l : List (List (List UInt8))) : List UInt8 × Nat := if l.all okR then (wr l, 0) else ([], 10)
theorem wrS_ok {l : List (List (List UInt8))} (h : l.all okR = true) : wrS l = (wr l, 0) := if_pos h
theorem wrS_err {l : List (List (List UInt8))} (h : l.all okR = false) : wrS l = ([], 10) := if_neg (by simp [h])
theorem oks_next (l : List (List (List UInt8))) (k : Nat) (r : List (List UInt8)) (h : l[k]? = some r) (hr : okR r = true) (ha : (l.take k).all okR = true) : (l.take (k + 1)).all okR = true := by
  rw [List.take_add_one, h, List.all_append, ha]
  simp [hr]
theorem oks_not (l : List (List (List UInt8))) (k : Nat) (r : List (List UInt8)) (h : l[k]? = some r) (hr : okR r = false) : l.all okR = false := by
  rw [List.all_eq_false]
  exact ⟨r, List.mem_of_getElem? h, by simp [hr]⟩
theorem wr_next (l : List (List (List UInt8))) (k : Nat) (r : List (List UInt8)) (h : l[k]? = some r) : wr (l.take (k + 1)) = wr (l.take k) ++ row r := by
  rw [List.take_add_one, h]
  exact wr_snoc _ _

theorem replaceK_dbl : ∀ (n : Nat) (s : List UInt8), s.length ≤ n → Lib.replaceK [34] [34, 34] (Lib.count s [34]) s = dbl s
  | n, s, hn => by
    have key : ∀ l : List UInt8, (Lib.indexByte l 34 = -1 ∧ ∀ x ∈ l, x ≠ 34) ∨ ∃ k v, l = k ++ 34 :: v ∧ Lib.indexByte l 34 = (k.length : Int) ∧ ∀ x ∈ k, x ≠ 34 := by
      intro l
      induction l with
      | nil => exact .inl ⟨rfl, fun x h => by cases h⟩
      | cons x l ih =>
        by_cases hx : x = 34
        · subst hx
          exact .inr ⟨[], l, rfl, by simp [Lib.indexByte], fun x h => by cases h⟩
        · have hb : (x == 34) = false := by simpa using hx
          rcases ih with ⟨h1, h2⟩ | ⟨k, v, rfl, h1, h2⟩
          · refine .inl ⟨by simp [Lib.indexByte, hb, h1], fun y hy => ?_⟩
            rcases List.mem_cons.1 hy with rfl | hy
            · exact hx
            · exact h2 y hy
          · refine .inr ⟨x :: k, v, rfl, ?_, fun y hy => ?_⟩
            · have hne : ((k.length : Int) == -1) = false := by simp
              simp only [Lib.indexByte, hb, h1, hne, List.length_cons, Bool.false_eq_true, if_false]
              omega
            · rcases List.mem_cons.1 hy with rfl | hy
              · exact hx
              · exact h2 y hy
    rcases key s with ⟨h1, h2⟩ | ⟨k, v, rfl, h1, h2⟩
    · have h3 : Lib.index s [34] = -1 := by rw [Lib.index_one, h1]
      rw [Lib.count_miss h3, dbl_none h2]
      rfl
    · have h3 : Lib.index (k ++ 34 :: v) [34] = (k.length : Int) := by rw [Lib.index_one, h1]
      have hv : (k ++ 34 :: v).drop (k.length + 1) = v := by
        rw [List.drop_append]
        simp
      rw [Lib.count_hit (by simp) h3, Nat.add_comm, Lib.replaceK_hit _ _ _ _ _ h3]
      have hl : [(34 : UInt8)].length = 1 := rfl
      rw [hl, hv]
      rw [List.length_append, List.length_cons] at hn
      cases n with
      | zero => omega
      | succ n =>
        rw [replaceK_dbl n v (by omega), dbl_app, dbl_quote, dbl_none h2]
        simp
theorem replaceAll_dbl (s : List UInt8) : Lib.replaceAll s [34] [34, 34] = dbl s := by
  unfold Lib.replaceAll Lib.replace Lib.replaceNum
  rw [if_neg (by decide), if_pos (.inl (by omega))]
  exact replaceK_dbl s.length s (Nat.le_refl _)
end Go.Proofs.YtknmhdkomjjneaaGreatDoor.Csv.Cv
