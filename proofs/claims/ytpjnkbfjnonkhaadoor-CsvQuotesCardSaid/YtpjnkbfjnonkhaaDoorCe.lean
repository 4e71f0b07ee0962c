/-
  Writing: a field between quotes, a record between commas, a file; what was written is read; which files are as they would be written. Plain mathematics.
-/
import Derived.Test.YtpjnkbfjnonkhaaDoorCq
import Derived.Test.YtpjnkbfjnonkhaaDoorFw
import Derived.Lib.CountLaws
import Derived.Lib.Replace
namespace Go.Proofs.YtpjnkbfjnonkhaaDoor.Cv

/-- A byte for whose sake a field stands between quotes. -/
def nd (c : UInt8) : Bool := c == 44 || c == 34 || c == 10 || c == 13
def dbl : List UInt8 → List UInt8
  | [] => []
  | c :: t => if c = 34 then 34 :: 34 :: dbl t else c :: dbl t
theorem dbl_quote (t : List UInt8) : dbl (34 :: t) = 34 :: 34 :: dbl t := by rw [dbl, if_pos rfl]
theorem dbl_other {c : UInt8} (t : List UInt8) (h : c ≠ 34) : dbl (c :: t) = c :: dbl t := by rw [dbl, if_neg h]
theorem dbl_app : ∀ s t : List UInt8, dbl (s ++ t) = dbl s ++ dbl t
  | [], t => rfl
  | c :: s, t => by
    by_cases h : c = 34
    · subst h; rw [List.cons_append, dbl_quote, dbl_quote, dbl_app s t]; rfl
    · rw [List.cons_append, dbl_other _ h, dbl_other _ h, dbl_app s t]; rfl
theorem dbl_len : ∀ s : List UInt8, (dbl s).length ≤ 2 * s.length
  | [] => Nat.le_refl _
  | c :: s => by
    have := dbl_len s
    by_cases h : c = 34
    · subst h; rw [dbl_quote]; simp; omega
    · rw [dbl_other _ h]; simp; omega
theorem dbl_none : ∀ {s : List UInt8}, (∀ x ∈ s, x ≠ 34) → dbl s = s
  | [], _ => rfl
  | c :: s, h => by rw [dbl_other _ (h c (List.mem_cons_self ..)), dbl_none fun x hx => h x (List.mem_cons_of_mem _ hx)]
/-- A field as it is written. -/
def qt (s : List UInt8) : List UInt8 := if s.any nd then 34 :: (dbl s ++ [34]) else s
theorem qt_yes {s : List UInt8} (h : s.any nd = true) : qt s = 34 :: (dbl s ++ [34]) := if_pos h
theorem qt_no {s : List UInt8} (h : s.any nd = false) : qt s = s := if_neg (by simp [h])
theorem qt_len (s : List UInt8) : (qt s).length ≤ 2 * s.length + 2 := by
  have := dbl_len s
  unfold qt
  split <;> simp <;> omega
/-- A record's fields, between commas. -/
def rowC : List (List UInt8) → List UInt8
  | [] => []
  | x :: t => qt x ++ t.flatMap fun y => 44 :: qt y
def row (r : List (List UInt8)) : List UInt8 := rowC r ++ [10]
def wr (l : List (List (List UInt8))) : List UInt8 := l.flatMap row
theorem rowC_one (x : List UInt8) : rowC [x] = qt x := by simp [rowC]
theorem rowC_two (x y : List UInt8) (t : List (List UInt8)) : rowC (x :: y :: t) = qt x ++ 44 :: rowC (y :: t) := by simp [rowC]
theorem rowC_snoc (x : List UInt8) : ∀ r : List (List UInt8), rowC (r ++ [x]) = if r.length = 0 then qt x else (rowC r ++ [44]) ++ qt x
  | [] => by simp [rowC]
  | y :: t => by simp [rowC]
theorem wr_cons (r : List (List UInt8)) (l : List (List (List UInt8))) : wr (r :: l) = row r ++ wr l := rfl
theorem wr_snoc (l : List (List (List UInt8))) (r : List (List UInt8)) : wr (l ++ [r]) = wr l ++ row r := by simp [wr]
theorem rowC_len : ∀ r : List (List UInt8), (rowC r).length + (if r.length = 0 then 0 else 1) ≤ 3 * wR r
  | [] => by simp [rowC, wR]
  | [x] => by rw [rowC_one]; have := qt_len x; simp [wR]; omega
  | x :: y :: t => by
    have h1 := rowC_len (y :: t)
    have h2 := qt_len x
    rw [rowC_two]
    simp [wR] at h1 ⊢; omega
theorem row_len (r : List (List UInt8)) : (row r).length ≤ 3 * wR r + 1 := by
  have := rowC_len r
  unfold row
  rw [List.length_append]; simp; omega
theorem row_len' {r : List (List UInt8)} (h : 1 ≤ r.length) : (row r).length ≤ 3 * wR r := by
  have := rowC_len r
  rw [if_neg (by omega)] at this
  unfold row
  rw [List.length_append]; simp; omega
/-- A record that may be written. -/
def okR (r : List (List UInt8)) : Bool := decide (1 ≤ r.length) && decide (r.length ≤ 50) && r.all fun x => decide (x.length ≤ 1000)
theorem okR_few {r : List (List UInt8)} : okR r = true ↔ Few50 r := by
  unfold okR Few50
  simp [and_assoc]
theorem wr_len : ∀ l : List (List (List UInt8)), l.all okR = true → (wr l).length ≤ 3 * wL l
  | [], _ => Nat.le_refl _
  | r :: l, h => by
    rw [List.all_cons, Bool.and_eq_true] at h
    have h1 := row_len' (okR_few.1 h.1).1
    have h2 := wr_len l h.2
    rw [wr_cons, List.length_append]
    simp only [wL]; omega

/-- What was written is read: a field. -/
theorem run_dbl : ∀ (s f : List UInt8) (r : List (List UInt8)) (rest : List UInt8), f.length + s.length ≤ 1000 → run .qu r f (dbl s ++ 34 :: rest) = run .aq r (f ++ s) rest
  | [], f, r, rest, _ => by rw [List.append_nil]; exact qu_aq
  | c :: s, f, r, rest, h => by
    rw [List.length_cons] at h
    have ih := run_dbl s (f ++ [c]) r rest (by simp; omega)
    rw [List.append_assoc, List.singleton_append] at ih
    by_cases h34 : c = 34
    · subst h34
      rw [dbl_quote]
      show run .qu r f (34 :: 34 :: (dbl s ++ 34 :: rest)) = _
      rw [qu_aq, aq_go (by omega)]; exact ih
    · rw [dbl_other _ h34]
      show run .qu r f (c :: (dbl s ++ 34 :: rest)) = _
      rw [qu_go h34 (by omega)]; exact ih
theorem nd_no {c : UInt8} (h : nd c = false) : c ≠ 44 ∧ c ≠ 34 ∧ c ≠ 10 ∧ c ≠ 13 := by
  simpa [nd, and_assoc] using h
theorem run_plain : ∀ (s f : List UInt8) (r : List (List UInt8)) (rest : List UInt8), s.any nd = false → f.length + s.length ≤ 1000 → run .un r f (s ++ rest) = run .un r (f ++ s) rest
  | [], f, r, rest, _, _ => by rw [List.append_nil]; rfl
  | c :: s, f, r, rest, hn, h => by
    rw [List.length_cons] at h
    rw [List.any_cons, Bool.or_eq_false_iff] at hn
    obtain ⟨h1, h2, h3, h4⟩ := nd_no hn.1
    have ih := run_plain s (f ++ [c]) r rest hn.2 (by simp; omega)
    rw [List.append_assoc, List.singleton_append] at ih
    rw [List.cons_append, un_go h1 (En_other h3 h4) h2 h4 (by omega)]; exact ih
theorem run_qt (s : List UInt8) (r : List (List UInt8)) (rest : List UInt8) (h : s.length ≤ 1000) (hr : ∀ t, rest ≠ 34 :: t) : ∃ st, (st = .un ∨ st = .aq) ∧ run .bg r [] (qt s ++ rest) = run st r s rest := by
  by_cases hn : s.any nd = true
  · refine ⟨.aq, .inr rfl, ?_⟩
    rw [qt_yes hn, List.cons_append, run_bg_qu, List.append_assoc, List.singleton_append, run_dbl s [] r rest (by simpa using h)]
    rfl
  · have hn : s.any nd = false := by simpa using hn
    refine ⟨.un, .inl rfl, ?_⟩
    rw [qt_no hn, run_bg_un]
    · exact run_plain s [] r rest hn (by simpa using h)
    · intro t ht
      cases s with
      | nil => exact hr t ht
      | cons c s =>
        rw [List.any_cons, Bool.or_eq_false_iff] at hn
        rw [List.cons_append] at ht
        injection ht with h1 _
        exact (nd_no hn.1).2.1 h1
/-- A record. -/
theorem run_rowC : ∀ (t : List (List UInt8)) (x : List UInt8) (r : List (List UInt8)) (e : List UInt8), r.length + t.length < 50 → (∀ y ∈ x :: t, y.length ≤ 1000) → (e = [] ∨ En e ≠ 0) → (∀ u, e ≠ 34 :: u) → run .bg r [] (rowC (x :: t) ++ e) = .ok (r ++ x :: t) (e.drop (En e))
  | [], x, r, e, h, hs, he, hq => by
    rw [rowC_one]
    obtain ⟨st, h1, h2⟩ := run_qt x r e (hs x (List.mem_cons_self ..)) hq
    rw [h2, run_end h1 he]
  | y :: t, x, r, e, h, hs, he, hq => by
    rw [rowC_two, List.append_assoc, List.cons_append]
    obtain ⟨st, h1, h2⟩ := run_qt x r (44 :: (rowC (y :: t) ++ e)) (hs x (List.mem_cons_self ..)) (fun u => by simp)
    rw [List.length_cons] at h
    rw [h2, run_comma h1, if_neg (by omega), run_rowC t y (r ++ [x]) e (by simp; omega) (fun z hz => hs z (List.mem_cons_of_mem _ hz)) he hq]
    simp
theorem run_row {r : List (List UInt8)} (h : Few50 r) (rest : List UInt8) : run .bg [] [] (row r ++ rest) = .ok r rest := by
  match r, h with
  | [], h => exact absurd h.1 (by simp)
  | x :: t, h =>
    have h1 := run_rowC t x [] (10 :: rest) (by have := h.2.1; simp at this ⊢; omega) h.2.2 (.inr (by simp [En])) (fun u => by simp)
    rw [En_ten] at h1
    unfold row
    rw [List.append_assoc]
    exact h1
theorem row_ne (r : List (List UInt8)) : row r ≠ [] := by simp [row]
/-- A file. -/
theorem rs_wr : ∀ (l : List (List (List UInt8))) (a : Nat), l.all okR = true → (rs a (wr l)).1.map (·.2) = l ∧ (rs a (wr l)).2 = (a + (wr l).length, 0)
  | [], a, _ => by simp [wr, rs_nil]
  | r :: l, a, h => by
    rw [List.all_cons, Bool.and_eq_true] at h
    have h1 := run_row (okR_few.1 h.1) (wr l)
    rw [wr_cons, rs_ok (by simp [row_ne]) h1]
    obtain ⟨i1, i2⟩ := rs_wr l (a + ((row r ++ wr l).length - (wr l).length)) h.2
    refine ⟨?_, ?_⟩
    · simp only [cons3, List.map_cons]; rw [i1]
    · simp only [cons3]
      rw [i2, List.length_append]
      congr 1; omega
theorem ls_wr {l : List (List (List UInt8))} (h : l.all okR = true) : (ls (wr l)).map (·.2) = l ∧ good (wr l) = (wr l).length ∧ er (wr l) = 0 := by
  obtain ⟨h1, h2⟩ := rs_wr l 0 h
  refine ⟨h1, ?_, ?_⟩
  · unfold good; rw [h2, Nat.zero_add]
  · unfold er; rw [h2]
/-- Two fields, whatever stands at the end of their line. -/
theorem ls_pair (s t e : List UInt8) (hs : s.length ≤ 1000) (ht : t.length ≤ 1000) (he : e = [] ∨ e = [10] ∨ e = [13, 10]) : ls (qt s ++ 44 :: qt t ++ e) = [(0, [s, t])] ∧ good (qt s ++ 44 :: qt t ++ e) = (qt s ++ 44 :: qt t ++ e).length ∧ er (qt s ++ 44 :: qt t ++ e) = 0 := by
  have h1 := run_rowC [t] s [] e (by simp) (by simp [hs, ht]) (by rcases he with rfl | rfl | rfl <;> simp [En]) (by rcases he with rfl | rfl | rfl <;> simp)
  rw [rowC_two, rowC_one] at h1
  have h2 : e.drop (En e) = [] := by rcases he with rfl | rfl | rfl <;> simp [En]
  rw [h2] at h1
  have h3 := rs_ok (a := 0) (by simp) h1
  rw [rs_nil] at h3
  unfold ls good er
  rw [h3]
  simp [cons3]

/-- A file is as its records would be written. -/
def canonA (l : List UInt8) (a : Nat) : Bool := decide ((rs a (l.drop a)).2.2 = 0) && (wr ((rs a (l.drop a)).1.map (·.2)) == l.drop a)
def canon (b : List UInt8) : Bool := canonA b 0
theorem canon_def (b : List UInt8) : canon b = (decide (er b = 0) && (wr ((ls b).map (·.2)) == b)) := by
  unfold canon canonA er ls
  rw [List.drop_zero]
theorem canonA_end (l : List UInt8) : canonA l l.length = true := by
  unfold canonA
  rw [List.drop_length, rs_nil]
  rfl
theorem canonA_err {l : List UInt8} {a k : Nat} (h : rs a (l.drop a) = ([], a, k)) (hk : k ≠ 0) : canonA l a = false := by
  unfold canonA
  rw [h]; simp [hk]
theorem canonA_step {l : List UInt8} {a m : Nat} {r : List (List UInt8)} (h : run .bg [] [] (l.drop a) = .ok r (l.drop m)) (hm : a < m) (hml : m ≤ l.length) (hrs : rs a (l.drop a) = cons3 (a, r) (rs m (l.drop m))) : canonA l a = ((row r == (l.take m).drop a) && canonA l m) := by
  have hfew := run_few0 h
  have hsplit : l.drop a = (l.take m).drop a ++ l.drop m := by
    have h1 : l = l.take m ++ l.drop m := (List.take_append_drop m l).symm
    have h2 : (l.take m ++ l.drop m).drop a = (l.take m).drop a ++ l.drop m := List.drop_append_of_le_length (by rw [List.length_take]; omega)
    rw [← h1] at h2; exact h2
  unfold canonA
  rw [hrs]
  simp only [cons3, List.map_cons, wr_cons]
  by_cases hd : (rs m (l.drop m)).2.2 = 0
  case neg => simp [hd]
  case pos =>
    simp only [hd, decide_true, Bool.true_and]
    rw [Bool.eq_iff_iff, Bool.and_eq_true]
    simp only [beq_iff_eq]
    constructor
    · intro h2
      have h3 := run_row hfew (wr (List.map (·.2) (rs m (l.drop m)).1))
      rw [h2, h] at h3
      injection h3 with _ h4
      refine ⟨?_, h4.symm⟩
      rw [hsplit, ← h4] at h2
      exact List.append_cancel_right h2
    · rintro ⟨h2, h3⟩
      rw [h2, h3, ← hsplit]
theorem canon_wr {l : List (List (List UInt8))} (h : l.all okR = true) : canon (wr l) = true := by
  obtain ⟨h1, _, h3⟩ := ls_wr h
  rw [canon_def, h1, h3]; simp

/-- What records weigh that were read. -/
theorem wR_one (f : List UInt8) : wR [f] = f.length + 1 := by simp [wR]; omega
theorem stp_wt {s r f c s' r' f'} (h : stp s r f (some c) = .go s' r' f') : wR r' + f'.length ≤ wR r + f.length + 1 := by
  have ka : ∀ {c s' r' f'}, aF r f (some c) = .go s' r' f' → wR r' + f'.length ≤ wR r + f.length + 1 := fun h => by
    rcases aF_go h with ⟨_, _, rfl, _, rfl⟩ | ⟨_, _, rfl, rfl⟩
    · rw [wR_app, wR_one]; simp; omega
    · omega
  have kd : ∀ {s c s' r' f'}, ad s r f c = .go s' r' f' → wR r' + f'.length ≤ wR r + f.length + 1 := fun h => by
    obtain ⟨_, rfl, _, rfl⟩ := ad_go h
    simp; omega
  have kg : ∀ {t s' r' f'}, Out.go t r f = .go s' r' f' → wR r' + f'.length ≤ wR r + f.length + 1 := fun h => by
    injection h with _ h4 h5; subst h4; subst h5; omega
  cases s <;> simp only [stp, bgS, unS, quS, aqS, arS] at h <;> (repeat' split at h) <;> first | exact ka h | exact kd h | exact kg h | cases h
theorem run_wt : ∀ {l s r f r' rest}, run s r f l = .ok r' rest → wR r' + rest.length ≤ wR r + f.length + l.length + 1
  | [], s, r, f, r', rest, h => by
    rw [run_none] at h
    rcases stp_none s r f with ⟨e', h4, _⟩ | h4
    · rw [h4] at h; cases h
    · rw [h4] at h; injection h with h5 h6; subst h5; subst h6; rw [wR_app, wR_one]; simp; omega
  | c :: l, s, r, f, r', rest, h => by
    rcases e : stp s r f (some c) with ⟨s', r2, f'⟩ | r2 | e'
    · rw [run_go e] at h
      have h1 := stp_wt e
      have h2 := run_wt h
      simp; omega
    · rw [run_fin e] at h
      injection h with h5 h6; subst h5; subst h6
      rw [(stp_fin e).2.2, wR_app, wR_one]; simp; omega
    · rw [run_bad e] at h; cases h
theorem rs_wt : ∀ (n : Nat) (l : List UInt8) (a : Nat), l.length ≤ n → wL ((rs a l).1.map (·.2)) ≤ 2 * l.length
  | n, [], a, _ => by rw [rs_nil]; exact Nat.le_refl _
  | 0, c :: l, a, h => by simp at h
  | n + 1, c :: l, a, h => by
    rcases e : run .bg [] [] (c :: l) with ⟨r, rest⟩ | e'
    · rw [rs_ok (by simp) e]
      obtain ⟨_, _, h3⟩ := run_rest e
      have h3 := h3 (by simp)
      have h4 := run_wt e
      have h5 := rs_wt n rest (a + ((c :: l).length - rest.length)) (by simp at h h3; omega)
      simp only [cons3, List.map_cons, wL]
      simp [wR] at h4
      simp at h3 ⊢
      simp at h5
      omega
    · rw [rs_err (by simp) e]; exact Nat.zero_le _
theorem ls_wt (b : List UInt8) : wL ((ls b).map (·.2)) ≤ 2 * b.length := rs_wt b.length b 0 (Nat.le_refl _)
theorem ls_ok (b : List UInt8) : ((ls b).map (·.2)).all okR = true := by
  rw [List.all_eq_true]
  intro r hr
  obtain ⟨p, hp, rfl⟩ := List.mem_map.1 hr
  exact okR_few.2 (ls_few hp)

/-- What Write comes to. -/
def wrS (l : List (List (List UInt8))) : List UInt8 × Nat := if l.all okR then (wr l, 0) else ([], 10)
theorem wrS_ok {l : List (List (List UInt8))} (h : l.all okR = true) : wrS l = (wr l, 0) := if_pos h
theorem wrS_err {l : List (List (List UInt8))} (h : l.all okR = false) : wrS l = ([], 10) := if_neg (by simp [h])
theorem oks_next (l : List (List (List UInt8))) (k : Nat) (r : List (List UInt8)) (h : l[k]? = some r) (hr : okR r = true) (ha : (l.take k).all okR = true) : (l.take (k + 1)).all okR = true := by
  rw [List.take_add_one, h, List.all_append, ha]
  simp [hr]
theorem oks_not (l : List (List (List UInt8))) (k : Nat) (r : List (List UInt8)) (h : l[k]? = some r) (hr : okR r = false) : l.all okR = false := by
  rw [List.all_eq_false]
  exact ⟨r, List.mem_of_getElem? h, by simp [hr]⟩
theorem wr_next (l : List (List (List UInt8))) (k : Nat) (r : List (List UInt8)) (h : l[k]? = some r) : wr (l.take (k + 1)) = wr (l.take k) ++ row r := by
  rw [List.take_add_one, h]
  exact wr_snoc _ _

/-- Every quote is written twice by ReplaceAll. -/
theorem replaceK_dbl : ∀ (n : Nat) (s : List UInt8), s.length ≤ n → Lib.replaceK [34] [34, 34] (Lib.count s [34]) s = dbl s
  | n, s, hn => by
    have key : ∀ l : List UInt8, (Lib.indexByte l 34 = -1 ∧ ∀ x ∈ l, x ≠ 34) ∨ ∃ k v, l = k ++ 34 :: v ∧ Lib.indexByte l 34 = (k.length : Int) ∧ ∀ x ∈ k, x ≠ 34 := by
      intro l
      induction l with
      | nil => exact .inl ⟨rfl, fun x h => by cases h⟩
      | cons x l ih =>
        by_cases hx : x = 34
        · subst hx
          exact .inr ⟨[], l, rfl, by simp [Lib.indexByte], fun x h => by cases h⟩
        · have hb : (x == 34) = false := by simpa using hx
          rcases ih with ⟨h1, h2⟩ | ⟨k, v, rfl, h1, h2⟩
          · refine .inl ⟨by simp [Lib.indexByte, hb, h1], fun y hy => ?_⟩
            rcases List.mem_cons.1 hy with rfl | hy
            · exact hx
            · exact h2 y hy
          · refine .inr ⟨x :: k, v, rfl, ?_, fun y hy => ?_⟩
            · have hne : ((k.length : Int) == -1) = false := by simp
              simp only [Lib.indexByte, hb, h1, hne, List.length_cons, Bool.false_eq_true, if_false]
              omega
            · rcases List.mem_cons.1 hy with rfl | hy
              · exact hx
              · exact h2 y hy
    rcases key s with ⟨h1, h2⟩ | ⟨k, v, rfl, h1, h2⟩
    · have h3 : Lib.index s [34] = -1 := by rw [Lib.index_one, h1]
      rw [Lib.count_miss h3, dbl_none h2]
      rfl
    · have h3 : Lib.index (k ++ 34 :: v) [34] = (k.length : Int) := by rw [Lib.index_one, h1]
      have hv : (k ++ 34 :: v).drop (k.length + 1) = v := by
        rw [List.drop_append]
        simp
      rw [Lib.count_hit (by simp) h3, Nat.add_comm, Lib.replaceK_hit _ _ _ _ _ h3]
      have hl : [(34 : UInt8)].length = 1 := rfl
      rw [hl, hv]
      rw [List.length_append, List.length_cons] at hn
      cases n with
      | zero => omega
      | succ n =>
        rw [replaceK_dbl n v (by omega), dbl_app, dbl_quote, dbl_none h2]
        simp
theorem replaceAll_dbl (s : List UInt8) : Lib.replaceAll s [34] [34, 34] = dbl s := by
  unfold Lib.replaceAll Lib.replace Lib.replaceNum
  rw [if_neg (by decide), if_pos (.inl (by omega))]
  exact replaceK_dbl s.length s (Nat.le_refl _)
end Go.Proofs.YtpjnkbfjnonkhaaDoor.Cv
