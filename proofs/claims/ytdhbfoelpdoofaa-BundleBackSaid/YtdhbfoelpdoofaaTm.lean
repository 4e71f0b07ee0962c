/-
  Lines of a file: what they are, which lie between two places, what is written of them. Plain mathematics.
-/
import Derived.Lib.Bytealg
namespace Go.Proofs.Ytdhbfoelpdoofaa.Tm

/-- The lines behind place f, where 'cur' stands already of the line at f: each with the place at which it begins. -/
def lns : Nat → List UInt8 → List UInt8 → List (Nat × List UInt8)
  | f, cur, [] => if cur.isEmpty then [] else [(f, cur)]
  | f, cur, x :: r => if x = 10 then (f, cur) :: lns (f + cur.length + 1) [] r else lns f (cur ++ [x]) r
/-- The lines of a file. -/
def ls (b : List UInt8) : List (Nat × List UInt8) := lns 0 [] b
/-- A line as a record. -/
def rc (p : Nat × List UInt8) : List (List UInt8) := [p.2]
/-- A line as a piece. -/
def pc (p : Nat × List UInt8) : Nat × List (List (List UInt8)) := (p.1, [[p.2]])

theorem lns_end (f : Nat) (cur : List UInt8) : lns f cur [] = if cur.isEmpty then [] else [(f, cur)] := rfl
theorem lns_ten (f : Nat) (cur r : List UInt8) : lns f cur (10 :: r) = (f, cur) :: lns (f + cur.length + 1) [] r := by rw [lns, if_pos rfl]
theorem lns_go (f : Nat) (cur r : List UInt8) (x : UInt8) (h : x ≠ 10) : lns f cur (x :: r) = lns f (cur ++ [x]) r := by rw [lns, if_neg h]
theorem lns_run : ∀ (k : List UInt8) (f : Nat) (cur r : List UInt8), (∀ x ∈ k, x ≠ 10) → lns f cur (k ++ r) = lns f (cur ++ k) r
  | [], f, cur, r, _ => by simp
  | x :: k, f, cur, r, h => by
    rw [List.cons_append, lns_go f cur _ x (h x (List.mem_cons_self ..)), lns_run k f _ r (fun y hy => h y (List.mem_cons_of_mem _ hy))]
    simp
theorem lns_line (k v : List UInt8) (f : Nat) (h : ∀ x ∈ k, x ≠ 10) : lns f [] (k ++ 10 :: v) = (f, k) :: lns (f + k.length + 1) [] v := by
  rw [lns_run k f [] _ h, List.nil_append, lns_ten]
theorem lns_last (k : List UInt8) (f : Nat) (h : ∀ x ∈ k, x ≠ 10) (hk : k ≠ []) : lns f [] k = [(f, k)] := by
  have := lns_run k f [] [] h
  rw [List.append_nil] at this
  rw [this, List.nil_append, lns_end]
  cases k with
  | nil => exact absurd rfl hk
  | cons x k => rfl

/-- Where a line begins. -/
theorem lns_place : ∀ (r : List UInt8) (f : Nat) (cur : List UInt8) (p : Nat × List UInt8), p ∈ lns f cur r →
    p.1 < f + cur.length + r.length ∧ (p.1 = f ∨ f + cur.length + 1 ≤ p.1 ∧ r[p.1 - (f + cur.length + 1)]? = some 10) ∨ r ≠ [] ∧ p.1 = f ∧ cur = []
  | [], f, cur, p, h => by
    rw [lns_end] at h
    cases cur with
    | nil => simp at h
    | cons x k => simp at h; subst h; exact .inl ⟨by simp, .inl rfl⟩
  | x :: r, f, cur, p, h => by
    by_cases hx : x = 10
    · subst hx
      rw [lns_ten] at h
      rcases List.mem_cons.1 h with rfl | h
      · exact .inl ⟨by simp; omega, .inl rfl⟩
      · rcases lns_place r _ _ p h with ⟨h1, h2⟩ | ⟨h1, h2, h3⟩
        · simp only [List.length_nil, Nat.add_zero] at h1 h2
          refine .inl ⟨by simp; omega, .inr ?_⟩
          rcases h2 with h2 | ⟨h2, h3⟩
          · refine ⟨by omega, ?_⟩
            rw [show p.1 - (f + cur.length + 1) = 0 by omega]; rfl
          · refine ⟨by omega, ?_⟩
            rw [show p.1 - (f + cur.length + 1) = (p.1 - (f + cur.length + 1 + 1)) + 1 by omega, List.getElem?_cons_succ]
            exact h3
        · have : 0 < r.length := List.length_pos_iff.2 h1
          refine .inl ⟨by simp; omega, .inr ⟨by omega, ?_⟩⟩
          rw [show p.1 - (f + cur.length + 1) = 0 by omega]; rfl
    · rw [lns_go f cur r x hx] at h
      rcases lns_place r _ _ p h with ⟨h1, h2⟩ | ⟨h1, h2, h3⟩
      · rw [List.length_append] at h1 h2
        simp only [List.length_cons, List.length_nil] at h1 h2
        refine .inl ⟨by simp; omega, ?_⟩
        rcases h2 with h2 | ⟨h2, h3⟩
        · exact .inl h2
        · refine .inr ⟨by omega, ?_⟩
          rw [show p.1 - (f + cur.length + 1) = (p.1 - (f + (cur.length + 1) + 1)) + 1 by omega, List.getElem?_cons_succ]
          exact h3
      · simp at h3
/-- Of a file: a line begins at 0, or behind a byte 10, and not at the end. -/
theorem ls_place {b : List UInt8} {p : Nat × List UInt8} (h : p ∈ ls b) : p.1 < b.length ∧ (p.1 = 0 ∨ 1 ≤ p.1 ∧ b[p.1 - 1]? = some 10) := by
  rcases lns_place b 0 [] p h with ⟨h1, h2⟩ | ⟨h1, h2, _⟩
  · simp only [List.length_nil, Nat.zero_add] at h1 h2
    exact ⟨by omega, h2.imp id id⟩
  · have : 0 < b.length := List.length_pos_iff.2 h1
    exact ⟨by omega, .inl h2⟩
theorem lns_ge {r : List UInt8} {f : Nat} {cur : List UInt8} {p : Nat × List UInt8} (h : p ∈ lns f cur r) : f ≤ p.1 := by
  rcases lns_place r f cur p h with ⟨_, h2 | h2⟩ | ⟨_, h2, _⟩ <;> omega

/-- Behind a byte 10 the lines go on. -/
theorem lns_at : ∀ (r : List UInt8) (f : Nat) (cur : List UInt8) (k : Nat), r[k]? = some 10 →
    ∃ pre, lns f cur r = pre ++ lns (f + cur.length + k + 1) [] (r.drop (k + 1)) ∧ ∀ p ∈ pre, p.1 < f + cur.length + k + 1
  | [], f, cur, k, h => by simp at h
  | x :: r, f, cur, k, h => by
    by_cases hx : x = 10
    · subst hx
      rw [lns_ten]
      cases k with
      | zero => exact ⟨[(f, cur)], rfl, fun p hp => by simp at hp; subst hp; simp; omega⟩
      | succ k =>
        rw [List.getElem?_cons_succ] at h
        obtain ⟨pre, h1, h2⟩ := lns_at r (f + cur.length + 1) [] k h
        simp only [List.length_nil, Nat.add_zero] at h1 h2
        refine ⟨(f, cur) :: pre, ?_, fun p hp => ?_⟩
        · rw [h1, List.drop_succ_cons, List.cons_append, show f + cur.length + 1 + k + 1 = f + cur.length + (k + 1) + 1 by omega]
        · rcases List.mem_cons.1 hp with rfl | hp
          · simp; omega
          · have := h2 p hp; omega
    · rw [lns_go f cur r x hx]
      cases k with
      | zero => simp at h; exact absurd h hx
      | succ k =>
        rw [List.getElem?_cons_succ] at h
        obtain ⟨pre, h1, h2⟩ := lns_at r f (cur ++ [x]) k h
        rw [List.length_append] at h1 h2
        refine ⟨pre, ?_, fun p hp => ?_⟩
        · rw [h1, List.drop_succ_cons, show f + (cur.length + [x].length) + k + 1 = f + cur.length + (k + 1) + 1 by simp; omega]
        · have := h2 p hp; simp at this; omega
theorem ls_at {b : List UInt8} {k : Nat} (h : b[k]? = some 10) : ∃ pre, ls b = pre ++ lns (k + 1) [] (b.drop (k + 1)) ∧ ∀ p ∈ pre, p.1 < k + 1 := by
  have := lns_at b 0 [] k h
  simpa [ls] using this
/-- A line begins at a place: 0, or behind a byte 10, not at the end. -/
theorem ls_begins {b : List UInt8} {k : Nat} (h : k < b.length) (h2 : k = 0 ∨ 1 ≤ k ∧ b[k - 1]? = some 10) : ∃ p ∈ ls b, p.1 = k := by
  have key : ∀ (r : List UInt8) (f : Nat) (cur : List UInt8), r ≠ [] ∨ cur ≠ [] → ∃ p ∈ lns f cur r, p.1 = f := by
    intro r
    induction r with
    | nil => intro f cur h; rw [lns_end]; cases cur with
      | nil => simp at h
      | cons x k => exact ⟨(f, x :: k), by simp, rfl⟩
    | cons x r ih => intro f cur h; by_cases hx : x = 10
                     · subst hx; rw [lns_ten]; exact ⟨_, List.mem_cons_self .., rfl⟩
                     · rw [lns_go f cur r x hx]; exact ih f _ (.inr (by simp))
  rcases h2 with rfl | ⟨h1, h2⟩
  · exact key b 0 [] (.inl (List.length_pos_iff.1 h))
  · obtain ⟨pre, e, _⟩ := ls_at h2
    rw [show k - 1 + 1 = k by omega] at e
    obtain ⟨p, hp, hk⟩ := key (b.drop k) k [] (.inl (by rw [← List.length_pos_iff, List.length_drop]; omega))
    exact ⟨p, by rw [e]; exact List.mem_append_right _ hp, hk⟩

/-- The lines that begin from a place on, ahead of another one. -/
def rd (b : List UInt8) (f t : Nat) : List (Nat × List UInt8) := (ls b).filter fun p => decide (f ≤ p.1) && decide (p.1 < t)
/-- The lines from a line's begin on, ahead of a place. -/
def rl (b : List UInt8) (a t : Nat) : List (Nat × List UInt8) := (lns a [] (b.drop a)).filter fun p => decide (p.1 < t)
theorem rl_end (b : List UInt8) (a t : Nat) (h : t ≤ a) : rl b a t = [] := by
  unfold rl
  rw [List.filter_eq_nil_iff]
  intro p hp
  have := lns_ge hp
  simp; omega
theorem rd_start (b : List UInt8) (t : Nat) : rd b 0 t = rl b 0 t := by unfold rd rl ls; simp
/-- No line begins between, or the first one does behind the first byte 10. -/
theorem rd_none (b : List UInt8) (f t : Nat) (hf : 1 ≤ f) (h : ∀ j, f - 1 ≤ j → j + 1 < t → b[j]? ≠ some 10) : rd b f t = rl b t t := by
  rw [rl_end b t t (Nat.le_refl _)]
  unfold rd
  rw [List.filter_eq_nil_iff]
  intro p hp
  obtain ⟨h1, h2⟩ := ls_place hp
  simp
  intro h3
  rcases h2 with h2 | ⟨h2, h4⟩
  · omega
  · rcases Nat.lt_or_ge p.1 t with h5 | h5
    · exact absurd h4 (h (p.1 - 1) (by omega) (by omega))
    · exact h5
theorem rd_some (b : List UInt8) (f t i : Nat) (hf : 1 ≤ f) (h10 : b[f - 1 + i]? = some 10) (h : ∀ j, f - 1 ≤ j → j < f - 1 + i → b[j]? ≠ some 10) : rd b f t = rl b (f + i) t := by
  obtain ⟨pre, e, hp⟩ := ls_at h10
  rw [show f - 1 + i + 1 = f + i by omega] at e hp
  unfold rd rl
  have e1 : pre.filter (fun p => decide (f ≤ p.1) && decide (p.1 < t)) = [] := by
    rw [List.filter_eq_nil_iff]
    intro p hpp
    have h1 := hp p hpp
    obtain ⟨h2, h3⟩ := ls_place (b := b) (p := p) (by rw [e]; exact List.mem_append_left _ hpp)
    simp
    intro h4
    rcases h3 with h3 | ⟨h3, h5⟩
    · omega
    · exact absurd h5 (h (p.1 - 1) (by omega) (by omega))
  rw [e, List.filter_append, e1, List.nil_append]
  refine List.filter_congr fun p hpp => ?_
  have := lns_ge hpp
  simp; omega
theorem rl_step (b k : List UInt8) (a t n : Nat) (h : a < t) (e : lns a [] (b.drop a) = (a, k) :: lns n [] (b.drop n)) : rl b a t = (a, k) :: rl b n t := by
  unfold rl
  rw [e, List.filter_cons, if_pos (by simpa using h)]

/-- The first byte 10 of what stands behind a place, or none. -/
theorem idx_cases : ∀ l : List UInt8, (Lib.indexByte l 10 = -1 ∧ ∀ x ∈ l, x ≠ 10) ∨ ∃ k v, l = k ++ 10 :: v ∧ Lib.indexByte l 10 = (k.length : Int) ∧ ∀ x ∈ k, x ≠ 10
  | [] => .inl ⟨rfl, fun x h => by cases h⟩
  | x :: l => by
    by_cases hx : x = 10
    · subst hx
      exact .inr ⟨[], l, rfl, by simp [Lib.indexByte], fun x h => by cases h⟩
    · have hb : (x == 10) = false := by simpa using hx
      rcases idx_cases l with ⟨h1, h2⟩ | ⟨k, v, rfl, h1, h2⟩
      · refine .inl ⟨by simp [Lib.indexByte, hb, h1], fun y hy => ?_⟩
        rcases List.mem_cons.1 hy with rfl | hy
        · exact hx
        · exact h2 y hy
      · refine .inr ⟨x :: k, v, rfl, ?_, fun y hy => ?_⟩
        · have hne : ((k.length : Int) == -1) = false := by simp
          simp only [Lib.indexByte, hb, h1, hne, List.length_cons, Bool.false_eq_true, if_false]
          omega
        · rcases List.mem_cons.1 hy with rfl | hy
          · exact hx
          · exact h2 y hy
/-- The line that begins at a place, and where the next one does. -/
def Line (b : List UInt8) (a : Nat) (k : List UInt8) (n : Nat) : Prop := lns a [] (b.drop a) = (a, k) :: lns n [] (b.drop n) ∧ a < n ∧ n ≤ b.length ∧ k.length + a ≤ b.length
theorem line_last (b : List UInt8) (a : Nat) (ha : a < b.length) (h : ∀ x ∈ b.drop a, x ≠ 10) : Line b a (b.drop a) b.length := by
  have hd : (b.drop a).length = b.length - a := List.length_drop ..
  refine ⟨?_, ha, Nat.le_refl _, by omega⟩
  rw [lns_last _ a h (by rw [← List.length_pos_iff]; omega), List.drop_length, lns_end]
  rfl
theorem line_more (b k v : List UInt8) (a : Nat) (e : b.drop a = k ++ 10 :: v) (h : ∀ x ∈ k, x ≠ 10) : Line b a ((b.drop a).take k.length) (a + k.length + 1) ∧ (b.drop a).take k.length = k := by
  have hd := congrArg List.length e
  rw [List.length_drop, List.length_append, List.length_cons] at hd
  have e2 : (b.drop a).take k.length = k := by rw [e]; simp
  have e3 : b.drop (a + k.length + 1) = v := by
    rw [show a + k.length + 1 = a + (k.length + 1) by omega, ← List.drop_drop, e]; simp
  refine ⟨⟨?_, by omega, by omega, by rw [e2]; omega⟩, e2⟩
  rw [e2, e3, e, lns_line k v a h]

/-- What is written of records. -/
def wr (l : List (List (List UInt8))) : List UInt8 := l.flatMap fun r => r.flatten ++ [10]
theorem wr_snoc (l : List (List (List UInt8))) (r : List (List UInt8)) : wr (l ++ [r]) = wr l ++ r.flatten ++ [10] := by simp [wr]
theorem wr_cons (l : List (List (List UInt8))) (r : List (List UInt8)) : wr (r :: l) = r.flatten ++ 10 :: wr l := by simp [wr]
/-- A record that may be a line. -/
def ok (r : List (List UInt8)) : Bool := match r with
  | [s] => decide (s.length ≤ 1000) && !s.contains 10
  | _ => false
theorem ok_one (s : List UInt8) : ok [s] = (decide (s.length ≤ 1000) && !s.contains 10) := rfl
theorem ok_len {r : List (List UInt8)} (h : r.length ≠ 1) : ok r = false := by
  match r, h with
  | [], _ => rfl
  | [s], h => simp at h
  | _ :: _ :: _, _ => rfl
theorem ok_inv {r : List (List UInt8)} (h : ok r = true) : ∃ s, r = [s] ∧ s.length ≤ 1000 ∧ ∀ x ∈ s, x ≠ 10 := by
  match r, h with
  | [s], h =>
    rw [ok_one] at h
    simp at h
    exact ⟨s, rfl, h.1, fun x hx e => h.2 (e ▸ hx)⟩
theorem contains_ten {s : List UInt8} : s.contains 10 = decide (0 ≤ Lib.indexByte s 10) := by
  rcases idx_cases s with ⟨h1, h2⟩ | ⟨k, v, rfl, h1, h2⟩
  · rw [h1]; simp; intro h; exact h2 10 h rfl
  · rw [h1]; simp
/-- Lines are records; written, they are the file, or the file and a byte 10. -/
theorem wr_lns : ∀ (r : List UInt8) (f : Nat) (cur : List UInt8), wr ((lns f cur r).map rc) = if (cur ++ r).isEmpty || (cur ++ r).getLast? == some 10 && !r.isEmpty then cur ++ r else cur ++ r ++ [10]
  | [], f, cur => by
    rw [lns_end]
    cases cur with
    | nil => rfl
    | cons x k => simp [rc, wr]
  | x :: r, f, cur => by
    by_cases hx : x = 10
    · subst hx
      rw [lns_ten, List.map_cons, wr_cons, wr_lns r]
      cases r with
      | nil => simp [rc]
      | cons y r =>
        have e : (cur ++ 10 :: y :: r).getLast? = (y :: r).getLast? := by rw [List.getLast?_append, List.getLast?_cons_cons, List.getLast?_eq_some_getLast (by simp)]; rfl
        rw [e]
        simp only [rc, List.nil_append, List.isEmpty_cons, Bool.false_or, Bool.not_false, Bool.and_true, List.flatten_cons, List.flatten_nil, List.append_nil]
        have e2 : (cur ++ 10 :: y :: r).isEmpty = false := by simp
        rw [e2, Bool.false_or]
        split <;> simp
    · rw [lns_go f cur r x hx, wr_lns r]
      cases r with
      | nil => simp [hx]
      | cons y r => simp
/-- Canonical. -/
def canon (b : List UInt8) : Bool := b.isEmpty || b.getLast? == some 10
theorem wr_ls (b : List UInt8) : wr ((ls b).map rc) = if canon b then b else b ++ [10] := by
  unfold ls canon
  rw [wr_lns]
  cases b with
  | nil => rfl
  | cons x b => simp
/-- What was written is read. -/
theorem ls_wr : ∀ (l : List (List (List UInt8))) (f : Nat), l.all ok = true → (lns f [] (wr l)).map rc = l
  | [], f, _ => rfl
  | r :: l, f, h => by
    rw [List.all_cons, Bool.and_eq_true] at h
    obtain ⟨s, rfl, _, hs⟩ := ok_inv h.1
    rw [wr_cons]
    simp only [List.flatten_cons, List.flatten_nil, List.append_nil]
    rw [lns_line s _ f hs, List.map_cons, ls_wr l _ h.2]
    rfl
theorem canon_wr (l : List (List (List UInt8))) : canon (wr l) = true := by
  rcases List.eq_nil_or_concat l with rfl | ⟨l', r, rfl⟩
  · rfl
  · unfold canon; rw [List.concat_eq_append, wr_snoc]; simp
/-- Each line begins where those ahead end. -/
theorem lns_put : ∀ (r : List UInt8) (f : Nat) (cur : List UInt8) (i : Nat) (p : Nat × List UInt8), (lns f cur r)[i]? = some p → p.1 = f + (wr (((lns f cur r).take i).map rc)).length
  | [], f, cur, i, p, h => by
    rw [lns_end] at h ⊢
    cases cur with
    | nil => simp at h
    | cons x k =>
      cases i with
      | zero => simp at h; subst h; simp [wr]
      | succ i => simp at h
  | x :: r, f, cur, i, p, h => by
    by_cases hx : x = 10
    · subst hx
      rw [lns_ten] at h ⊢
      cases i with
      | zero => simp at h; subst h; simp [wr]
      | succ i =>
        rw [List.getElem?_cons_succ] at h
        rw [lns_put r _ _ i p h, List.take_succ_cons, List.map_cons, wr_cons]
        simp [rc]; omega
    · rw [lns_go f cur r x hx] at h ⊢
      exact lns_put r _ _ i p h
theorem ls_put {b : List UInt8} {i : Nat} {p : Nat × List UInt8} (h : (ls b)[i]? = some p) : p.1 = (wr (((ls b).take i).map rc)).length := by
  have := lns_put b 0 [] i p h
  unfold ls; omega
/-- Splits. -/
theorem lns_sorted : ∀ (r : List UInt8) (f : Nat) (cur : List UInt8), (lns f cur r).Pairwise fun p q => p.1 < q.1
  | [], f, cur => by
    rw [lns_end]
    cases cur <;> simp
  | x :: r, f, cur => by
    by_cases hx : x = 10
    · subst hx
      rw [lns_ten, List.pairwise_cons]
      exact ⟨fun p hp => by have := lns_ge hp; show f < p.1; omega, lns_sorted r _ _⟩
    · rw [lns_go f cur r x hx]; exact lns_sorted r _ _
theorem filter_split (a c t : Nat) (h1 : a ≤ c) (h2 : c ≤ t) : ∀ l : List (Nat × List UInt8), l.Pairwise (fun p q => p.1 < q.1) →
    l.filter (fun p => decide (a ≤ p.1) && decide (p.1 < t)) = l.filter (fun p => decide (a ≤ p.1) && decide (p.1 < c)) ++ l.filter (fun p => decide (c ≤ p.1) && decide (p.1 < t))
  | [], _ => rfl
  | p :: l, h => by
    rw [List.pairwise_cons] at h
    have ih := filter_split a c t h1 h2 l h.2
    by_cases hc : p.1 < c
    · rw [List.filter_cons, List.filter_cons, List.filter_cons, ih]
      have e3 : (decide (c ≤ p.1) && decide (p.1 < t)) = false := by simp; omega
      have e1 : decide (p.1 < t) = true := by simp; omega
      have e2 : decide (p.1 < c) = true := by simpa using hc
      rw [e3, e1, e2]
      cases decide (a ≤ p.1) <;> simp
    · have e4 : l.filter (fun p => decide (a ≤ p.1) && decide (p.1 < c)) = [] := by
        rw [List.filter_eq_nil_iff]
        intro q hq
        have := h.1 q hq
        simp; omega
      rw [List.filter_cons, List.filter_cons, List.filter_cons, ih, e4]
      have e2 : decide (p.1 < c) = false := by simpa using hc
      have e1 : decide (a ≤ p.1) = decide (c ≤ p.1) := by simp; omega
      rw [e1, e2]
      simp
theorem rd_split (b : List UInt8) (a c t : Nat) (h1 : a ≤ c) (h2 : c ≤ t) : rd b a t = rd b a c ++ rd b c t := filter_split a c t h1 h2 _ (lns_sorted b 0 [])
theorem rd_all (b : List UInt8) : rd b 0 b.length = ls b := by
  unfold rd
  rw [List.filter_eq_self]
  intro p hp
  have := (ls_place hp).1
  simpa using this
theorem ls_len (b : List UInt8) : (ls b).length ≤ b.length := by
  have key : ∀ (r : List UInt8) (f : Nat) (cur : List UInt8), (lns f cur r).length ≤ r.length + cur.length := by
    intro r
    induction r with
    | nil => intro f cur; rw [lns_end]; cases cur <;> simp
    | cons x r ih => intro f cur; by_cases hx : x = 10
                     · subst hx; rw [lns_ten]; have := ih (f + cur.length + 1) []; simp at this ⊢; omega
                     · rw [lns_go f cur r x hx]; have := ih f (cur ++ [x]); simp at this ⊢; omega
  have := key b 0 []
  simpa [ls] using this
theorem ls_short {b : List UInt8} {p : Nat × List UInt8} (h : p ∈ ls b) : p.2.length ≤ b.length := by
  have key : ∀ (r : List UInt8) (f : Nat) (cur : List UInt8) (p : Nat × List UInt8), p ∈ lns f cur r → p.2.length ≤ r.length + cur.length := by
    intro r
    induction r with
    | nil => intro f cur p h; rw [lns_end] at h; cases cur with
      | nil => simp at h
      | cons x k => simp at h; subst h; simp
    | cons x r ih => intro f cur p h; by_cases hx : x = 10
                     · subst hx
                       rw [lns_ten] at h
                       rcases List.mem_cons.1 h with rfl | h
                       · simp
                       · have := ih _ _ p h; simp at this ⊢; omega
                     · rw [lns_go f cur r x hx] at h
                       have := ih _ _ p h; simp at this ⊢; omega
  have := key b 0 [] p h
  simpa using this
/-- A line begins at a place (any number). -/
def starts (b : List UInt8) (a : Int) : Bool := (ls b).any fun p => (p.1 : Int) == a
theorem starts_neg (b : List UInt8) (a : Int) (h : a < 0) : starts b a = false := by
  unfold starts
  rw [List.any_eq_false]
  intro p _
  simp; omega
theorem starts_large (b : List UInt8) (a : Int) (h : (b.length : Int) ≤ a) : starts b a = false := by
  unfold starts
  rw [List.any_eq_false]
  intro p hp
  have := (ls_place hp).1
  simp; omega
theorem starts_nil (b : List UInt8) (h : 0 < b.length) : starts b 0 = true := by
  obtain ⟨p, hp, h2⟩ := ls_begins h (.inl rfl)
  unfold starts
  rw [List.any_eq_true]
  exact ⟨p, hp, by simp [h2]⟩
theorem starts_ten (b : List UInt8) (k : Nat) (h : k + 1 < b.length) (h2 : b[k]? = some 10) : starts b ((k + 1 : Nat) : Int) = true := by
  obtain ⟨p, hp, h3⟩ := ls_begins h (.inr ⟨by omega, by simpa using h2⟩)
  unfold starts
  rw [List.any_eq_true]
  exact ⟨p, hp, by simp [h3]⟩
theorem starts_no (b : List UInt8) (k : Nat) (x : UInt8) (h2 : b[k]? = some x) (hx : x ≠ 10) : starts b ((k + 1 : Nat) : Int) = false := by
  unfold starts
  rw [List.any_eq_false]
  intro p hp
  have := (ls_place hp).2
  simp only [beq_iff_eq]
  intro e
  have e2 : p.1 = k + 1 := by omega
  rw [e2] at this
  rcases this with h | ⟨_, h⟩
  · omega
  · simp at h; rw [h2] at h; injection h with h; exact hx h
theorem rd_len (b : List UInt8) (f t : Nat) : (rd b f t).length ≤ b.length := Nat.le_trans (List.length_filter_le _ _) (ls_len b)
/-- The records of pieces. -/
def all (ps : List (Nat × List (List (List UInt8)))) : List (List (List UInt8)) := ps.flatMap (·.2)
theorem all_app (p q : List (Nat × List (List (List UInt8)))) : all (p ++ q) = all p ++ all q := by simp [all]
theorem all_take (ps : List (Nat × List (List (List UInt8)))) (k : Nat) : (all (ps.take k)).length ≤ (all ps).length := by
  have := congrArg List.length (congrArg all (List.take_append_drop k ps))
  rw [all_app, List.length_append] at this
  omega
theorem all_snoc (ps : List (Nat × List (List (List UInt8)))) (k : Nat) (p : Nat × List (List (List UInt8))) (h : ps[k]? = some p) : all (ps.take (k + 1)) = all (ps.take k) ++ p.2 := by
  rw [List.take_add_one, h, all_app]
  simp [all]
theorem all_pc (l : List (Nat × List UInt8)) : all (l.map pc) = l.map rc := by
  induction l with
  | nil => rfl
  | cons p l ih => simp only [all, List.map_cons, List.flatMap_cons] at ih ⊢; rw [ih]; rfl
/-- Those of the pieces between. -/
def btw (f t : Nat) (ps : List (Nat × List (List (List UInt8)))) : List (Nat × List (List (List UInt8))) := ps.filter fun p => decide (f ≤ p.1) && decide (p.1 < t)
theorem btw_snoc (f t : Nat) (ps : List (Nat × List (List (List UInt8)))) (k : Nat) (p : Nat × List (List (List UInt8))) (h : ps[k]? = some p) :
    all (btw f t (ps.take (k + 1))) = if decide (f ≤ p.1) && decide (p.1 < t) then all (btw f t (ps.take k)) ++ p.2 else all (btw f t (ps.take k)) := by
  rw [List.take_add_one, h]
  unfold btw
  rw [List.filter_append]
  simp only [Option.toList_some, List.filter_cons, List.filter_nil]
  split
  · rw [all_app]; simp [all]
  · simp
theorem btw_len (f t : Nat) (ps : List (Nat × List (List (List UInt8)))) : (all (btw f t ps)).length ≤ (all ps).length := by
  induction ps with
  | nil => exact Nat.le_refl _
  | cons p ps ih =>
    have e : all (p :: ps) = p.2 ++ all ps := rfl
    rw [e]
    unfold btw at ih ⊢
    rw [List.filter_cons]
    split
    · have e2 : ∀ q, all (p :: q) = p.2 ++ all q := fun _ => rfl
      rw [e2, List.length_append, List.length_append]; omega
    · rw [List.length_append]; omega
theorem btw_pc (l : List UInt8) (f t : Nat) : all (btw f t ((ls l).map pc)) = (rd l f t).map rc := by
  unfold btw rd
  rw [List.filter_map, all_pc]
  rfl
theorem wr_app (p q : List (List (List UInt8))) : wr (p ++ q) = wr p ++ wr q := by simp [wr]
theorem wr_take (l : List (List (List UInt8))) (k : Nat) : (wr (l.take k)).length ≤ (wr l).length := by
  have := congrArg List.length (congrArg wr (List.take_append_drop k l))
  rw [wr_app, List.length_append] at this
  omega
theorem wr_next (l : List (List (List UInt8))) (k : Nat) (s : List UInt8) (h : l[k]? = some [s]) : wr (l.take (k + 1)) = (wr (l.take k) ++ s) ++ [10] := by
  rw [List.take_add_one, h, wr_app]
  simp [wr]
theorem oks_next (l : List (List (List UInt8))) (k : Nat) (r : List (List UInt8)) (h : l[k]? = some r) (hr : ok r = true) (ha : (l.take k).all ok = true) : (l.take (k + 1)).all ok = true := by
  rw [List.take_add_one, h, List.all_append, ha]
  simp [hr]
theorem oks_not (l : List (List (List UInt8))) (k : Nat) (r : List (List UInt8)) (h : l[k]? = some r) (hr : ok r = false) : l.all ok = false := by
  rw [List.all_eq_false]
  exact ⟨r, List.mem_of_getElem? h, by simp [hr]⟩
/-- What Write comes to. -/
def wrS (l : List (List (List UInt8))) : List UInt8 × Nat := if l.all ok then (wr l, 0) else ([], 10)
theorem wrS_ok {l : List (List (List UInt8))} (h : l.all ok = true) : wrS l = (wr l, 0) := if_pos h
theorem wrS_err {l : List (List (List UInt8))} (h : l.all ok = false) : wrS l = ([], 10) := if_neg (by simp [h])
theorem wrS_zero {l : List (List (List UInt8))} (h : (wrS l).2 = 0) : l.all ok = true := by
  by_cases e : l.all ok = true
  · exact e
  · rw [wrS_err (by simpa using e)] at h; cases h
/-- Places out of numbers: 0, and those of 1 to k that are among them. -/
def cut (l : List Int) : Nat → List Int
  | 0 => [0]
  | k + 1 => if l.contains ((k + 1 : Nat) : Int) then cut l k ++ [((k + 1 : Nat) : Int)] else cut l k
theorem cut_yes (l : List Int) (k : Nat) (h : ((k + 1 : Nat) : Int) ∈ l) : cut l (k + 1) = cut l k ++ [((k + 1 : Nat) : Int)] := by rw [cut, if_pos (List.contains_iff_mem.2 h)]
theorem cut_no (l : List Int) (k : Nat) (h : ((k + 1 : Nat) : Int) ∉ l) : cut l (k + 1) = cut l k := by rw [cut, if_neg (by rw [List.contains_iff_mem]; exact h)]
theorem cut_len (l : List Int) : ∀ k, (cut l k).length ≤ k + 1
  | 0 => Nat.le_refl _
  | k + 1 => by
    have := cut_len l k
    rw [cut]
    split <;> simp <;> omega
def cuts (n : Nat) (l : List Int) : List Int := if 0 < n then cut l (n - 1) ++ [(n : Int)] else cut l 0
theorem cuts_pos (n : Nat) (l : List Int) (h : 0 < n) : cuts n l = cut l (n - 1) ++ [(n : Int)] := if_pos h
/-- They begin with 0, and rise. -/
theorem cut_rise (l : List Int) : ∀ k, (cut l k)[0]? = some 0 ∧ (∀ x ∈ cut l k, 0 ≤ x ∧ x ≤ (k : Int)) ∧ (cut l k).Pairwise (· ≤ ·)
  | 0 => ⟨rfl, fun x h => by simp [cut] at h; omega, by simp [cut]⟩
  | k + 1 => by
    obtain ⟨h1, h2, h3⟩ := cut_rise l k
    have hl : 0 < (cut l k).length := by
      rcases Nat.eq_zero_or_pos (cut l k).length with h | h
      · rw [List.eq_nil_of_length_eq_zero h] at h1; cases h1
      · exact h
    rw [cut]
    split
    · refine ⟨by rw [List.getElem?_append_left hl]; exact h1, fun x hx => ?_, ?_⟩
      · rcases List.mem_append.1 hx with hx | hx
        · have := h2 x hx; omega
        · simp at hx; omega
      · rw [List.pairwise_append]
        refine ⟨h3, by simp, fun x hx y hy => ?_⟩
        have := h2 x hx
        simp at hy
        omega
    · exact ⟨h1, fun x hx => by have := h2 x hx; omega, h3⟩
theorem cuts_rise (n : Nat) (l : List Int) : (cuts n l)[0]? = some 0 ∧ (∀ x ∈ cuts n l, 0 ≤ x ∧ x ≤ (n : Int)) ∧ (cuts n l).Pairwise (· ≤ ·) ∧ (cuts n l).getLast? = some (n : Int) := by
  by_cases h : 0 < n
  · obtain ⟨h1, h2, h3⟩ := cut_rise l (n - 1)
    rw [cuts_pos n l h]
    have hl : 0 < (cut l (n - 1)).length := by
      rcases Nat.eq_zero_or_pos (cut l (n - 1)).length with h | h
      · rw [List.eq_nil_of_length_eq_zero h] at h1; cases h1
      · exact h
    refine ⟨by rw [List.getElem?_append_left hl]; exact h1, fun x hx => ?_, ?_, by simp⟩
    · rcases List.mem_append.1 hx with hx | hx
      · have := h2 x hx; omega
      · simp at hx; omega
    · rw [List.pairwise_append]
      refine ⟨h3, by simp, fun x hx y hy => ?_⟩
      have := h2 x hx
      simp at hy
      omega
  · obtain rfl : n = 0 := by omega
    exact ⟨rfl, fun x h => by simp [cuts, cut] at h; omega, by simp [cuts, cut], rfl⟩
theorem cuts_len (n : Nat) (l : List Int) : 1 ≤ (cuts n l).length ∧ (cuts n l).length ≤ n + 1 := by
  constructor
  · have h1 := (cuts_rise n l).1
    rcases Nat.eq_zero_or_pos (cuts n l).length with h | h
    · rw [List.eq_nil_of_length_eq_zero h] at h1; cases h1
    · exact h
  · unfold cuts
    split
    · have := cut_len l (n - 1)
      simp; omega
    · simp [cut]
/-- Two that follow. -/
theorem cuts_two (n : Nat) (l : List Int) (i : Nat) (h : i + 1 < (cuts n l).length) : ∃ a b : Nat, (cuts n l)[i]? = some (a : Int) ∧ (cuts n l)[i + 1]? = some (b : Int) ∧ a ≤ b ∧ b ≤ n := by
  obtain ⟨_, h2, h3, _⟩ := cuts_rise n l
  have g1 := h2 _ (List.getElem_mem (show i < (cuts n l).length by omega))
  have g2 := h2 _ (List.getElem_mem h)
  have g3 := List.pairwise_iff_getElem.1 h3 i (i + 1) (by omega) h (by omega)
  refine ⟨((cuts n l)[i]'(by omega)).toNat, ((cuts n l)[i + 1]).toNat, ?_, ?_, by omega, by omega⟩
  · rw [List.getElem?_eq_getElem (by omega)]; congr 1; omega
  · rw [List.getElem?_eq_getElem h]; congr 1; omega
end Go.Proofs.Ytdhbfoelpdoofaa.Tm
