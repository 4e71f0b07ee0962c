/-
  Joined: Tm Cv Fx Ha Cn Cq.
-/
import Derived.Lib.Bytealg
import Derived.Test.YtknmhdkomjjneaaGreatDoorJW2
/-
  Lines of a file: what they are, which lie between two places, what is written of them. Plain mathematics.
-/
namespace Go.Proofs.YtknmhdkomjjneaaGreatDoor.Tm

def lns : Nat → List UInt8 → List UInt8 → List (Nat × List UInt8)
  | f, cur, [] => if cur.isEmpty then [] else [(f, cur)]
  | f, cur, x :: r => if x = 10 then (f, cur) :: lns (f + cur.length + 1) [] r else lns f (cur ++ [x]) r
def ls (b : List UInt8) : List (Nat × List UInt8) := lns 0 [] b
def rc (p : Nat × List UInt8) : List (List UInt8) := [p.2]
def pc (p : Nat × List UInt8) : Nat × List (List (List UInt8)) := (p.1, [[p.2]])

theorem lns_end (f : Nat) (cur : List UInt8) : lns f cur [] = if cur.isEmpty then [] else [(f, cur)] := rfl
theorem lns_ten (f : Nat) (cur r : List UInt8) : lns f cur (10 :: r) = (f, cur) :: lns (f + cur.length + 1) [] r := by rw [lns, if_pos rfl]
theorem lns_go (f : Nat) (cur r : List UInt8) (x : UInt8) (h : x ≠ 10) : lns f cur (x :: r) = lns f (cur ++ [x]) r := by rw [lns, if_neg h]
theorem lns_run : ∀ (k : List UInt8) (f : Nat) (cur r : List UInt8), (∀ x ∈ k, x ≠ 10) → lns f cur (k ++ r) = lns f (cur ++ k) r
  | [], f, cur, r, _ => by simp
  | x :: k, f, cur, r, h => by
    rw [List.cons_append, lns_go f cur _ x (h x (List.mem_cons_self ..)), lns_run k f _ r (fun y hy => h y (List.mem_cons_of_mem _ hy))]
    simp
theorem lns_line (k v : List UInt8) (f : Nat) (h : ∀ x ∈ k, x ≠ 10) : lns f [] (k ++ 10 :: v) = (f, k) :: lns (f + k.length + 1) [] v := by
  rw [lns_run k f [] _ h, List.nil_append, lns_ten]
theorem lns_last (k : List UInt8) (f : Nat) (h : ∀ x ∈ k, x ≠ 10) (hk : k ≠ []) : lns f [] k = [(f, k)] := by
  have := lns_run k f [] [] h
  rw [List.append_nil] at this
  rw [this, List.nil_append, lns_end]
  cases k with
  | nil => exact absurd rfl hk
  | cons x k => rfl

theorem idx_cases : ∀ l : List UInt8, (Lib.indexByte l 10 = -1 ∧ ∀ x ∈ l, x ≠ 10) ∨ ∃ k v, l = k ++ 10 :: v ∧ Lib.indexByte l 10 = (k.length : Int) ∧ ∀ x ∈ k, x ≠ 10
  | [] => .inl ⟨rfl, fun x h => by cases h⟩
  | x :: l => by
    by_cases hx : x = 10
    · subst hx
      exact .inr ⟨[], l, rfl, by simp [Lib.indexByte], fun x h => by cases h⟩
    · have hb : (x == 10) = false := by simpa using hx
      rcases idx_cases l with ⟨h1, h2⟩ | ⟨k, v, rfl, h1, h2⟩
      · refine .inl ⟨by simp [Lib.indexByte, hb, h1], fun y hy => ?_⟩
        rcases List.mem_cons.1 hy with rfl | hy
        · exact hx
        · exact h2 y hy
      · refine .inr ⟨x :: k, v, rfl, ?_, fun y hy => ?_⟩
        · have hne : ((k.length : Int) == -1) = false := by simp
          simp only [Lib.indexByte, hb, h1, hne, List.length_cons, Bool.false_eq_true, if_false]
          omega
        · rcases List.mem_cons.1 hy with rfl | hy
          · exact hx
          · exact h2 y hy
def Line (b : List UInt8) (a : Nat) (k : List UInt8) (n : Nat) : Prop := lns a [] (b.drop a) = (a, k) :: lns n [] (b.drop n) ∧ a < n ∧ n ≤ b.length ∧ k.length + a ≤ b.length
theorem line_last (b : List UInt8) (a : Nat) (ha : a < b.length) (h : ∀ x ∈ b.drop a, x ≠ 10) : Line b a (b.drop a) b.length := by
  have hd : (b.drop a).length = b.length - a := List.length_drop ..
  refine ⟨?_, ha, Nat.le_refl _, by omega⟩
  rw [lns_last _ a h (by rw [← List.length_pos_iff]; omega), List.drop_length, lns_end]
  rfl
theorem line_more (b k v : List UInt8) (a : Nat) (e : b.drop a = k ++ 10 :: v) (h : ∀ x ∈ k, x ≠ 10) : Line b a ((b.drop a).take k.length) (a + k.length + 1) ∧ (b.drop a).take k.length = k := by
  have hd := congrArg List.length e
  rw [List.length_drop, List.length_append, List.length_cons] at hd
  have e2 : (b.drop a).take k.length = k := by rw [e]; simp
  have e3 : b.drop (a + k.length + 1) = v := by
    rw [show a + k.length + 1 = a + (k.length + 1) by omega, ← List.drop_drop, e]; simp
  refine ⟨⟨?_, by omega, by omega, by rw [e2]; omega⟩, e2⟩
  rw [e2, e3, e, lns_line k v a h]

def wr (l : List (List (List UInt8))) : List UInt8 := l.flatMap fun r => r.flatten ++ [10]
theorem wr_cons (l : List (List (List UInt8))) (r : List (List UInt8)) : wr (r :: l) = r.flatten ++ 10 :: wr l := by simp [wr]
def ok (r : List (List UInt8)) : Bool := match r with
  | [s] => decide (s.length ≤ 1000) && !s.contains 10
  | _ => false
theorem ok_one (s : List UInt8) : ok [s] = (decide (s.length ≤ 1000) && !s.contains 10) := rfl
theorem ok_len {r : List (List UInt8)} (h : r.length ≠ 1) : ok r = false := by
  match r, h with
  | [], _ => rfl
  | [s], h => simp at h
  | _ :: _ :: _, _ => rfl
theorem ok_inv {r : List (List UInt8)} (h : ok r = true) : ∃ s, r = [s] ∧ s.length ≤ 1000 ∧ ∀ x ∈ s, x ≠ 10 := by
  match r, h with
  | [s], h =>
    rw [ok_one] at h
    simp at h
    exact ⟨s, rfl, h.1, fun x hx e => h.2 (e ▸ hx)⟩
theorem contains_ten {s : List UInt8} : s.contains 10 = decide (0 ≤ Lib.indexByte s 10) := by
  rcases idx_cases s with ⟨h1, h2⟩ | ⟨k, v, rfl, h1, h2⟩
  · rw [h1]; simp; intro h; exact h2 10 h rfl
  · rw [h1]; simp
theorem ls_wr : ∀ (l : List (List (List UInt8))) (f : Nat), l.all ok = true → (lns f [] (wr l)).map rc = l
  | [], f, _ => rfl
  | r :: l, f, h => by
    rw [List.all_cons, Bool.and_eq_true] at h
    obtain ⟨s, rfl, _, hs⟩ := ok_inv h.1
    rw [wr_cons]
    simp only [List.flatten_cons, List.flatten_nil, List.append_nil]
    rw [lns_line s _ f hs, List.map_cons, ls_wr l _ h.2]
    rfl
theorem ls_len (b : List UInt8) : (ls b).length ≤ b.length := by
  have key : ∀ (r : List UInt8) (f : Nat) (cur : List UInt8), (lns f cur r).length ≤ r.length + cur.length := by
    intro r
    induction r with
    | nil => intro f cur; rw [lns_end]; cases cur <;> simp
    | cons x r ih => intro f cur; by_cases hx : x = 10
                     · subst hx; rw [lns_ten]; have := ih (f + cur.length + 1) []; simp at this ⊢; omega
                     · rw [lns_go f cur r x hx]; have := ih f (cur ++ [x]); simp at this ⊢; omega
  have := key b 0 []
  simpa [ls] using this
def all (ps : List (Nat × List (List (List UInt8)))) : List (List (List UInt8)) := ps.flatMap (·.2)
theorem all_app (p q : List (Nat × List (List (List UInt8)))) : all (p ++ q) = all p ++ all q := by simp [all]
theorem all_take (ps : List (Nat × List (List (List UInt8)))) (k : Nat) : (all (ps.take k)).length ≤ (all ps).length := by
  have := congrArg List.length (congrArg all (List.take_append_drop k ps))
  rw [all_app, List.length_append] at this
  omega
theorem all_snoc (ps : List (Nat × List (List (List UInt8)))) (k : Nat) (p : Nat × List (List (List UInt8))) (h : ps[k]? = some p) : all (ps.take (k + 1)) = all (ps.take k) ++ p.2 := by
  rw [List.take_add_one, h, all_app]
  simp [all]
theorem all_pc (l : List (Nat × List UInt8)) : all (l.map pc) = l.map rc := by
  induction l with
  | nil => rfl
  | cons p l ih => simp only [all, List.map_cons, List.flatMap_cons] at ih ⊢; rw [ih]; rfl
theorem wr_app (p q : List (List (List UInt8))) : wr (p ++ q) = wr p ++ wr q := by simp [wr]
theorem wr_take (l : List (List (List UInt8))) (k : Nat) : (wr (l.take k)).length ≤ (wr l).length := by
  have := congrArg List.length (congrArg wr (List.take_append_drop k l))
  rw [wr_app, List.length_append] at this
  omega
theorem wr_next (l : List (List (List UInt8))) (k : Nat) (s : List UInt8) (h : l[k]? = some [s]) : wr (l.take (k + 1)) = (wr (l.take k) ++ s) ++ [10] := by
  rw [List.take_add_one, h, wr_app]
  simp [wr]
theorem oks_next (l : List (List (List UInt8))) (k : Nat) (r : List (List UInt8)) (h : l[k]? = some r) (hr : ok r = true) (ha : (l.take k).all ok = true) : (l.take (k + 1)).all ok = true := by
  rw [List.take_add_one, h, List.all_append, ha]
  simp [hr]
theorem oks_not (l : List (List (List UInt8))) (k : Nat) (r : List (List UInt8)) (h : l[k]? = some r) (hr : ok r = false) : l.all ok = false := by
  rw [List.all_eq_false]
  exact ⟨r, List.mem_of_getElem? h, by simp [hr]⟩
def wrS (l : List (List (List UInt8))) : List UInt8 × Nat := if l.all ok then (wr l, 0) else ([], 10)
theorem wrS_ok {l : List (List (List UInt8))} (h : l.all ok = true) : wrS l = (wr l, 0) := if_pos h
theorem wrS_err {l : List (List (List UInt8))} (h : l.all ok = false) : wrS l = ([], 10) := if_neg (by simp [h])
theorem wrS_zero {l : List (List (List UInt8))} (h : (wrS l).2 = 0) : l.all ok = true := by
  by_cases e : l.all ok = true
  · exact e
  · rw [wrS_err (by simpa using e)] at h; cases h
def cut (l : List Int) : Nat → List Int
  | 0 => [0]
  | k + 1 => if l.contains ((k + 1 : Nat) : Int) then cut l k ++ [((k + 1 : Nat) : Int)] else cut l k
def cuts (n : Nat) (l : List Int) : List Int := if 0 < n then cut l (n - 1) ++ [(n : Int)] else cut l 0
end Go.Proofs.YtknmhdkomjjneaaGreatDoor.Tm

/-
  Records of a file of fields between commas, byte by byte: what a record is, which begin between two places. Plain mathematics.
-/
namespace Go.Proofs.YtknmhdkomjjneaaGreatDoor.Csv.Cv

inductive St where
  | bg | un | qu | aq | ar
inductive Out where
  | go (s : St) (r : List (List UInt8)) (f : List UInt8)
  | fin (r : List (List UInt8))
  | bad (e : Nat)
inductive Res where
  | ok (r : List (List UInt8)) (rest : List UInt8)
  | err (e : Nat)

def aF (r : List (List UInt8)) (f : List UInt8) : Option UInt8 → Out
  | none => .fin (r ++ [f])
  | some c => if c = 44 then (if r.length + 1 = 50 then .bad 5 else .go .bg (r ++ [f]) []) else if c = 13 then .go .ar r f else if c = 10 then .fin (r ++ [f]) else .bad 3
def ad (s : St) (r : List (List UInt8)) (f : List UInt8) (c : UInt8) : Out := if f.length = 1000 then .bad 5 else .go s r (f ++ [c])
def unS (r : List (List UInt8)) (f : List UInt8) : Option UInt8 → Out
  | none => aF r f none
  | some c => if c = 44 ∨ c = 34 ∨ c = 10 ∨ c = 13 then aF r f (some c) else ad .un r f c
def quS (r : List (List UInt8)) (f : List UInt8) : Option UInt8 → Out
  | none => .bad 3
  | some c => if c = 34 then .go .aq r f else ad .qu r f c
def aqS (r : List (List UInt8)) (f : List UInt8) : Option UInt8 → Out
  | none => aF r f none
  | some c => if c = 34 then ad .qu r f 34 else aF r f (some c)
def arS (r : List (List UInt8)) (f : List UInt8) : Option UInt8 → Out
  | none => .bad 3
  | some c => if c = 10 then aF r f (some 10) else .bad 3
def bgS (r : List (List UInt8)) (f : List UInt8) : Option UInt8 → Out
  | none => unS r f none
  | some c => if c = 34 then .go .qu r f else unS r f (some c)
def stp : St → List (List UInt8) → List UInt8 → Option UInt8 → Out
  | .bg => bgS
  | .un => unS
  | .qu => quS
  | .aq => aqS
  | .ar => arS
def run : St → List (List UInt8) → List UInt8 → List UInt8 → Res
  | s, r, f, [] => match stp s r f none with
    | .go _ _ _ => .err 3
    | .fin r' => .ok r' []
    | .bad e => .err e
  | s, r, f, c :: l => match stp s r f (some c) with
    | .go s' r' f' => run s' r' f' l
    | .fin r' => .ok r' l
    | .bad e => .err e
abbrev T := List (Nat × List (List UInt8)) × Nat × Nat
def cons3 (x : Nat × List (List UInt8)) (y : T) : T := (x :: y.1, y.2.1, y.2.2)
def recs : Nat → St → List (List UInt8) → List UInt8 → Nat → List UInt8 → T
  | a, s, r, f, p, [] => if a = p then ([], a, 0) else match stp s r f none with
    | .go _ _ _ => ([], a, 3)
    | .fin r' => ([(a, r')], p, 0)
    | .bad e => ([], a, e)
  | a, s, r, f, p, c :: l => match stp s r f (some c) with
    | .go s' r' f' => recs a s' r' f' (p + 1) l
    | .fin r' => cons3 (a, r') (recs (p + 1) .bg [] [] (p + 1) l)
    | .bad e => ([], a, e)
def rs (a : Nat) (l : List UInt8) : T := recs a .bg [] [] a l

theorem run_go {s r f c l s' r' f'} (h : stp s r f (some c) = .go s' r' f') : run s r f (c :: l) = run s' r' f' l := by rw [run, h]
theorem run_fin {s r f c l r'} (h : stp s r f (some c) = .fin r') : run s r f (c :: l) = .ok r' l := by rw [run, h]
theorem run_bad {s r f c l e} (h : stp s r f (some c) = .bad e) : run s r f (c :: l) = .err e := by rw [run, h]
theorem run_none (s r f) : run s r f [] = match stp s r f none with
    | .go _ _ _ => .err 3
    | .fin r' => .ok r' []
    | .bad e => .err e := by rw [run]
theorem recs_go {a s r f p c l s' r' f'} (h : stp s r f (some c) = .go s' r' f') : recs a s r f p (c :: l) = recs a s' r' f' (p + 1) l := by rw [recs, h]
theorem recs_fin {a s r f p c l r'} (h : stp s r f (some c) = .fin r') : recs a s r f p (c :: l) = cons3 (a, r') (rs (p + 1) l) := by rw [recs, h]; rfl
theorem recs_bad {a s r f p c l e} (h : stp s r f (some c) = .bad e) : recs a s r f p (c :: l) = ([], a, e) := by rw [recs, h]

theorem stp_none (s r f) : (∃ e, stp s r f none = .bad e ∧ e = 3) ∨ stp s r f none = .fin (r ++ [f]) := by
  cases s <;> simp [stp, bgS, unS, quS, aqS, arS, aF]
theorem aF_bad {r f c e} (h : aF r f c = .bad e) : e = 3 ∨ e = 5 := by
  cases c with
  | none => simp [aF] at h
  | some c => simp only [aF] at h; (repeat' split at h) <;> simp at h <;> omega
theorem ad_bad {s r f c e} (h : ad s r f c = .bad e) : e = 3 ∨ e = 5 := by
  simp only [ad] at h; split at h <;> simp at h; omega
theorem stp_bad {s r f c e} (h : stp s r f c = .bad e) : e = 3 ∨ e = 5 := by
  cases s <;> cases c <;> simp only [stp, bgS, unS, quS, aqS, arS] at h <;> (repeat' split at h) <;> first | exact aF_bad h | exact ad_bad h | (simp at h; done) | (simp at h; omega)
theorem aF_go {r f c s' r' f'} (h : aF r f (some c) = .go s' r' f') : (c = 44 ∧ s' = .bg ∧ r' = r ++ [f] ∧ r.length + 1 ≠ 50 ∧ f' = []) ∨ (c = 13 ∧ s' = .ar ∧ r' = r ∧ f' = f) := by
  simp only [aF] at h
  split at h
  · split at h
    · cases h
    · injection h with h1 h2 h3; exact .inl ⟨by assumption, h1.symm, h2.symm, by assumption, h3.symm⟩
  · split at h
    · injection h with h1 h2 h3; exact .inr ⟨by assumption, h1.symm, h2.symm, h3.symm⟩
    · split at h <;> cases h
theorem aF_fin {r f c r'} (h : aF r f (some c) = .fin r') : c = 10 ∧ r' = r ++ [f] := by
  simp only [aF] at h
  split at h
  · split at h <;> cases h
  · split at h
    · cases h
    · split at h
      · injection h with h; exact ⟨by assumption, h.symm⟩
      · cases h
theorem ad_go {s r f c s' r' f'} (h : ad s r f c = .go s' r' f') : s' = s ∧ r' = r ∧ f.length ≠ 1000 ∧ f' = f ++ [c] := by
  simp only [ad] at h
  split at h
  · cases h
  · injection h with h1 h2 h3; exact ⟨h1.symm, h2.symm, by assumption, h3.symm⟩
theorem ad_fin {s r f c r'} (h : ad s r f c = .fin r') : False := by
  simp only [ad] at h; split at h <;> cases h
theorem stp_fin {s r f c r'} (h : stp s r f (some c) = .fin r') : c = 10 ∧ s ≠ .qu ∧ r' = r ++ [f] := by
  cases s
  · simp only [stp, bgS, unS] at h
    split at h
    · cases h
    · split at h
      · exact ⟨(aF_fin h).1, by simp, (aF_fin h).2⟩
      · exact (ad_fin h).elim
  · simp only [stp, unS] at h
    split at h
    · exact ⟨(aF_fin h).1, by simp, (aF_fin h).2⟩
    · exact (ad_fin h).elim
  · simp only [stp, quS] at h
    split at h
    · cases h
    · exact (ad_fin h).elim
  · simp only [stp, aqS] at h
    split at h
    · exact (ad_fin h).elim
    · exact ⟨(aF_fin h).1, by simp, (aF_fin h).2⟩
  · simp only [stp, arS] at h
    split at h
    · exact ⟨by assumption, by simp, (aF_fin h).2⟩
    · cases h

theorem run_ok : ∀ {l s r f r' rest}, run s r f l = .ok r' rest → ∃ pre, l = pre ++ rest ∧ (l ≠ [] → pre ≠ []) ∧ (rest = [] ∨ ∀ x, run s r f (pre ++ x) = .ok r' x)
  | [], s, r, f, r', rest, h => by
    rw [run] at h
    split at h
    · cases h
    · injection h with h1 h2; subst h2; exact ⟨[], rfl, fun h => h, .inl rfl⟩
    · cases h
  | c :: l, s, r, f, r', rest, h => by
    rcases e : stp s r f (some c) with ⟨s', r2, f'⟩ | r2 | e'
    · rw [run_go e] at h
      obtain ⟨pre, h1, _, h3⟩ := run_ok h
      refine ⟨c :: pre, by rw [h1]; rfl, fun _ => by simp, h3.imp id fun h x => ?_⟩
      rw [List.cons_append, run_go e]; exact h x
    · rw [run_fin e] at h
      injection h with h1 h2; subst h1; subst h2
      exact ⟨[c], rfl, fun _ => by simp, .inr fun x => run_fin e⟩
    · rw [run_bad e] at h; cases h
theorem run_err : ∀ {l s r f e}, run s r f l = .err e → e = 3 ∨ e = 5
  | [], s, r, f, e, h => by
    rw [run] at h
    rcases stp_none s r f with ⟨e', h1, h2⟩ | h1
    · rw [h1] at h; injection h with h; omega
    · rw [h1] at h; cases h
  | c :: l, s, r, f, e, h => by
    rcases e2 : stp s r f (some c) with ⟨s', r2, f'⟩ | r2 | e'
    · rw [run_go e2] at h; exact run_err h
    · rw [run_fin e2] at h; cases h
    · rw [run_bad e2] at h; injection h with h; exact h ▸ stp_bad e2
theorem recs_ok : ∀ {l a s r f p r' rest}, a ≤ p → (a < p ∨ l ≠ []) → run s r f l = .ok r' rest → recs a s r f p l = cons3 (a, r') (rs (p + (l.length - rest.length)) rest)
  | [], a, s, r, f, p, r', rest, hp, ha, h => by
    rcases ha with ha | ha
    · rw [run] at h
      rw [recs, if_neg (by omega)]
      rcases stp_none s r f with ⟨e', h1, _⟩ | h1
      · rw [h1] at h; cases h
      · rw [h1] at h ⊢; injection h with h2 h3; subst h2; subst h3
        simp [cons3, rs, recs]
    · exact absurd rfl ha
  | c :: l, a, s, r, f, p, r', rest, hp, ha, h => by
    rcases e : stp s r f (some c) with ⟨s', r2, f'⟩ | r2 | e'
    · rw [run_go e] at h
      rw [recs_go e, recs_ok (by omega) (.inl (by omega)) h]
      obtain ⟨pre, h1, _⟩ := run_ok h
      have := congrArg List.length h1
      rw [List.length_append] at this
      rw [List.length_cons, show p + 1 + (l.length - rest.length) = p + (l.length + 1 - rest.length) by omega]
    · rw [run_fin e] at h
      injection h with h1 h2; subst h1; subst h2
      rw [recs_fin e, List.length_cons, show p + (l.length + 1 - l.length) = p + 1 by omega]
    · rw [run_bad e] at h; cases h
theorem recs_err : ∀ {l a s r f p e}, a ≤ p → (a < p ∨ l ≠ []) → run s r f l = .err e → recs a s r f p l = ([], a, e)
  | [], a, s, r, f, p, e, hp, ha, h => by
    rcases ha with ha | ha
    · rw [run] at h
      rw [recs, if_neg (by omega)]
      rcases stp_none s r f with ⟨e', h1, _⟩ | h1
      · rw [h1] at h ⊢; injection h with h; subst h; rfl
      · rw [h1] at h; cases h
    · exact absurd rfl ha
  | c :: l, a, s, r, f, p, e, hp, ha, h => by
    rcases e2 : stp s r f (some c) with ⟨s', r2, f'⟩ | r2 | e'
    · rw [run_go e2] at h
      rw [recs_go e2, recs_err (by omega) (.inl (by omega)) h]
    · rw [run_fin e2] at h; cases h
    · rw [run_bad e2] at h; injection h with h; subst h; exact recs_bad e2
theorem rs_nil (a : Nat) : rs a [] = ([], a, 0) := by simp [rs, recs]
theorem rs_ok {a l r rest} (hl : l ≠ []) (h : run .bg [] [] l = .ok r rest) : rs a l = cons3 (a, r) (rs (a + (l.length - rest.length)) rest) := recs_ok (Nat.le_refl _) (.inr hl) h
theorem rs_err {a l e} (hl : l ≠ []) (h : run .bg [] [] l = .err e) : rs a l = ([], a, e) := recs_err (Nat.le_refl _) (.inr hl) h

theorem recs_len : ∀ {l a s r f p}, a ≤ p → (recs a s r f p l).1.length ≤ l.length + (if a = p then 0 else 1)
  | [], a, s, r, f, p, ha => by
    rw [recs]
    split
    · simp
    · split <;> simp
  | c :: l, a, s, r, f, p, ha => by
    rw [List.length_cons]
    rcases e : stp s r f (some c) with ⟨s', r2, f'⟩ | r2 | e'
    · rw [recs_go e]
      have := @recs_len l a s' r2 f' (p + 1) (by omega)
      rw [if_neg (by omega)] at this
      omega
    · rw [recs_fin e]
      have := @recs_len l (p + 1) .bg [] [] (p + 1) (Nat.le_refl _)
      rw [if_pos rfl] at this
      show ((rs (p + 1) l).1.length + 1) ≤ _
      unfold rs; omega
    · rw [recs_bad e]; simp
theorem rs_len (a : Nat) (l : List UInt8) : (rs a l).1.length ≤ l.length := by
  have := @recs_len l a .bg [] [] a (Nat.le_refl _)
  rw [if_pos rfl] at this
  exact this

def odd (l : List UInt8) : Bool := l.count 34 % 2 == 1
theorem odd_nil : odd [] = false := rfl
end Go.Proofs.YtknmhdkomjjneaaGreatDoor.Csv.Cv

/-
  Files of records of one width: what they are, which lie between two places, what is written of them; texts cut by widths. Plain mathematics.
-/

namespace Go.Proofs.YtknmhdkomjjneaaGreatDoor.Fix.Fx
open Go.Proofs.YtknmhdkomjjneaaGreatDoor

def seg (b : List UInt8) (k i : Nat) : List UInt8 := (b.take (i * k + k)).drop (i * k)
def pi (b : List UInt8) (k i : Nat) : Nat × List UInt8 := (i * k, seg b k i)
def rs (b : List UInt8) (k s e : Nat) : List (Nat × List UInt8) := (List.range' s (e - s)).map (pi b k)
def ch (b : List UInt8) (k : Nat) : List (Nat × List UInt8) := rs b k 0 (b.length / k)
theorem rs_len (b : List UInt8) (k s e : Nat) : (rs b k s e).length = e - s := by simp [rs]
theorem rs_nil (b : List UInt8) (k s e : Nat) (h : e ≤ s) : rs b k s e = [] := by
  apply List.eq_nil_of_length_eq_zero
  rw [rs_len]; omega
theorem rs_snoc (b : List UInt8) (k s e : Nat) (h : s ≤ e) : rs b k s (e + 1) = rs b k s e ++ [pi b k e] := by
  unfold rs
  rw [show e + 1 - s = (e - s) + 1 by omega, List.range'_1_concat, List.map_append]
  simp; congr 1; omega
theorem rs_at (b : List UInt8) (k s e i : Nat) (h : s + i < e) : (rs b k s e)[i]? = some (pi b k (s + i)) := by
  unfold rs
  rw [List.getElem?_map, List.getElem?_range' (by omega)]
  simp
theorem ch_len (b : List UInt8) (k : Nat) : (ch b k).length = b.length / k := by rw [ch, rs_len, Nat.sub_zero]
theorem ch_at (b : List UInt8) (k i : Nat) (h : i < b.length / k) : (ch b k)[i]? = some (pi b k i) := by
  have := rs_at b k 0 (b.length / k) i (by omega)
  rwa [Nat.zero_add] at this
theorem vs_eq (n k : Nat) : n - n % k = n / k * k := by have := Nat.div_add_mod n k; have := Nat.mul_comm k (n / k); omega
theorem vs_le (n k : Nat) : n / k * k ≤ n := Nat.div_mul_le_self n k
theorem lt_vs (n k i : Nat) (hk : 1 ≤ k) : i * k < n / k * k ↔ i < n / k := by
  constructor
  · intro h; exact Nat.lt_of_mul_lt_mul_right h
  · intro h; exact (Nat.mul_lt_mul_right hk).2 h
theorem le_vs (n k i : Nat) (hk : 1 ≤ k) : i * k + k ≤ n ↔ i < n / k := by
  have h := Nat.le_div_iff_mul_le (x := i + 1) (y := n) hk
  rw [Nat.succ_mul] at h
  omega
def ok (k : Nat) : List (List UInt8) → Bool
  | [s] => s.length == k
  | _ => false
theorem ok_inv {k : Nat} {r : List (List UInt8)} (h : ok k r = true) : ∃ s, r = [s] ∧ s.length = k := by
  match r, h with
  | [s], h => exact ⟨s, rfl, by simpa [ok] using h⟩
theorem ok_len {k : Nat} {r : List (List UInt8)} (h : r.length ≠ 1) : ok k r = false := by
  match r, h with
  | [], _ => rfl
  | [_], h => exact absurd rfl h
  | _ :: _ :: _, _ => rfl
theorem ok_one (k : Nat) (s : List UInt8) : ok k [s] = decide (s.length = k) := by simp [ok]; rfl
def wr (l : List (List (List UInt8))) : List UInt8 := l.flatMap fun r => r.flatten
theorem wr_app (p q : List (List (List UInt8))) : wr (p ++ q) = wr p ++ wr q := by simp [wr]
theorem wr_take (l : List (List (List UInt8))) (k : Nat) : (wr (l.take k)).length ≤ (wr l).length := by
  have := congrArg List.length (congrArg wr (List.take_append_drop k l))
  rw [wr_app, List.length_append] at this
  omega
theorem wr_next (l : List (List (List UInt8))) (k : Nat) (s : List UInt8) (h : l[k]? = some [s]) : wr (l.take (k + 1)) = wr (l.take k) ++ s := by
  rw [List.take_add_one, h, wr_app]
  simp [wr]
theorem oks_next (w : Nat) (l : List (List (List UInt8))) (k : Nat) (r : List (List UInt8)) (h : l[k]? = some r) (hr : ok w r = true) (ha : (l.take k).all (ok w) = true) : (l.take (k + 1)).all (ok w) = true := by
  rw [List.take_add_one, h, List.all_append, ha]
  simp [hr]
theorem oks_not (w : Nat) (l : List (List (List UInt8))) (k : Nat) (r : List (List UInt8)) (h : l[k]? = some r) (hr : ok w r = false) : l.all (ok w) = false := by
  rw [List.all_eq_false]
  exact ⟨r, List.mem_of_getElem? h, by simp [hr]⟩
def wrS (w : Nat) (l : List (List (List UInt8))) : List UInt8 × Nat := if l.all (ok w) then (wr l, 0) else ([], 10)
theorem wrS_ok {w : Nat} {l : List (List (List UInt8))} (h : l.all (ok w) = true) : wrS w l = (wr l, 0) := if_pos h
theorem wrS_err {w : Nat} {l : List (List (List UInt8))} (h : l.all (ok w) = false) : wrS w l = ([], 10) := if_neg (by simp [h])
theorem wrS_zero {w : Nat} {l : List (List (List UInt8))} (h : (wrS w l).2 = 0) : l.all (ok w) = true := by
  by_cases e : l.all (ok w) = true
  · exact e
  · rw [wrS_err (by simpa using e)] at h; cases h

theorem wr_len (k : Nat) : ∀ l : List (List (List UInt8)), l.all (ok k) = true → (wr l).length = l.length * k
  | [], _ => by simp [wr]
  | r :: l, h => by
    rw [List.all_cons, Bool.and_eq_true] at h
    obtain ⟨s, rfl, hs⟩ := ok_inv h.1
    have ih := wr_len k l h.2
    simp only [wr, List.flatMap_cons, List.length_append, List.length_cons] at ih ⊢
    rw [ih, Nat.succ_mul]
    simp [hs]; omega
theorem ch_wr (k : Nat) (hk : 1 ≤ k) (l : List (List (List UInt8))) (h : l.all (ok k) = true) : (ch (wr l) k).map Tm.rc = l := by
  have hlen := wr_len k l h
  have hdiv : (wr l).length / k = l.length := by rw [hlen, Nat.mul_div_cancel _ hk]
  apply List.ext_getElem?
  intro i
  rw [List.getElem?_map]
  by_cases hi : i < l.length
  · rw [ch_at _ _ _ (by rw [hdiv]; exact hi)]
    have hall := List.all_eq_true.1 h
    obtain ⟨s, hs, hsl⟩ := ok_inv (hall l[i] (List.getElem_mem hi))
    have hg : l[i]? = some [s] := by rw [List.getElem?_eq_getElem hi, hs]
    have ht := wr_len k (l.take i) (by rw [List.all_eq_true]; exact fun r hr => hall r (List.mem_of_mem_take hr))
    have hn := wr_next l i s hg
    rw [List.length_take, Nat.min_eq_left (Nat.le_of_lt hi)] at ht
    have e1 : wr l = (wr (l.take i) ++ s) ++ wr (l.drop (i + 1)) := by rw [← hn, ← wr_app, List.take_append_drop]
    rw [hg]
    simp only [Option.map_some, Tm.rc, pi]
    congr 2
    unfold seg
    rw [e1, List.take_left' (by rw [List.length_append, ht, hsl]), List.drop_left' ht]
  · rw [List.getElem?_eq_none (by rw [ch_len, hdiv]; omega), List.getElem?_eq_none (by omega)]
    rfl
end Go.Proofs.YtknmhdkomjjneaaGreatDoor.Fix.Fx

/-
  Files of compressed blocks with an index: what the index says, which blocks are right, which records lie between two places. Plain mathematics.
-/

set_option maxRecDepth 100000
namespace Go.Proofs.YtknmhdkomjjneaaGreatDoor.Cht.Hm

abbrev R := List (List UInt8)

def num (lo hi : Nat) (l : List UInt8) : Option (Nat × List UInt8) :=
  if (Vm.tk l).2.2 = 0 ∧ lo ≤ (Vm.tk l).1 ∧ (Vm.tk l).1 ≤ hi then some ((Vm.tk l).1, l.drop (Vm.tk l).2.1) else none
theorem num_ok {lo hi a s : Nat} {l : List UInt8} (h : Vm.tk l = (a, s, 0)) (h1 : lo ≤ a) (h2 : a ≤ hi) : num lo hi l = some (a, l.drop s) := by
  unfold num; rw [h]; simp [h1, h2]
theorem num_out {lo hi a s : Nat} {l : List UInt8} (h : Vm.tk l = (a, s, 0)) (h1 : ¬ (lo ≤ a ∧ a ≤ hi)) : num lo hi l = none := by
  unfold num; rw [h]; simp only [true_and]; rw [if_neg h1]
theorem num_err {lo hi a s x : Nat} {l : List UInt8} (h : Vm.tk l = (a, s, x)) (hx : x ≠ 0) : num lo hi l = none := by
  unfold num; rw [h]; simp [hx]
theorem num_inv {lo hi : Nat} {l : List UInt8} {p : Nat × List UInt8} (h : num lo hi l = some p) : ∃ s, Vm.tk l = (p.1, s, 0) ∧ p.2 = l.drop s ∧ lo ≤ p.1 ∧ p.1 ≤ hi ∧ s ≤ l.length ∧ 1 ≤ s := by
  unfold num at h
  split at h
  · rename_i hc
    injection h with h
    subst h
    have h1 := (Vm.tk_size l).1
    have h2 := Pm.tk_pos l hc.1
    refine ⟨(Vm.tk l).2.1, ?_, rfl, hc.2.1, hc.2.2, h1, h2⟩
    rw [← hc.1]
  · cases h
theorem num_vb {lo hi n : Nat} (r : List UInt8) (h1 : lo ≤ n) (h2 : n ≤ hi) (h3 : hi < 18446744073709551616) : num lo hi (Vm.vb n ++ r) = some (n, r) := by
  have e := num_ok (lo := lo) (Vm.tk_back n r (by omega)) h1 h2
  rwa [List.drop_left' rfl] at e
def ent1 (l : List UInt8) : Option ((Nat × Nat) × List UInt8) := (num 1 20000 l).bind fun p => (num 1 5000 p.2).map fun q => ((p.1, q.1), q.2)
def ents : Nat → List UInt8 → Option (List (Nat × Nat) × List UInt8)
  | 0, l => some ([], l)
  | k + 1, l => (ent1 l).bind fun p => (ents k p.2).map fun q => (p.1 :: q.1, q.2)
theorem ent1_none1 {l : List UInt8} (h : num 1 20000 l = none) : ent1 l = none := by unfold ent1; rw [h]; rfl
theorem ent1_none2 {l r : List UInt8} {a : Nat} (h : num 1 20000 l = some (a, r)) (h2 : num 1 5000 r = none) : ent1 l = none := by unfold ent1; rw [h, Option.bind_some, h2]; rfl
theorem ent1_ok {l r t : List UInt8} {a b : Nat} (h : num 1 20000 l = some (a, r)) (h2 : num 1 5000 r = some (b, t)) : ent1 l = some ((a, b), t) := by unfold ent1; rw [h, Option.bind_some, h2]; rfl
def tot (L : List (Nat × Nat)) : Nat := (L.map (·.1)).sum
theorem tot_cons (x : Nat × Nat) (L : List (Nat × Nat)) : tot (x :: L) = x.1 + tot L := by simp [tot]
theorem tot_app (L M : List (Nat × Nat)) : tot (L ++ M) = tot L + tot M := by simp [tot]
theorem tot_nil : tot [] = 0 := rfl
def idx (l : List UInt8) (m : Nat) : Option (List (Nat × Nat)) :=
  (num 0 5000 l).bind fun p => (ents p.1 p.2).bind fun q => if q.2 = [] ∧ tot q.1 = m then some q.1 else none
def val4 : List UInt8 → Nat
  | [] => 0
  | x :: r => x.toNat + 256 * val4 r
def opn (l : List UInt8) : Option (List UInt8) := if (Cm.openS Cm.tab l).2 = 0 then some (Cm.openS Cm.tab l).1 else none
theorem opn_ok {l o : List UInt8} (h : Cm.openS Cm.tab l = (o, 0)) : opn l = some o := by unfold opn; rw [h]; rfl
theorem opn_no {l o : List UInt8} {x : Nat} (h : Cm.openS Cm.tab l = (o, x)) (hx : x ≠ 0) : opn l = none := by unfold opn; rw [h]; simp [hx]
theorem opn_inv {l o : List UInt8} (h : opn l = some o) : Cm.openS Cm.tab l = (o, 0) := by
  unfold opn at h
  split at h
  · rename_i h0
    injection h with h
    rw [← h, ← h0]
  · cases h
theorem opn_len {l o : List UInt8} (h : opn l = some o) : o.length ≤ l.length := by
  have h1 := opn_inv h
  unfold Cm.openS at h1
  split at h1
  · split at h1
    · cases h1
    · split at h1
      · injection h1 with h1 _
        rw [← h1, List.length_take]; omega
      · cases h1
  · cases h1
def tl : List UInt8 := [67, 72, 83, 84]
def ix (b : List UInt8) : Option (List (Nat × Nat)) :=
  if b.length < 8 then none
  else if b.drop (b.length - 4) = tl then
    if val4 ((b.drop (b.length - 8)).take 4) ≤ b.length - 8 then
      (opn ((b.take (b.length - 8)).drop (b.length - 8 - val4 ((b.drop (b.length - 8)).take 4)))).bind fun i => idx i (b.length - 8 - val4 ((b.drop (b.length - 8)).take 4))
    else none
  else none
theorem ents_mem : ∀ (k : Nat) (l : List UInt8) (p : List (Nat × Nat) × List UInt8), ents k l = some p → p.1.length = k ∧ ∀ x ∈ p.1, 1 ≤ x.1 ∧ x.1 ≤ 20000 ∧ 1 ≤ x.2 ∧ x.2 ≤ 5000
  | 0, l, p, h => by
    unfold ents at h
    injection h with h
    subst h
    exact ⟨rfl, fun x hx => by cases hx⟩
  | k + 1, l, p, h => by
    simp only [ents] at h
    obtain ⟨q, hq, h⟩ := Option.bind_eq_some_iff.1 h
    obtain ⟨t, ht, rfl⟩ := Option.map_eq_some_iff.1 h
    obtain ⟨h1, h2⟩ := ents_mem k q.2 t ht
    obtain ⟨u, hu, h3⟩ := Option.bind_eq_some_iff.1 hq
    obtain ⟨v, hv, rfl⟩ := Option.map_eq_some_iff.1 h3
    obtain ⟨_, _, _, a1, a2, _⟩ := num_inv hu
    obtain ⟨_, _, _, b1, b2, _⟩ := num_inv hv
    refine ⟨by simp [h1], fun x hx => ?_⟩
    rcases List.mem_cons.1 hx with rfl | hx
    · exact ⟨a1, a2, b1, b2⟩
    · exact h2 x hx
def Oks (L : List (Nat × Nat)) : Prop := ∀ x ∈ L, 1 ≤ x.1 ∧ x.1 ≤ 20000 ∧ 1 ≤ x.2 ∧ x.2 ≤ 5000
theorem idx_inv {l : List UInt8} {m : Nat} {L : List (Nat × Nat)} (h : idx l m = some L) : L.length ≤ 5000 ∧ tot L = m ∧ Oks L := by
  unfold idx at h
  obtain ⟨p, hp, h⟩ := Option.bind_eq_some_iff.1 h
  obtain ⟨q, hq, h⟩ := Option.bind_eq_some_iff.1 h
  obtain ⟨_, _, _, _, h5, _⟩ := num_inv hp
  obtain ⟨h1, h2⟩ := ents_mem _ _ _ hq
  split at h
  · rename_i hc
    injection h with h
    subst h
    exact ⟨by omega, hc.2, h2⟩
  · cases h
theorem ix_inv {b : List UInt8} {L : List (Nat × Nat)} (h : ix b = some L) : L.length ≤ 5000 ∧ tot L + 8 ≤ b.length ∧ Oks L := by
  unfold ix at h
  split at h
  · cases h
  · split at h
    · split at h
      · obtain ⟨i, hi, h⟩ := Option.bind_eq_some_iff.1 h
        obtain ⟨h1, h2, h3⟩ := idx_inv h
        exact ⟨h1, by omega, h3⟩
      · cases h
    · cases h
def plc : Nat → List (Nat × Nat) → List (Nat × Nat × Nat)
  | _, [] => []
  | at_, x :: L => (at_, x.1, x.2) :: plc (at_ + x.1) L
theorem plc_len : ∀ (at_ : Nat) (L : List (Nat × Nat)), (plc at_ L).length = L.length
  | _, [] => rfl
  | at_, x :: L => by simp [plc, plc_len]
theorem plc_mem : ∀ (L : List (Nat × Nat)) (at_ : Nat), Oks L → ∀ x ∈ plc at_ L, at_ ≤ x.1 ∧ x.1 + x.2.1 ≤ at_ + tot L ∧ 1 ≤ x.2.1 ∧ x.2.1 ≤ 20000 ∧ 1 ≤ x.2.2 ∧ x.2.2 ≤ 5000
  | [], at_, _, x, h => by cases h
  | y :: L, at_, hok, x, h => by
    rw [plc] at h
    rw [tot_cons]
    have h1 := hok y (List.mem_cons_self ..)
    rcases List.mem_cons.1 h with rfl | h
    · exact ⟨Nat.le_refl _, by dsimp only; omega, h1⟩
    · obtain ⟨a, b, c⟩ := plc_mem L (at_ + y.1) (fun z hz => hok z (List.mem_cons_of_mem _ hz)) x h
      exact ⟨by omega, by omega, c⟩
def blk (l : List UInt8) (k : Nat) : Option (List R) :=
  (opn l).bind fun p => if (Pm.expS p 20000).2.2.2 = 0 then (match Fm.dec (Pm.expS p 20000).1 with
    | .ok L => if L.length = k then some L else none
    | .error _ => none) else none
def val (b : List UInt8) (x : Nat × Nat × Nat) : Option (List R) := blk ((b.take (x.1 + x.2.1)).drop x.1) x.2.2
def sc (b : List UInt8) : List (Nat × Nat × Nat) → List (Nat × List R) × Option Nat
  | [] => ([], none)
  | x :: t => match val b x with
    | none => ([], some x.1)
    | some r => ((x.1, r) :: (sc b t).1, (sc b t).2)
theorem sc_none {b : List UInt8} {x : Nat × Nat × Nat} {t : List (Nat × Nat × Nat)} (h : val b x = none) : sc b (x :: t) = ([], some x.1) := by simp only [sc, h]
theorem sc_some {b : List UInt8} {x : Nat × Nat × Nat} {t : List (Nat × Nat × Nat)} {r : List R} (h : val b x = some r) : sc b (x :: t) = ((x.1, r) :: (sc b t).1, (sc b t).2) := by simp only [sc, h]
def scO : Option (List (Nat × Nat)) → List UInt8 → List (Nat × List R) × Nat × Nat
  | none, _ => ([], 0, 3)
  | some L, b => ((sc b (plc 0 L)).1, (sc b (plc 0 L)).2.getD b.length, if (sc b (plc 0 L)).2.isSome then 3 else 0)
def scS (b : List UInt8) : List (Nat × List R) × Nat × Nat := scO (ix b) b
end Go.Proofs.YtknmhdkomjjneaaGreatDoor.Cht.Hm

/-
  Records of a file between two places, found from a place on with the number of quotes ahead. Plain mathematics.
-/

namespace Go.Proofs.YtknmhdkomjjneaaGreatDoor.Csv.Cv

def Few50 (r : List (List UInt8)) : Prop := 1 ≤ r.length ∧ r.length ≤ 50 ∧ ∀ x ∈ r, x.length ≤ 1000
theorem few_snoc {r : List (List UInt8)} {f : List UInt8} (h : r.length < 50) (hr : ∀ x ∈ r, x.length ≤ 1000) (hf : f.length ≤ 1000) : Few50 (r ++ [f]) := by
  refine ⟨by simp, by simp; omega, fun x hx => ?_⟩
  rcases List.mem_append.1 hx with hx | hx
  · exact hr x hx
  · simp at hx; subst hx; exact hf
theorem stp_small {s r f c s' r' f'} (h : stp s r f (some c) = .go s' r' f') (h1 : r.length < 50) (h2 : ∀ x ∈ r, x.length ≤ 1000) (h3 : f.length ≤ 1000) : r'.length < 50 ∧ (∀ x ∈ r', x.length ≤ 1000) ∧ f'.length ≤ 1000 := by
  have ka : ∀ {c s' r' f'}, aF r f (some c) = .go s' r' f' → r'.length < 50 ∧ (∀ x ∈ r', x.length ≤ 1000) ∧ f'.length ≤ 1000 := fun h => by
    rcases aF_go h with ⟨_, _, rfl, h4, rfl⟩ | ⟨_, _, rfl, rfl⟩
    · exact ⟨by simp; omega, (few_snoc h1 h2 h3).2.2, by simp⟩
    · exact ⟨h1, h2, h3⟩
  have kd : ∀ {s c s' r' f'}, ad s r f c = .go s' r' f' → r'.length < 50 ∧ (∀ x ∈ r', x.length ≤ 1000) ∧ f'.length ≤ 1000 := fun h => by
    obtain ⟨_, rfl, h4, rfl⟩ := ad_go h
    exact ⟨h1, h2, by simp; omega⟩
  have kg : ∀ {t s' r' f'}, Out.go t r f = .go s' r' f' → r'.length < 50 ∧ (∀ x ∈ r', x.length ≤ 1000) ∧ f'.length ≤ 1000 := fun h => by
    injection h with _ h4 h5; subst h4; subst h5; exact ⟨h1, h2, h3⟩
  cases s <;> simp only [stp, bgS, unS, quS, aqS, arS] at h <;> (repeat' split at h) <;> first | exact ka h | exact kd h | exact kg h | cases h
theorem run_few : ∀ {l s r f r' rest}, r.length < 50 → (∀ x ∈ r, x.length ≤ 1000) → f.length ≤ 1000 → run s r f l = .ok r' rest → Few50 r'
  | [], s, r, f, r', rest, h1, h2, h3, h => by
    rw [run] at h
    rcases stp_none s r f with ⟨e', h4, _⟩ | h4
    · rw [h4] at h; cases h
    · rw [h4] at h; injection h with h5 h6; subst h5; exact few_snoc h1 h2 h3
  | c :: l, s, r, f, r', rest, h1, h2, h3, h => by
    rcases e : stp s r f (some c) with ⟨s', r2, f'⟩ | r2 | e'
    · rw [run_go e] at h
      obtain ⟨g1, g2, g3⟩ := stp_small e h1 h2 h3
      exact run_few g1 g2 g3 h
    · rw [run_fin e] at h
      injection h with h5 h6; subst h5
      rw [(stp_fin e).2.2]; exact few_snoc h1 h2 h3
    · rw [run_bad e] at h; cases h
theorem run_few0 {l r rest} (h : run .bg [] [] l = .ok r rest) : Few50 r := run_few (by simp) (by simp) (by simp) h
theorem run_rest {s r f l r' rest} (h : run s r f l = .ok r' rest) : rest = l.drop (l.length - rest.length) ∧ rest.length ≤ l.length ∧ (l ≠ [] → rest.length < l.length) := by
  obtain ⟨pre, rfl, h2, _⟩ := run_ok h
  rw [List.length_append]
  refine ⟨by rw [show pre.length + rest.length - rest.length = pre.length by omega]; simp, by omega, fun h => ?_⟩
  have := List.length_pos_iff.2 (h2 h)
  omega
theorem rs_step (l : List UInt8) (a : Nat) (ha : a < l.length) : (∃ r m, run .bg [] [] (l.drop a) = .ok r (l.drop m) ∧ a < m ∧ m ≤ l.length ∧ rs a (l.drop a) = cons3 (a, r) (rs m (l.drop m)) ∧ (l.drop a).length - (l.drop m).length = m - a ∧ Few50 r) ∨ ∃ k, run .bg [] [] (l.drop a) = .err k ∧ rs a (l.drop a) = ([], a, k) ∧ (k = 3 ∨ k = 5) := by
  have hne : l.drop a ≠ [] := by rw [← List.length_pos_iff, List.length_drop]; omega
  rcases e : run .bg [] [] (l.drop a) with ⟨r, rest⟩ | e'
  · have e2 := rs_ok (a := a) hne e
    obtain ⟨h1, h2, h3⟩ := run_rest e
    have h3 := h3 hne
    have h4 : (l.drop a).length = l.length - a := List.length_drop ..
    have h5 : rest = l.drop (a + ((l.drop a).length - rest.length)) := by rw [← List.drop_drop]; exact h1
    refine .inl ⟨r, a + ((l.drop a).length - rest.length), by rw [← h5], by omega, by omega, by rw [← h5]; exact e2, by rw [← h5]; omega, run_few0 e⟩
  · exact .inr ⟨e', rfl, rs_err hne e, run_err e⟩

def V (v : List UInt8) (a : Nat) : Prop := (rs a (v.drop a)).2.2 = 0
def ls (b : List UInt8) : List (Nat × List (List UInt8)) := (rs 0 b).1
def good (b : List UInt8) : Nat := (rs 0 b).2.1
def er (b : List UInt8) : Nat := (rs 0 b).2.2
theorem ls_len (b : List UInt8) : (ls b).length ≤ b.length := rs_len 0 b
def pc (p : Nat × List (List UInt8)) : Nat × List (List (List UInt8)) := (p.1, [p.2])
theorem all_pc (l : List (Nat × List (List UInt8))) : Tm.all (l.map pc) = l.map (·.2) := by
  induction l with
  | nil => rfl
  | cons p l ih => simp only [Tm.all, List.map_cons, List.flatMap_cons] at ih ⊢; rw [ih]; rfl
end Go.Proofs.YtknmhdkomjjneaaGreatDoor.Csv.Cv

/-
  A record field by field: what the document's plain, quoted and record come to, in the words of Cv. Plain mathematics.
-/

namespace Go.Proofs.YtknmhdkomjjneaaGreatDoor.Csv.Cv

def En : List UInt8 → Nat
  | [] => 0
  | c :: t => if c = 10 then 1 else if c = 13 ∧ t.head? = some 10 then 2 else 0
theorem En_ten (t : List UInt8) : En (10 :: t) = 1 := rfl
theorem En_other {c : UInt8} {t : List UInt8} (h : c ≠ 10) (h2 : c ≠ 13) : En (c :: t) = 0 := by simp [En, h, h2]
theorem En_lone {t : List UInt8} (h : t.head? ≠ some 10) : En (13 :: t) = 0 := by simp [En, h]
theorem En_cases (m : List UInt8) : (En m = 0 ∧ ∀ t, m ≠ 10 :: t ∧ m ≠ 13 :: 10 :: t) ∨ (En m = 1 ∧ ∃ t, m = 10 :: t) ∨ (En m = 2 ∧ ∃ t, m = 13 :: 10 :: t) := by
  match m with
  | [] => exact .inl ⟨rfl, fun t => ⟨by simp, by simp⟩⟩
  | c :: t =>
    by_cases h : c = 10
    · subst h; exact .inr (.inl ⟨rfl, t, rfl⟩)
    · by_cases h2 : c = 13
      · subst h2
        match t with
        | [] => exact .inl ⟨rfl, fun t => ⟨by simp, by simp⟩⟩
        | d :: t =>
          by_cases h3 : d = 10
          · subst h3; exact .inr (.inr ⟨rfl, t, rfl⟩)
          · exact .inl ⟨En_lone (by simpa using h3), fun t => ⟨by simp, by simp [h3]⟩⟩
      · exact .inl ⟨En_other h h2, fun t => ⟨by simp [h], by simp [h2]⟩⟩
def Stop (m : List UInt8) : Prop := m = [] ∨ (∃ t, m = 44 :: t) ∨ En m ≠ 0

theorem run_end {st : St} {r f m} (h : st = .un ∨ st = .aq) (hm : m = [] ∨ En m ≠ 0) : run st r f m = .ok (r ++ [f]) (m.drop (En m)) := by
  rcases hm with rfl | hm
  · rw [run_none]
    rcases h with rfl | rfl <;> rfl
  · rcases En_cases m with ⟨h1, _⟩ | ⟨h1, t, rfl⟩ | ⟨h1, t, rfl⟩
    · exact absurd h1 hm
    · rw [h1]
      have e : stp st r f (some 10) = .fin (r ++ [f]) := by rcases h with rfl | rfl <;> simp [stp, unS, aqS, aF]
      rw [run_fin e]; rfl
    · rw [h1]
      have e : stp st r f (some 13) = .go .ar r f := by rcases h with rfl | rfl <;> simp [stp, unS, aqS, aF]
      rw [run_go e, run_fin (show stp .ar r f (some 10) = .fin (r ++ [f]) by simp [stp, arS, aF])]; rfl
theorem run_comma {st : St} {r f t} (h : st = .un ∨ st = .aq) : run st r f (44 :: t) = if r.length + 1 = 50 then .err 5 else run .bg (r ++ [f]) [] t := by
  by_cases h50 : r.length + 1 = 50
  · rw [if_pos h50]
    exact run_bad (by rcases h with rfl | rfl <;> simp [stp, unS, aqS, aF, h50])
  · rw [if_neg h50]
    exact run_go (by rcases h with rfl | rfl <;> simp [stp, unS, aqS, aF, h50])
theorem run_bg_un {r m} (h : ∀ t, m ≠ 34 :: t) : run .bg r [] m = run .un r [] m := by
  match m with
  | [] => rw [run_none, run_none]; rfl
  | c :: t =>
    have hc : c ≠ 34 := fun e => h t (by rw [e])
    have e : stp .bg r [] (some c) = stp .un r [] (some c) := by simp [stp, bgS, hc]
    rw [run, run, e]
theorem run_bg_qu {r t} : run .bg r [] (34 :: t) = run .qu r [] t := run_go (by simp [stp, bgS])
theorem ne_ten {c : UInt8} {t : List UInt8} (hE : En (c :: t) = 0) : c ≠ 10 := fun e => by subst e; simp [En] at hE
theorem un_go {r f c t} (h44 : c ≠ 44) (hE : En (c :: t) = 0) (h34 : c ≠ 34) (h13 : c ≠ 13) (hf : f.length ≠ 1000) : run .un r f (c :: t) = run .un r (f ++ [c]) t :=
  run_go (by simp [stp, unS, ad, h44, h34, h13, ne_ten hE, hf])
theorem qu_go {r f c t} (h34 : c ≠ 34) (hf : f.length ≠ 1000) : run .qu r f (c :: t) = run .qu r (f ++ [c]) t := run_go (by simp [stp, quS, ad, h34, hf])
theorem qu_aq {r f t} : run .qu r f (34 :: t) = run .aq r f t := run_go (by simp [stp, quS])
theorem aq_go {r f t} (hf : f.length ≠ 1000) : run .aq r f (34 :: t) = run .qu r (f ++ [34]) t := run_go (by simp [stp, aqS, ad, hf])
end Go.Proofs.YtknmhdkomjjneaaGreatDoor.Csv.Cv
