import Derived.Lib.Bytealg
import Derived.Test.YtkekmokdlgocaaaGreatDoorJW3
set_option maxRecDepth 100000
set_option maxHeartbeats 4000000
namespace Go.Proofs.YtkekmokdlgocaaaGreatDoor.Tm
def lns : Nat → List UInt8 → List UInt8 → List (Nat × List UInt8)
 | f, cur, [] => if cur.isEmpty then [] else [(f, cur)]
 | f, cur, x :: r => if x = 10 then (f, cur) :: lns (f + cur.length + 1) [] r else lns f (cur ++ [x]) r
def ls (b : List UInt8) : List (Nat × List UInt8) := lns 0 [] b
def rc (p : Nat × List UInt8) : List (List UInt8) := [p.2]
def pc (p : Nat × List UInt8) : Nat × List (List (List UInt8)) := (p.1, [[p.2]])
theorem lns_end (f : Nat) (cur : List UInt8) : lns f cur [] = if cur.isEmpty then [] else [(f, cur)] := rfl
theorem lns_ten (f : Nat) (cur r : List UInt8) : lns f cur (10 :: r) = (f, cur) :: lns (f + cur.length + 1) [] r := by rw [lns, if_pos rfl]
theorem lns_go (f : Nat) (cur r : List UInt8) (x : UInt8) (h : x ≠ 10) : lns f cur (x :: r) = lns f (cur ++ [x]) r := by rw [lns, if_neg h]
theorem lns_run : ∀ (k : List UInt8) (f : Nat) (cur r : List UInt8), (∀ x ∈ k, x ≠ 10) → lns f cur (k ++ r) = lns f (cur ++ k) r
 | [], f, cur, r, _ => by simp
 | x :: k, f, cur, r, h => by
  rw [List.cons_append, lns_go f cur _ x (h x (List.mem_cons_self ..)), lns_run k f _ r (fun y hy => h y (List.mem_cons_of_mem _ hy))]
  simp
theorem lns_line (k v : List UInt8) (f : Nat) (h : ∀ x ∈ k, x ≠ 10) : lns f [] (k ++ 10 :: v) = (f, k) :: lns (f + k.length + 1) [] v := by
 rw [lns_run k f [] _ h, List.nil_append, lns_ten]
theorem lns_last (k : List UInt8) (f : Nat) (h : ∀ x ∈ k, x ≠ 10) (hk : k ≠ []) : lns f [] k = [(f, k)] := by
 have := lns_run k f [] [] h
 rw [List.append_nil] at this
 rw [this, List.nil_append, lns_end]
 cases k with
 | nil => exact absurd rfl hk
 | cons x k => rfl
theorem lns_place : ∀ (r : List UInt8) (f : Nat) (cur : List UInt8) (p : Nat × List UInt8), p ∈ lns f cur r →
  p.1 < f + cur.length + r.length ∧ (p.1 = f ∨ f + cur.length + 1 ≤ p.1 ∧ r[p.1 - (f + cur.length + 1)]? = some 10) ∨ r ≠ [] ∧ p.1 = f ∧ cur = []
 | [], f, cur, p, h => by
  rw [lns_end] at h
  cases cur with
  | nil => simp at h
  | cons x k => simp at h; subst h; exact .inl ⟨by simp, .inl rfl⟩
 | x :: r, f, cur, p, h => by
  by_cases hx : x = 10
  ·subst hx
   rw [lns_ten] at h
   rcases List.mem_cons.1 h with rfl | h
   ·exact .inl ⟨by simp; omega, .inl rfl⟩
   ·rcases lns_place r _ _ p h with ⟨h1, h2⟩ | ⟨h1, h2, h3⟩
    ·simp only [List.length_nil, Nat.add_zero] at h1 h2
     refine .inl ⟨by simp; omega, .inr ?_⟩
     rcases h2 with h2 | ⟨h2, h3⟩
     ·refine ⟨by omega, ?_⟩
      rw [show p.1 - (f + cur.length + 1) = 0 by omega]; rfl
     ·refine ⟨by omega, ?_⟩
      rw [show p.1 - (f + cur.length + 1) = (p.1 - (f + cur.length + 1 + 1)) + 1 by omega, List.getElem?_cons_succ]
      exact h3
    ·have : 0 < r.length := List.length_pos_iff.2 h1
     refine .inl ⟨by simp; omega, .inr ⟨by omega, ?_⟩⟩
     rw [show p.1 - (f + cur.length + 1) = 0 by omega]; rfl
  ·rw [lns_go f cur r x hx] at h
   rcases lns_place r _ _ p h with ⟨h1, h2⟩ | ⟨h1, h2, h3⟩
   ·rw [List.length_append] at h1 h2
    simp only [List.length_cons, List.length_nil] at h1 h2
    refine .inl ⟨by simp; omega, ?_⟩
    rcases h2 with h2 | ⟨h2, h3⟩
    ·exact .inl h2
    ·refine .inr ⟨by omega, ?_⟩
     rw [show p.1 - (f + cur.length + 1) = (p.1 - (f + (cur.length + 1) + 1)) + 1 by omega, List.getElem?_cons_succ]
     exact h3
   ·simp at h3
theorem ls_place {b : List UInt8} {p : Nat × List UInt8} (h : p ∈ ls b) : p.1 < b.length ∧ (p.1 = 0 ∨ 1 ≤ p.1 ∧ b[p.1 - 1]? = some 10) := by
 rcases lns_place b 0 [] p h with ⟨h1, h2⟩ | ⟨h1, h2, _⟩
 ·simp only [List.length_nil, Nat.zero_add] at h1 h2
  exact ⟨by omega, h2.imp id id⟩
 ·have : 0 < b.length := List.length_pos_iff.2 h1
  exact ⟨by omega, .inl h2⟩
theorem lns_ge {r : List UInt8} {f : Nat} {cur : List UInt8} {p : Nat × List UInt8} (h : p ∈ lns f cur r) : f ≤ p.1 := by
 rcases lns_place r f cur p h with ⟨_, h2 | h2⟩ | ⟨_, h2, _⟩ <;> omega
theorem lns_at : ∀ (r : List UInt8) (f : Nat) (cur : List UInt8) (k : Nat), r[k]? = some 10 →
  ∃ pre, lns f cur r = pre ++ lns (f + cur.length + k + 1) [] (r.drop (k + 1)) ∧ ∀ p ∈ pre, p.1 < f + cur.length + k + 1
 | [], f, cur, k, h => by simp at h
 | x :: r, f, cur, k, h => by
  by_cases hx : x = 10
  ·subst hx
   rw [lns_ten]
   cases k with
   | zero => exact ⟨[(f, cur)], rfl, fun p hp => by simp at hp; subst hp; simp; omega⟩
   | succ k =>
    rw [List.getElem?_cons_succ] at h
    obtain ⟨pre, h1, h2⟩ := lns_at r (f + cur.length + 1) [] k h
    simp only [List.length_nil, Nat.add_zero] at h1 h2
    refine ⟨(f, cur) :: pre, ?_, fun p hp => ?_⟩
    ·rw [h1, List.drop_succ_cons, List.cons_append, show f + cur.length + 1 + k + 1 = f + cur.length + (k + 1) + 1 by omega]
    ·rcases List.mem_cons.1 hp with rfl | hp
     ·simp; omega
     ·have := h2 p hp; omega
  ·rw [lns_go f cur r x hx]
   cases k with
   | zero => simp at h; exact absurd h hx
   | succ k =>
    rw [List.getElem?_cons_succ] at h
    obtain ⟨pre, h1, h2⟩ := lns_at r f (cur ++ [x]) k h
    rw [List.length_append] at h1 h2
    refine ⟨pre, ?_, fun p hp => ?_⟩
    ·rw [h1, List.drop_succ_cons, show f + (cur.length + [x].length) + k + 1 = f + cur.length + (k + 1) + 1 by simp; omega]
    ·have := h2 p hp; simp at this; omega
theorem ls_at {b : List UInt8} {k : Nat} (h : b[k]? = some 10) : ∃ pre, ls b = pre ++ lns (k + 1) [] (b.drop (k + 1)) ∧ ∀ p ∈ pre, p.1 < k + 1 := by
 have := lns_at b 0 [] k h
 simpa [ls] using this
def rd (b : List UInt8) (f t : Nat) : List (Nat × List UInt8) := (ls b).filter fun p => decide (f ≤ p.1) && decide (p.1 < t)
def rl (b : List UInt8) (a t : Nat) : List (Nat × List UInt8) := (lns a [] (b.drop a)).filter fun p => decide (p.1 < t)
theorem rl_end (b : List UInt8) (a t : Nat) (h : t ≤ a) : rl b a t = [] := by
 unfold rl
 rw [List.filter_eq_nil_iff]
 intro p hp
 have := lns_ge hp
 simp; omega
theorem rd_start (b : List UInt8) (t : Nat) : rd b 0 t = rl b 0 t := by unfold rd rl ls; simp
theorem rd_none (b : List UInt8) (f t : Nat) (hf : 1 ≤ f) (h : ∀ j, f - 1 ≤ j → j + 1 < t → b[j]? ≠ some 10) : rd b f t = rl b t t := by
 rw [rl_end b t t (Nat.le_refl _)]
 unfold rd
 rw [List.filter_eq_nil_iff]
 intro p hp
 obtain ⟨h1, h2⟩ := ls_place hp
 simp
 intro h3
 rcases h2 with h2 | ⟨h2, h4⟩
 ·omega
 ·rcases Nat.lt_or_ge p.1 t with h5 | h5
  ·exact absurd h4 (h (p.1 - 1) (by omega) (by omega))
  ·exact h5
theorem rd_some (b : List UInt8) (f t i : Nat) (hf : 1 ≤ f) (h10 : b[f - 1 + i]? = some 10) (h : ∀ j, f - 1 ≤ j → j < f - 1 + i → b[j]? ≠ some 10) : rd b f t = rl b (f + i) t := by
 obtain ⟨pre, e, hp⟩ := ls_at h10
 rw [show f - 1 + i + 1 = f + i by omega] at e hp
 unfold rd rl
 have e1 : pre.filter (fun p => decide (f ≤ p.1) && decide (p.1 < t)) = [] := by
  rw [List.filter_eq_nil_iff]
  intro p hpp
  have h1 := hp p hpp
  obtain ⟨h2, h3⟩ := ls_place (b := b) (p := p) (by rw [e]; exact List.mem_append_left _ hpp)
  simp
  intro h4
  rcases h3 with h3 | ⟨h3, h5⟩
  ·omega
  ·exact absurd h5 (h (p.1 - 1) (by omega) (by omega))
 rw [e, List.filter_append, e1, List.nil_append]
 refine List.filter_congr fun p hpp => ?_
 have := lns_ge hpp
 simp; omega
theorem rl_step (b k : List UInt8) (a t n : Nat) (h : a < t) (e : lns a [] (b.drop a) = (a, k) :: lns n [] (b.drop n)) : rl b a t = (a, k) :: rl b n t := by
 unfold rl
 rw [e, List.filter_cons, if_pos (by simpa using h)]
theorem idx_cases : ∀ l : List UInt8, (Lib.indexByte l 10 = -1 ∧ ∀ x ∈ l, x ≠ 10) ∨ ∃ k v, l = k ++ 10 :: v ∧ Lib.indexByte l 10 = (k.length : Int) ∧ ∀ x ∈ k, x ≠ 10
 | [] => .inl ⟨rfl, fun x h => by cases h⟩
 | x :: l => by
  by_cases hx : x = 10
  ·subst hx
   exact .inr ⟨[], l, rfl, by simp [Lib.indexByte], fun x h => by cases h⟩
  ·have hb : (x == 10) = false := by simpa using hx
   rcases idx_cases l with ⟨h1, h2⟩ | ⟨k, v, rfl, h1, h2⟩
   ·refine .inl ⟨by simp [Lib.indexByte, hb, h1], fun y hy => ?_⟩
    rcases List.mem_cons.1 hy with rfl | hy
    ·exact hx
    ·exact h2 y hy
   ·refine .inr ⟨x :: k, v, rfl, ?_, fun y hy => ?_⟩
    ·have hne : ((k.length : Int) == -1) = false := by simp
     simp only [Lib.indexByte, hb, h1, hne, List.length_cons, Bool.false_eq_true, if_false]
     omega
    ·rcases List.mem_cons.1 hy with rfl | hy
     ·exact hx
     ·exact h2 y hy
def Line (b : List UInt8) (a : Nat) (k : List UInt8) (n : Nat) : Prop := lns a [] (b.drop a) = (a, k) :: lns n [] (b.drop n) ∧ a < n ∧ n ≤ b.length ∧ k.length + a ≤ b.length
theorem line_last (b : List UInt8) (a : Nat) (ha : a < b.length) (h : ∀ x ∈ b.drop a, x ≠ 10) : Line b a (b.drop a) b.length := by
 have hd : (b.drop a).length = b.length - a := List.length_drop ..
 refine ⟨?_, ha, Nat.le_refl _, by omega⟩
 rw [lns_last _ a h (by rw [← List.length_pos_iff]; omega), List.drop_length, lns_end]
 rfl
theorem line_more (b k v : List UInt8) (a : Nat) (e : b.drop a = k ++ 10 :: v) (h : ∀ x ∈ k, x ≠ 10) : Line b a ((b.drop a).take k.length) (a + k.length + 1) ∧ (b.drop a).take k.length = k := by
 have hd := congrArg List.length e
 rw [List.length_drop, List.length_append, List.length_cons] at hd
 have e2 : (b.drop a).take k.length = k := by rw [e]; simp
 have e3 : b.drop (a + k.length + 1) = v := by
  rw [show a + k.length + 1 = a + (k.length + 1) by omega, ← List.drop_drop, e]; simp
 refine ⟨⟨?_, by omega, by omega, by rw [e2]; omega⟩, e2⟩
 rw [e2, e3, e, lns_line k v a h]
theorem ls_len (b : List UInt8) : (ls b).length ≤ b.length := by
  have key : ∀ (r : List UInt8) (f : Nat) (cur : List UInt8), (lns f cur r).length ≤ r.length + cur.length := by
    intro r
    induction r with
    | nil => intro f cur; rw [lns_end]; cases cur <;> simp
    | cons x r ih => intro f cur; by_cases hx : x = 10
                     · subst hx; rw [lns_ten]; have := ih (f + cur.length + 1) []; simp at this ⊢; omega
                     · rw [lns_go f cur r x hx]; have := ih f (cur ++ [x]); simp at this ⊢; omega
  have := key b 0 []
  simpa [ls] using this
theorem rd_len (b : List UInt8) (f t : Nat) : (rd b f t).length ≤ b.length := Nat.le_trans (List.length_filter_le _ _) (ls_len b)
def all (ps : List (Nat × List (List (List UInt8)))) : List (List (List UInt8)) := ps.flatMap (·.2)
theorem all_app (p q : List (Nat × List (List (List UInt8)))) : all (p ++ q) = all p ++ all q := by simp [all]
theorem all_take (ps : List (Nat × List (List (List UInt8)))) (k : Nat) : (all (ps.take k)).length ≤ (all ps).length := by
 have := congrArg List.length (congrArg all (List.take_append_drop k ps))
 rw [all_app, List.length_append] at this
 omega
theorem all_snoc (ps : List (Nat × List (List (List UInt8)))) (k : Nat) (p : Nat × List (List (List UInt8))) (h : ps[k]? = some p) : all (ps.take (k + 1)) = all (ps.take k) ++ p.2 := by
 rw [List.take_add_one, h, all_app]
 simp [all]
theorem all_pc (l : List (Nat × List UInt8)) : all (l.map pc) = l.map rc := by
 induction l with
 | nil => rfl
 | cons p l ih => simp only [all, List.map_cons, List.flatMap_cons] at ih ⊢; rw [ih]; rfl
def btw (f t : Nat) (ps : List (Nat × List (List (List UInt8)))) : List (Nat × List (List (List UInt8))) := ps.filter fun p => decide (f ≤ p.1) && decide (p.1 < t)
theorem btw_len (f t : Nat) (ps : List (Nat × List (List (List UInt8)))) : (all (btw f t ps)).length ≤ (all ps).length := by
 induction ps with
 | nil => exact Nat.le_refl _
 | cons p ps ih =>
  have e : all (p :: ps) = p.2 ++ all ps := rfl
  rw [e]
  unfold btw at ih ⊢
  rw [List.filter_cons]
  split
  ·have e2 : ∀ q, all (p :: q) = p.2 ++ all q := fun _ => rfl
   rw [e2, List.length_append, List.length_append]; omega
  ·rw [List.length_append]; omega
theorem btw_pc (l : List UInt8) (f t : Nat) : all (btw f t ((ls l).map pc)) = (rd l f t).map rc := by
 unfold btw rd
 rw [List.filter_map, all_pc]
 rfl
end Go.Proofs.YtkekmokdlgocaaaGreatDoor.Tm
namespace Go.Proofs.YtkekmokdlgocaaaGreatDoor.Csv.Cv
inductive St where
 | bg | un | qu | aq | ar
inductive Out where
 | go (s : St) (r : List (List UInt8)) (f : List UInt8)
 | fin (r : List (List UInt8))
 | bad (e : Nat)
inductive Res where
 | ok (r : List (List UInt8)) (rest : List UInt8)
 | err (e : Nat)
def aF (r : List (List UInt8)) (f : List UInt8) : Option UInt8 → Out
 | none => .fin (r ++ [f])
 | some c => if c = 44 then (if r.length + 1 = 50 then .bad 5 else .go .bg (r ++ [f]) []) else if c = 13 then .go .ar r f else if c = 10 then .fin (r ++ [f]) else .bad 3
def ad (s : St) (r : List (List UInt8)) (f : List UInt8) (c : UInt8) : Out := if f.length = 1000 then .bad 5 else .go s r (f ++ [c])
def unS (r : List (List UInt8)) (f : List UInt8) : Option UInt8 → Out
 | none => aF r f none
 | some c => if c = 44 ∨ c = 34 ∨ c = 10 ∨ c = 13 then aF r f (some c) else ad .un r f c
def quS (r : List (List UInt8)) (f : List UInt8) : Option UInt8 → Out
 | none => .bad 3
 | some c => if c = 34 then .go .aq r f else ad .qu r f c
def aqS (r : List (List UInt8)) (f : List UInt8) : Option UInt8 → Out
 | none => aF r f none
 | some c => if c = 34 then ad .qu r f 34 else aF r f (some c)
def arS (r : List (List UInt8)) (f : List UInt8) : Option UInt8 → Out
 | none => .bad 3
 | some c => if c = 10 then aF r f (some 10) else .bad 3
def bgS (r : List (List UInt8)) (f : List UInt8) : Option UInt8 → Out
 | none => unS r f none
 | some c => if c = 34 then .go .qu r f else unS r f (some c)
def stp : St → List (List UInt8) → List UInt8 → Option UInt8 → Out
 | .bg => bgS
 | .un => unS
 | .qu => quS
 | .aq => aqS
 | .ar => arS
def run : St → List (List UInt8) → List UInt8 → List UInt8 → Res
 | s, r, f, [] => match stp s r f none with
  | .go _ _ _ => .err 3
  | .fin r' => .ok r' []
  | .bad e => .err e
 | s, r, f, c :: l => match stp s r f (some c) with
  | .go s' r' f' => run s' r' f' l
  | .fin r' => .ok r' l
  | .bad e => .err e
abbrev T := List (Nat × List (List UInt8)) × Nat × Nat
def cons3 (x : Nat × List (List UInt8)) (y : T) : T := (x :: y.1, y.2.1, y.2.2)
def recs : Nat → St → List (List UInt8) → List UInt8 → Nat → List UInt8 → T
 | a, s, r, f, p, [] => if a = p then ([], a, 0) else match stp s r f none with
  | .go _ _ _ => ([], a, 3)
  | .fin r' => ([(a, r')], p, 0)
  | .bad e => ([], a, e)
 | a, s, r, f, p, c :: l => match stp s r f (some c) with
  | .go s' r' f' => recs a s' r' f' (p + 1) l
  | .fin r' => cons3 (a, r') (recs (p + 1) .bg [] [] (p + 1) l)
  | .bad e => ([], a, e)
def rs (a : Nat) (l : List UInt8) : T := recs a .bg [] [] a l
theorem run_go {s r f c l s' r' f'} (h : stp s r f (some c) = .go s' r' f') : run s r f (c :: l) = run s' r' f' l := by rw [run, h]
theorem run_fin {s r f c l r'} (h : stp s r f (some c) = .fin r') : run s r f (c :: l) = .ok r' l := by rw [run, h]
theorem run_bad {s r f c l e} (h : stp s r f (some c) = .bad e) : run s r f (c :: l) = .err e := by rw [run, h]
theorem run_none (s r f) : run s r f [] = match stp s r f none with
  | .go _ _ _ => .err 3
  | .fin r' => .ok r' []
  | .bad e => .err e := by rw [run]
theorem recs_go {a s r f p c l s' r' f'} (h : stp s r f (some c) = .go s' r' f') : recs a s r f p (c :: l) = recs a s' r' f' (p + 1) l := by rw [recs, h]
theorem recs_fin {a s r f p c l r'} (h : stp s r f (some c) = .fin r') : recs a s r f p (c :: l) = cons3 (a, r') (rs (p + 1) l) := by rw [recs, h]; rfl
theorem recs_bad {a s r f p c l e} (h : stp s r f (some c) = .bad e) : recs a s r f p (c :: l) = ([], a, e) := by rw [recs, h]
theorem stp_none (s r f) : (∃ e, stp s r f none = .bad e ∧ e = 3) ∨ stp s r f none = .fin (r ++ [f]) := by
 cases s <;> simp [stp, bgS, unS, quS, aqS, arS, aF]
theorem aF_bad {r f c e} (h : aF r f c = .bad e) : e = 3 ∨ e = 5 := by
 cases c with
 | none => simp [aF] at h
 | some c => simp only [aF] at h; (repeat' split at h) <;> simp at h <;> omega
theorem ad_bad {s r f c e} (h : ad s r f c = .bad e) : e = 3 ∨ e = 5 := by
 simp only [ad] at h; split at h <;> simp at h; omega
theorem stp_bad {s r f c e} (h : stp s r f c = .bad e) : e = 3 ∨ e = 5 := by
 cases s <;> cases c <;> simp only [stp, bgS, unS, quS, aqS, arS] at h <;> (repeat' split at h) <;> first | exact aF_bad h | exact ad_bad h | (simp at h; done) | (simp at h; omega)
theorem aF_go {r f c s' r' f'} (h : aF r f (some c) = .go s' r' f') : (c = 44 ∧ s' = .bg ∧ r' = r ++ [f] ∧ r.length + 1 ≠ 50 ∧ f' = []) ∨ (c = 13 ∧ s' = .ar ∧ r' = r ∧ f' = f) := by
 simp only [aF] at h
 split at h
 ·split at h
  ·cases h
  ·injection h with h1 h2 h3; exact .inl ⟨by assumption, h1.symm, h2.symm, by assumption, h3.symm⟩
 ·split at h
  ·injection h with h1 h2 h3; exact .inr ⟨by assumption, h1.symm, h2.symm, h3.symm⟩
  ·split at h <;> cases h
theorem aF_fin {r f c r'} (h : aF r f (some c) = .fin r') : c = 10 ∧ r' = r ++ [f] := by
 simp only [aF] at h
 split at h
 ·split at h <;> cases h
 ·split at h
  ·cases h
  ·split at h
   ·injection h with h; exact ⟨by assumption, h.symm⟩
   ·cases h
theorem ad_go {s r f c s' r' f'} (h : ad s r f c = .go s' r' f') : s' = s ∧ r' = r ∧ f.length ≠ 1000 ∧ f' = f ++ [c] := by
 simp only [ad] at h
 split at h
 ·cases h
 ·injection h with h1 h2 h3; exact ⟨h1.symm, h2.symm, by assumption, h3.symm⟩
theorem ad_fin {s r f c r'} (h : ad s r f c = .fin r') : False := by
 simp only [ad] at h; split at h <;> cases h
theorem stp_go {s r f c s' r' f'} (h : stp s r f (some c) = .go s' r' f') : (c = 34 → (s' = .qu ↔ s ≠ .qu)) ∧ (c ≠ 34 → (s' = .qu ↔ s = .qu)) ∧ (c = 10 → s = .qu) := by
 cases s
 ·simp only [stp, bgS, unS] at h
  split at h
  next hc => injection h with h1; subst h1; subst hc; simp
  next hc =>
   split at h
   next => rcases aF_go h with ⟨rfl, rfl, _⟩ | ⟨rfl, rfl, _⟩ <;> simp
   next h2 => obtain ⟨rfl, _⟩ := ad_go h; simp at h2; simp [h2]
 ·simp only [stp, unS] at h
  split at h
  next => rcases aF_go h with ⟨rfl, rfl, _⟩ | ⟨rfl, rfl, _⟩ <;> simp
  next h2 => obtain ⟨rfl, _⟩ := ad_go h; simp at h2; simp [h2]
 ·simp only [stp, quS] at h
  split at h
  next hc => injection h with h1; subst h1; subst hc; simp
  next hc => obtain ⟨rfl, _⟩ := ad_go h; simp [hc]
 ·simp only [stp, aqS] at h
  split at h
  next hc => obtain ⟨rfl, _⟩ := ad_go h; subst hc; simp
  next hc => rcases aF_go h with ⟨rfl, rfl, _⟩ | ⟨rfl, rfl, _⟩ <;> simp
 ·simp only [stp, arS] at h
  split at h
  next => rcases aF_go h with ⟨h1, _⟩ | ⟨h1, _⟩ <;> simp at h1
  next => cases h
theorem stp_fin {s r f c r'} (h : stp s r f (some c) = .fin r') : c = 10 ∧ s ≠ .qu ∧ r' = r ++ [f] := by
 cases s
 ·simp only [stp, bgS, unS] at h
  split at h
  ·cases h
  ·split at h
   ·exact ⟨(aF_fin h).1, by simp, (aF_fin h).2⟩
   ·exact (ad_fin h).elim
 ·simp only [stp, unS] at h
  split at h
  ·exact ⟨(aF_fin h).1, by simp, (aF_fin h).2⟩
  ·exact (ad_fin h).elim
 ·simp only [stp, quS] at h
  split at h
  ·cases h
  ·exact (ad_fin h).elim
 ·simp only [stp, aqS] at h
  split at h
  ·exact (ad_fin h).elim
  ·exact ⟨(aF_fin h).1, by simp, (aF_fin h).2⟩
 ·simp only [stp, arS] at h
  split at h
  ·exact ⟨by assumption, by simp, (aF_fin h).2⟩
  ·cases h
theorem run_ok : ∀ {l s r f r' rest}, run s r f l = .ok r' rest → ∃ pre, l = pre ++ rest ∧ (l ≠ [] → pre ≠ []) ∧ (rest = [] ∨ ∀ x, run s r f (pre ++ x) = .ok r' x)
 | [], s, r, f, r', rest, h => by
  rw [run] at h
  split at h
  ·cases h
  ·injection h with h1 h2; subst h2; exact ⟨[], rfl, fun h => h, .inl rfl⟩
  ·cases h
 | c :: l, s, r, f, r', rest, h => by
  rcases e : stp s r f (some c) with ⟨s', r2, f'⟩ | r2 | e'
  ·rw [run_go e] at h
   obtain ⟨pre, h1, _, h3⟩ := run_ok h
   refine ⟨c :: pre, by rw [h1]; rfl, fun _ => by simp, h3.imp id fun h x => ?_⟩
   rw [List.cons_append, run_go e]; exact h x
  ·rw [run_fin e] at h
   injection h with h1 h2; subst h1; subst h2
   exact ⟨[c], rfl, fun _ => by simp, .inr fun x => run_fin e⟩
  ·rw [run_bad e] at h; cases h
theorem run_err : ∀ {l s r f e}, run s r f l = .err e → e = 3 ∨ e = 5
 | [], s, r, f, e, h => by
  rw [run] at h
  rcases stp_none s r f with ⟨e', h1, h2⟩ | h1
  ·rw [h1] at h; injection h with h; omega
  ·rw [h1] at h; cases h
 | c :: l, s, r, f, e, h => by
  rcases e2 : stp s r f (some c) with ⟨s', r2, f'⟩ | r2 | e'
  ·rw [run_go e2] at h; exact run_err h
  ·rw [run_fin e2] at h; cases h
  ·rw [run_bad e2] at h; injection h with h; exact h ▸ stp_bad e2
theorem recs_ok : ∀ {l a s r f p r' rest}, a ≤ p → (a < p ∨ l ≠ []) → run s r f l = .ok r' rest → recs a s r f p l = cons3 (a, r') (rs (p + (l.length - rest.length)) rest)
 | [], a, s, r, f, p, r', rest, hp, ha, h => by
  rcases ha with ha | ha
  ·rw [run] at h
   rw [recs, if_neg (by omega)]
   rcases stp_none s r f with ⟨e', h1, _⟩ | h1
   ·rw [h1] at h; cases h
   ·rw [h1] at h ⊢; injection h with h2 h3; subst h2; subst h3
    simp [cons3, rs, recs]
  ·exact absurd rfl ha
 | c :: l, a, s, r, f, p, r', rest, hp, ha, h => by
  rcases e : stp s r f (some c) with ⟨s', r2, f'⟩ | r2 | e'
  ·rw [run_go e] at h
   rw [recs_go e, recs_ok (by omega) (.inl (by omega)) h]
   obtain ⟨pre, h1, _⟩ := run_ok h
   have := congrArg List.length h1
   rw [List.length_append] at this
   rw [List.length_cons, show p + 1 + (l.length - rest.length) = p + (l.length + 1 - rest.length) by omega]
  ·rw [run_fin e] at h
   injection h with h1 h2; subst h1; subst h2
   rw [recs_fin e, List.length_cons, show p + (l.length + 1 - l.length) = p + 1 by omega]
  ·rw [run_bad e] at h; cases h
theorem recs_err : ∀ {l a s r f p e}, a ≤ p → (a < p ∨ l ≠ []) → run s r f l = .err e → recs a s r f p l = ([], a, e)
 | [], a, s, r, f, p, e, hp, ha, h => by
  rcases ha with ha | ha
  ·rw [run] at h
   rw [recs, if_neg (by omega)]
   rcases stp_none s r f with ⟨e', h1, _⟩ | h1
   ·rw [h1] at h ⊢; injection h with h; subst h; rfl
   ·rw [h1] at h; cases h
  ·exact absurd rfl ha
 | c :: l, a, s, r, f, p, e, hp, ha, h => by
  rcases e2 : stp s r f (some c) with ⟨s', r2, f'⟩ | r2 | e'
  ·rw [run_go e2] at h
   rw [recs_go e2, recs_err (by omega) (.inl (by omega)) h]
  ·rw [run_fin e2] at h; cases h
  ·rw [run_bad e2] at h; injection h with h; subst h; exact recs_bad e2
theorem rs_nil (a : Nat) : rs a [] = ([], a, 0) := by simp [rs, recs]
theorem rs_ok {a l r rest} (hl : l ≠ []) (h : run .bg [] [] l = .ok r rest) : rs a l = cons3 (a, r) (rs (a + (l.length - rest.length)) rest) := recs_ok (Nat.le_refl _) (.inr hl) h
theorem rs_err {a l e} (hl : l ≠ []) (h : run .bg [] [] l = .err e) : rs a l = ([], a, e) := recs_err (Nat.le_refl _) (.inr hl) h
theorem rs_take : ∀ (n : Nat) (l : List UInt8) (a : Nat), l.length ≤ n → a ≤ (rs a l).2.1 ∧ (rs a l).2.1 ≤ a + l.length ∧ rs a (l.take ((rs a l).2.1 - a)) = ((rs a l).1, (rs a l).2.1, 0) ∧ ((rs a l).2.2 = 0 ∧ (rs a l).2.1 = a + l.length ∨ ((rs a l).2.2 = 3 ∨ (rs a l).2.2 = 5) ∧ (rs a l).2.1 < a + l.length)
 | n, [], a, _ => by rw [rs_nil]; simp [rs_nil]
 | 0, c :: l, a, h => by simp at h
 | n + 1, c :: l, a, h => by
  rcases e : run .bg [] [] (c :: l) with ⟨r, rest⟩ | e'
  ·rw [rs_ok (by simp) e]
   obtain ⟨pre, h1, h2, h3⟩ := run_ok e
   have h4 := congrArg List.length h1
   have h5 : 0 < pre.length := List.length_pos_iff.2 (h2 (by simp))
   rw [List.length_append] at h4
   have h6 : (c :: l).length - rest.length = pre.length := by omega
   rw [h6]
   obtain ⟨i1, i2, i3, i4⟩ := rs_take n rest (a + pre.length) (by rw [List.length_cons] at h h4; omega)
   simp only [cons3]
   refine ⟨by omega, by omega, ?_, ?_⟩
   ·have g : (c :: l).take ((rs (a + pre.length) rest).2.1 - a) = pre ++ rest.take ((rs (a + pre.length) rest).2.1 - (a + pre.length)) := by
     rw [h1, List.take_append]
     rw [List.take_of_length_le (by omega), show (rs (a + pre.length) rest).2.1 - a - pre.length = (rs (a + pre.length) rest).2.1 - (a + pre.length) by omega]
    rw [g]
    have hne : pre ++ rest.take ((rs (a + pre.length) rest).2.1 - (a + pre.length)) ≠ [] := by
     intro h; have := (List.append_eq_nil_iff.1 h).1; subst this; simp at h5
    rcases h3 with h3 | h3
    ·subst h3
     rw [List.take_nil, List.append_nil]
     have : run .bg [] [] pre = .ok r [] := by rw [List.append_nil] at h1; rw [← h1]; exact e
     rw [rs_ok (by intro h; subst h; simp at h5) this]
     simp [cons3, rs_nil]
    ·rw [rs_ok hne (h3 _)]
     rw [List.length_append, Nat.add_sub_cancel, i3]
     rfl
   ·rcases i4 with ⟨j1, j2⟩ | ⟨j1, j2⟩
    ·exact .inl ⟨j1, by omega⟩
    ·exact .inr ⟨j1, by omega⟩
  ·rw [rs_err (by simp) e]
   simp [rs_nil]
   exact run_err e
theorem recs_ge : ∀ {l a s r f p x}, x ∈ (recs a s r f p l).1 → x.1 = a ∨ p < x.1
 | [], a, s, r, f, p, x, h => by
  rw [recs] at h
  split at h
  ·cases h
  ·split at h
   ·cases h
   ·simp at h; exact .inl (by rw [h])
   ·cases h
 | c :: l, a, s, r, f, p, x, h => by
  rcases e : stp s r f (some c) with ⟨s', r2, f'⟩ | r2 | e'
  ·rw [recs_go e] at h; rcases recs_ge h with h | h
   ·exact .inl h
   ·exact .inr (by omega)
  ·rw [recs_fin e] at h
   rcases List.mem_cons.1 h with rfl | h
   ·exact .inl rfl
   ·rcases recs_ge h with h | h <;> exact .inr (by omega)
  ·rw [recs_bad e] at h; cases h
theorem rs_ge {l a x} (h : x ∈ (rs a l).1) : a ≤ x.1 := by rcases recs_ge h with h | h <;> omega
theorem recs_lt : ∀ {l a s r f p x}, a ≤ p → x ∈ (recs a s r f p l).1 → x.1 < p + l.length
 | [], a, s, r, f, p, x, ha, h => by
  rw [recs] at h
  split at h
  ·cases h
  ·split at h
   ·cases h
   ·simp at h; rw [h]; simp; omega
   ·cases h
 | c :: l, a, s, r, f, p, x, ha, h => by
  rw [List.length_cons]
  rcases e : stp s r f (some c) with ⟨s', r2, f'⟩ | r2 | e'
  ·rw [recs_go e] at h; have := recs_lt (by omega) h; omega
  ·rw [recs_fin e] at h
   rcases List.mem_cons.1 h with rfl | h
   ·show a < _; omega
   ·have := recs_lt (Nat.le_refl _) h; omega
  ·rw [recs_bad e] at h; cases h
theorem rs_lt {l a x} (h : x ∈ (rs a l).1) : x.1 < a + l.length := recs_lt (Nat.le_refl _) h
theorem recs_len : ∀ {l a s r f p}, a ≤ p → (recs a s r f p l).1.length ≤ l.length + (if a = p then 0 else 1)
 | [], a, s, r, f, p, ha => by
  rw [recs]
  split
  ·simp
  ·split <;> simp
 | c :: l, a, s, r, f, p, ha => by
  rw [List.length_cons]
  rcases e : stp s r f (some c) with ⟨s', r2, f'⟩ | r2 | e'
  ·rw [recs_go e]
   have := @recs_len l a s' r2 f' (p + 1) (by omega)
   rw [if_neg (by omega)] at this
   omega
  ·rw [recs_fin e]
   have := @recs_len l (p + 1) .bg [] [] (p + 1) (Nat.le_refl _)
   rw [if_pos rfl] at this
   show ((rs (p + 1) l).1.length + 1) ≤ _
   unfold rs; omega
  ·rw [recs_bad e]; simp
theorem rs_len (a : Nat) (l : List UInt8) : (rs a l).1.length ≤ l.length := by
 have := @recs_len l a .bg [] [] a (Nat.le_refl _)
 rw [if_pos rfl] at this
 exact this
def odd (l : List UInt8) : Bool := l.count 34 % 2 == 1
theorem odd_nil : odd [] = false := rfl
theorem odd_cons (c : UInt8) (l : List UInt8) : odd (c :: l) = if c = 34 then !odd l else odd l := by
 unfold odd
 rw [List.count_cons]
 by_cases h : c = 34
 ·subst h
  simp only [beq_self_eq_true, if_true]
  rcases Nat.mod_two_eq_zero_or_one (l.count 34) with h | h
  ·rw [h, show (l.count 34 + 1) % 2 = 1 by omega]; rfl
  ·rw [h, show (l.count 34 + 1) % 2 = 0 by omega]; rfl
 ·have : (c == 34) = false := by simpa using h
  rw [this, if_neg h]; rfl
theorem recs_at : ∀ (l : List UInt8) (a : Nat) (s : St) (r : List (List UInt8)) (f : List UInt8) (p k : Nat), k ≤ l.length → a ≤ p → (a = p → s = .bg ∧ r = [] ∧ f = []) → (recs a s r f p l).2.2 = 0 → ∀ q : Bool, (s = .qu ↔ q = true) →
  ∃ pre a' s' r' f', (recs a s r f p l).1 = pre ++ (recs a' s' r' f' (p + k) (l.drop k)).1 ∧ (recs a' s' r' f' (p + k) (l.drop k)).2.2 = 0 ∧ (∀ x ∈ pre, x.1 < p + k) ∧ a' ≤ p + k ∧
   (a' = p + k → s' = .bg ∧ r' = [] ∧ f' = []) ∧ (s' = .qu ↔ (q ^^ odd (l.take k)) = true) ∧ (a' = p + k ↔ s' ≠ .qu ∧ (k = 0 ∧ a = p ∨ 0 < k ∧ l[k - 1]? = some 10))
 | l, a, s, r, f, p, 0, _, ha, h0, h, q, hq => by
  refine ⟨[], a, s, r, f, rfl, h, by simp, ha, h0, by rw [List.take_zero, odd_nil]; simp [hq], ?_⟩
  simp only [Nat.add_zero, true_and, Nat.lt_irrefl, false_and, or_false]
  constructor
  ·intro e; exact ⟨by rw [(h0 e).1]; simp, e⟩
  ·exact fun e => e.2
 | [], a, s, r, f, p, k + 1, hk, ha, h0, h, q, hq => by simp at hk
 | c :: l, a, s, r, f, p, k + 1, hk, ha, h0, h, q, hq => by
  rw [List.length_cons] at hk
  rcases e : stp s r f (some c) with ⟨s', r2, f'⟩ | r2 | e'
  ·rw [recs_go e] at h
   obtain ⟨g1, g2, g3⟩ := stp_go e
   obtain ⟨pre, a', s2, r3, f3, i1, i2, i3, i4, i5, i6, i7⟩ := recs_at l a s' r2 f' (p + 1) k (by omega) (by omega) (by omega) h (if c = 34 then !q else q) (by
    by_cases hc : c = 34
    ·rw [if_pos hc, g1 hc]; simp [hq]
    ·rw [if_neg hc, g2 hc]; exact hq)
   rw [show p + 1 + k = p + (k + 1) by omega] at i1 i2 i3 i4 i5 i7
   refine ⟨pre, a', s2, r3, f3, by rw [recs_go e, List.drop_succ_cons]; exact i1, by rw [List.drop_succ_cons]; exact i2, i3, i4, i5, ?_, ?_⟩
   ·rw [i6, List.take_succ_cons, odd_cons]
    by_cases hc : c = 34
    ·rw [if_pos hc, if_pos hc]; cases q <;> cases odd (l.take k) <;> simp
    ·rw [if_neg hc, if_neg hc]
   ·rw [i7]
    constructor
    ·rintro ⟨j1, ⟨j2, j3⟩ | ⟨j2, j3⟩⟩
     ·omega
     ·refine ⟨j1, .inr ⟨by omega, ?_⟩⟩
      rw [show k + 1 - 1 = (k - 1) + 1 by omega, List.getElem?_cons_succ]; exact j3
    ·rintro ⟨j1, ⟨j2, j3⟩ | ⟨j2, j3⟩⟩
     ·omega
     ·cases k with
      | zero =>
       exfalso
       simp at j3
       have := g3 j3
       have h34 : c ≠ 34 := by rw [j3]; decide
       have h5 := (g2 h34).2 this
       -- k = 0: the state is s'
       apply j1
       rw [i6, List.take_zero, odd_nil, if_neg h34]
       simp [hq.1 this]
      | succ k =>
       refine ⟨j1, .inr ⟨by omega, ?_⟩⟩
       rw [show k + 1 + 1 - 1 = k + 1 by omega, List.getElem?_cons_succ] at j3
       rw [Nat.add_sub_cancel]; exact j3
  ·rw [recs_fin e] at h
   obtain ⟨rfl, g2, g3⟩ := stp_fin e
   obtain ⟨pre, a', s2, r3, f3, i1, i2, i3, i4, i5, i6, i7⟩ := recs_at l (p + 1) .bg [] [] (p + 1) k (by omega) (Nat.le_refl _) (fun _ => ⟨rfl, rfl, rfl⟩) h false (by simp)
   rw [show p + 1 + k = p + (k + 1) by omega] at i1 i2 i3 i4 i5 i7
   have hq' : q = false := by cases q with | false => rfl | true => exact absurd (hq.2 rfl) g2
   refine ⟨(a, r2) :: pre, a', s2, r3, f3, ?_, by rw [List.drop_succ_cons]; exact i2, ?_, i4, i5, ?_, ?_⟩
   ·rw [recs_fin e, List.drop_succ_cons, List.cons_append]
    show (a, r2) :: (rs (p + 1) l).1 = _
    unfold rs; rw [i1]
   ·intro x hx
    rcases List.mem_cons.1 hx with rfl | hx
    ·show a < _; omega
    ·exact i3 x hx
   ·rw [i6, List.take_succ_cons, odd_cons, if_neg (by decide), hq']
   ·rw [i7]
    constructor
    ·rintro ⟨j1, ⟨j2, j3⟩ | ⟨j2, j3⟩⟩
     ·subst j2; exact ⟨j1, .inr ⟨by omega, rfl⟩⟩
     ·refine ⟨j1, .inr ⟨by omega, ?_⟩⟩
      rw [show k + 1 - 1 = (k - 1) + 1 by omega, List.getElem?_cons_succ]; exact j3
    ·rintro ⟨j1, ⟨j2, j3⟩ | ⟨j2, j3⟩⟩
     ·omega
     ·cases k with
      | zero => exact ⟨j1, .inl ⟨rfl,rfl⟩⟩
      | succ k =>
       refine ⟨j1, .inr ⟨by omega, ?_⟩⟩
       rw [show k + 1 + 1 - 1 = k + 1 by omega, List.getElem?_cons_succ] at j3
       rw [Nat.add_sub_cancel]; exact j3
  ·rw [recs_bad e] at h
   rcases stp_bad e with h1 | h1 <;> simp at h <;> omega
end Go.Proofs.YtkekmokdlgocaaaGreatDoor.Csv.Cv
namespace Go.Proofs.YtkekmokdlgocaaaGreatDoor.Fix.Fx
open Go.Proofs.YtkekmokdlgocaaaGreatDoor
def seg (b : List UInt8) (k i : Nat) : List UInt8 := (b.take (i * k + k)).drop (i * k)
def pi (b : List UInt8) (k i : Nat) : Nat × List UInt8 := (i * k, seg b k i)
def rs (b : List UInt8) (k s e : Nat) : List (Nat × List UInt8) := (List.range' s (e - s)).map (pi b k)
def ch (b : List UInt8) (k : Nat) : List (Nat × List UInt8) := rs b k 0 (b.length / k)
def cd (f k : Nat) : Nat := (f + k - 1) / k
def rd (b : List UInt8) (k f t : Nat) : List (Nat × List UInt8) := rs b k (cd f k) (min (b.length / k) (cd t k))
theorem rs_len (b : List UInt8) (k s e : Nat) : (rs b k s e).length = e - s := by simp [rs]
theorem rs_nil (b : List UInt8) (k s e : Nat) (h : e ≤ s) : rs b k s e = [] := by
 apply List.eq_nil_of_length_eq_zero
 rw [rs_len]; omega
theorem rs_snoc (b : List UInt8) (k s e : Nat) (h : s ≤ e) : rs b k s (e + 1) = rs b k s e ++ [pi b k e] := by
 unfold rs
 rw [show e + 1 - s = (e - s) + 1 by omega, List.range'_1_concat, List.map_append]
 simp; congr 1; omega
theorem ch_len (b : List UInt8) (k : Nat) : (ch b k).length = b.length / k := by rw [ch, rs_len, Nat.sub_zero]
theorem vs_eq (n k : Nat) : n - n % k = n / k * k := by have := Nat.div_add_mod n k; have := Nat.mul_comm k (n / k); omega
theorem vs_le (n k : Nat) : n / k * k ≤ n := Nat.div_mul_le_self n k
theorem lt_vs (n k i : Nat) (hk : 1 ≤ k) : i * k < n / k * k ↔ i < n / k := by
 constructor
 ·intro h; exact Nat.lt_of_mul_lt_mul_right h
 ·intro h; exact (Nat.mul_lt_mul_right hk).2 h
theorem le_vs (n k i : Nat) (hk : 1 ≤ k) : i * k + k ≤ n ↔ i < n / k := by
 have h := Nat.le_div_iff_mul_le (x := i + 1) (y := n) hk
 rw [Nat.succ_mul] at h
 omega
theorem cd_le (f k i : Nat) (hk : 1 ≤ k) : cd f k ≤ i ↔ f ≤ i * k := by
 unfold cd
 have h := Nat.div_lt_iff_lt_mul (x := f + k - 1) (y := i + 1) hk
 rw [Nat.succ_mul] at h
 omega
theorem lt_cd (t k i : Nat) (hk : 1 ≤ k) : i * k < t ↔ i < cd t k := by have := cd_le t k i hk; omega
theorem range_btw (s c : Nat) : ∀ m : Nat, (List.range' 0 m).filter (fun i => decide (s ≤ i) && decide (i < c)) = List.range' s (min m c - s)
 | 0 => by simp
 | m + 1 => by
  rw [List.range'_1_concat, List.filter_append, range_btw s c m]
  simp only [Nat.zero_add, List.filter_cons, List.filter_nil]
  by_cases h : s ≤ m ∧ m < c
  ·rw [if_pos (by simpa using h), show min (m + 1) c - s = (min m c - s) + 1 by omega, List.range'_1_concat]
   congr 2; omega
  ·rw [if_neg (by simpa using h), List.append_nil]
   congr 1; omega
theorem btw_ch (b : List UInt8) (k f t : Nat) (hk : 1 ≤ k) : (ch b k).filter (fun p => decide (f ≤ p.1) && decide (p.1 < t)) = rd b k f t := by
 unfold ch rd rs
 rw [List.filter_map]
 congr 1
 rw [Nat.sub_zero, ← range_btw]
 refine List.filter_congr fun i _ => ?_
 simp only [Function.comp, pi]
 have h1 := cd_le f k i hk
 have h2 := lt_cd t k i hk
 congr 1
 ·exact decide_eq_decide.2 h1.symm
 ·exact decide_eq_decide.2 h2
theorem all_btw (b : List UInt8) (k f t : Nat) (hk : 1 ≤ k) : Tm.all (Tm.btw f t ((ch b k).map Tm.pc)) = (rd b k f t).map Tm.rc := by
 unfold Tm.btw
 rw [List.filter_map, Tm.all_pc, ← btw_ch b k f t hk]
 rfl
end Go.Proofs.YtkekmokdlgocaaaGreatDoor.Fix.Fx
namespace Go.Proofs.YtkekmokdlgocaaaGreatDoor.Cht.Hm
abbrev R := List (List UInt8)
def num (lo hi : Nat) (l : List UInt8) : Option (Nat × List UInt8) :=
 if (Vm.tk l).2.2 = 0 ∧ lo ≤ (Vm.tk l).1 ∧ (Vm.tk l).1 ≤ hi then some ((Vm.tk l).1, l.drop (Vm.tk l).2.1) else none
theorem num_ok {lo hi a s : Nat} {l : List UInt8} (h : Vm.tk l = (a, s, 0)) (h1 : lo ≤ a) (h2 : a ≤ hi) : num lo hi l = some (a, l.drop s) := by
 unfold num; rw [h]; simp [h1, h2]
theorem num_out {lo hi a s : Nat} {l : List UInt8} (h : Vm.tk l = (a, s, 0)) (h1 : ¬ (lo ≤ a ∧ a ≤ hi)) : num lo hi l = none := by
 unfold num; rw [h]; simp only [true_and]; rw [if_neg h1]
theorem num_err {lo hi a s x : Nat} {l : List UInt8} (h : Vm.tk l = (a, s, x)) (hx : x ≠ 0) : num lo hi l = none := by
 unfold num; rw [h]; simp [hx]
theorem num_inv {lo hi : Nat} {l : List UInt8} {p : Nat × List UInt8} (h : num lo hi l = some p) : ∃ s, Vm.tk l = (p.1, s, 0) ∧ p.2 = l.drop s ∧ lo ≤ p.1 ∧ p.1 ≤ hi ∧ s ≤ l.length ∧ 1 ≤ s := by
 unfold num at h
 split at h
 ·rename_i hc
  injection h with h
  subst h
  have h1 := (Vm.tk_size l).1
  have h2 := Pm.tk_pos l hc.1
  refine ⟨(Vm.tk l).2.1, ?_, rfl, hc.2.1, hc.2.2, h1, h2⟩
  rw [← hc.1]
 ·cases h
def ent1 (l : List UInt8) : Option ((Nat × Nat) × List UInt8) := (num 1 20000 l).bind fun p => (num 1 5000 p.2).map fun q => ((p.1, q.1), q.2)
def ents : Nat → List UInt8 → Option (List (Nat × Nat) × List UInt8)
 | 0, l => some ([], l)
 | k + 1, l => (ent1 l).bind fun p => (ents k p.2).map fun q => (p.1 :: q.1, q.2)
theorem ent1_none1 {l : List UInt8} (h : num 1 20000 l = none) : ent1 l = none := by unfold ent1; rw [h]; rfl
theorem ent1_none2 {l r : List UInt8} {a : Nat} (h : num 1 20000 l = some (a, r)) (h2 : num 1 5000 r = none) : ent1 l = none := by unfold ent1; rw [h, Option.bind_some, h2]; rfl
theorem ent1_ok {l r t : List UInt8} {a b : Nat} (h : num 1 20000 l = some (a, r)) (h2 : num 1 5000 r = some (b, t)) : ent1 l = some ((a, b), t) := by unfold ent1; rw [h, Option.bind_some, h2]; rfl
def tot (L : List (Nat × Nat)) : Nat := (L.map (·.1)).sum
theorem tot_cons (x : Nat × Nat) (L : List (Nat × Nat)) : tot (x :: L) = x.1 + tot L := by simp [tot]
theorem tot_app (L M : List (Nat × Nat)) : tot (L ++ M) = tot L + tot M := by simp [tot]
theorem tot_nil : tot [] = 0 := rfl
def idx (l : List UInt8) (m : Nat) : Option (List (Nat × Nat)) :=
 (num 0 5000 l).bind fun p => (ents p.1 p.2).bind fun q => if q.2 = [] ∧ tot q.1 = m then some q.1 else none
def val4 : List UInt8 → Nat
 | [] => 0
 | x :: r => x.toNat + 256 * val4 r
def opn (l : List UInt8) : Option (List UInt8) := if (Cm.openS Cm.tab l).2 = 0 then some (Cm.openS Cm.tab l).1 else none
theorem opn_ok {l o : List UInt8} (h : Cm.openS Cm.tab l = (o, 0)) : opn l = some o := by unfold opn; rw [h]; rfl
theorem opn_no {l o : List UInt8} {x : Nat} (h : Cm.openS Cm.tab l = (o, x)) (hx : x ≠ 0) : opn l = none := by unfold opn; rw [h]; simp [hx]
theorem opn_inv {l o : List UInt8} (h : opn l = some o) : Cm.openS Cm.tab l = (o, 0) := by
 unfold opn at h
 split at h
 ·rename_i h0
  injection h with h
  rw [← h, ← h0]
 ·cases h
theorem opn_len {l o : List UInt8} (h : opn l = some o) : o.length ≤ l.length := by
 have h1 := opn_inv h
 unfold Cm.openS at h1
 split at h1
 ·split at h1
  ·cases h1
  ·split at h1
   ·injection h1 with h1 _
    rw [← h1, List.length_take]; omega
   ·cases h1
 ·cases h1
def tl : List UInt8 := [67, 72, 83, 84]
def ix (b : List UInt8) : Option (List (Nat × Nat)) :=
 if b.length < 8 then none
 else if b.drop (b.length - 4) = tl then
  if val4 ((b.drop (b.length - 8)).take 4) ≤ b.length - 8 then
   (opn ((b.take (b.length - 8)).drop (b.length - 8 - val4 ((b.drop (b.length - 8)).take 4)))).bind fun i => idx i (b.length - 8 - val4 ((b.drop (b.length - 8)).take 4))
  else none
 else none
theorem ents_mem : ∀ (k : Nat) (l : List UInt8) (p : List (Nat × Nat) × List UInt8), ents k l = some p → p.1.length = k ∧ ∀ x ∈ p.1, 1 ≤ x.1 ∧ x.1 ≤ 20000 ∧ 1 ≤ x.2 ∧ x.2 ≤ 5000
 | 0, l, p, h => by
  unfold ents at h
  injection h with h
  subst h
  exact ⟨rfl, fun x hx => by cases hx⟩
 | k + 1, l, p, h => by
  simp only [ents] at h
  obtain ⟨q, hq, h⟩ := Option.bind_eq_some_iff.1 h
  obtain ⟨t, ht, rfl⟩ := Option.map_eq_some_iff.1 h
  obtain ⟨h1, h2⟩ := ents_mem k q.2 t ht
  obtain ⟨u, hu, h3⟩ := Option.bind_eq_some_iff.1 hq
  obtain ⟨v, hv, rfl⟩ := Option.map_eq_some_iff.1 h3
  obtain ⟨_, _, _, a1, a2, _⟩ := num_inv hu
  obtain ⟨_, _, _, b1, b2, _⟩ := num_inv hv
  refine ⟨by simp [h1], fun x hx => ?_⟩
  rcases List.mem_cons.1 hx with rfl | hx
  ·exact ⟨a1, a2, b1, b2⟩
  ·exact h2 x hx
def Oks (L : List (Nat × Nat)) : Prop := ∀ x ∈ L, 1 ≤ x.1 ∧ x.1 ≤ 20000 ∧ 1 ≤ x.2 ∧ x.2 ≤ 5000
theorem idx_inv {l : List UInt8} {m : Nat} {L : List (Nat × Nat)} (h : idx l m = some L) : L.length ≤ 5000 ∧ tot L = m ∧ Oks L := by
 unfold idx at h
 obtain ⟨p, hp, h⟩ := Option.bind_eq_some_iff.1 h
 obtain ⟨q, hq, h⟩ := Option.bind_eq_some_iff.1 h
 obtain ⟨_, _, _, _, h5, _⟩ := num_inv hp
 obtain ⟨h1, h2⟩ := ents_mem _ _ _ hq
 split at h
 ·rename_i hc
  injection h with h
  subst h
  exact ⟨by omega, hc.2, h2⟩
 ·cases h
theorem ix_inv {b : List UInt8} {L : List (Nat × Nat)} (h : ix b = some L) : L.length ≤ 5000 ∧ tot L + 8 ≤ b.length ∧ Oks L := by
 unfold ix at h
 split at h
 ·cases h
 ·split at h
  ·split at h
   ·obtain ⟨i, hi, h⟩ := Option.bind_eq_some_iff.1 h
    obtain ⟨h1, h2, h3⟩ := idx_inv h
    exact ⟨h1, by omega, h3⟩
   ·cases h
  ·cases h
def plc : Nat → List (Nat × Nat) → List (Nat × Nat × Nat)
 | _, [] => []
 | at_, x :: L => (at_, x.1, x.2) :: plc (at_ + x.1) L
theorem plc_len : ∀ (at_ : Nat) (L : List (Nat × Nat)), (plc at_ L).length = L.length
 | _, [] => rfl
 | at_, x :: L => by simp [plc, plc_len]
theorem plc_get : ∀ (L : List (Nat × Nat)) (at_ k : Nat) (x : Nat × Nat), L[k]? = some x → (plc at_ L)[k]? = some (at_ + tot (L.take k), x.1, x.2)
 | [], at_, k, x, h => by simp at h
 | y :: L, at_, 0, x, h => by simp at h; subst h; simp [plc, tot]
 | y :: L, at_, k + 1, x, h => by
  have ih := plc_get L (at_ + y.1) k x (by simpa using h)
  rw [plc, List.getElem?_cons_succ, ih, List.take_succ_cons, tot_cons, Nat.add_assoc]
theorem plc_mem : ∀ (L : List (Nat × Nat)) (at_ : Nat), Oks L → ∀ x ∈ plc at_ L, at_ ≤ x.1 ∧ x.1 + x.2.1 ≤ at_ + tot L ∧ 1 ≤ x.2.1 ∧ x.2.1 ≤ 20000 ∧ 1 ≤ x.2.2 ∧ x.2.2 ≤ 5000
 | [], at_, _, x, h => by cases h
 | y :: L, at_, hok, x, h => by
  rw [plc] at h
  rw [tot_cons]
  have h1 := hok y (List.mem_cons_self ..)
  rcases List.mem_cons.1 h with rfl | h
  ·exact ⟨Nat.le_refl _, by dsimp only; omega, h1⟩
  ·obtain ⟨a, b, c⟩ := plc_mem L (at_ + y.1) (fun z hz => hok z (List.mem_cons_of_mem _ hz)) x h
   exact ⟨by omega, by omega, c⟩
def blk (l : List UInt8) (k : Nat) : Option (List R) :=
 (opn l).bind fun p => if (Pm.expS p 20000).2.2.2 = 0 then (match Fm.dec (Pm.expS p 20000).1 with
  | .ok L => if L.length = k then some L else none
  | .error _ => none) else none
theorem blk_inv {l : List UInt8} {k : Nat} {r : List R} (h : blk l k = some r) : r.length = k ∧ ∀ x ∈ r, Fm.May x := by
 unfold blk at h
 obtain ⟨p, hp, h⟩ := Option.bind_eq_some_iff.1 h
 split at h
 ·split at h
  ·rename_i L hL
   split at h
   ·rename_i hk
    injection h with h
    subst h
    exact ⟨hk, (Fm.enc_dec hL).2.1⟩
   ·cases h
  ·cases h
 ·cases h
def val (b : List UInt8) (x : Nat × Nat × Nat) : Option (List R) := blk ((b.take (x.1 + x.2.1)).drop x.1) x.2.2
def sc (b : List UInt8) : List (Nat × Nat × Nat) → List (Nat × List R) × Option Nat
 | [] => ([], none)
 | x :: t => match val b x with
  | none => ([], some x.1)
  | some r => ((x.1, r) :: (sc b t).1, (sc b t).2)
theorem sc_none {b : List UInt8} {x : Nat × Nat × Nat} {t : List (Nat × Nat × Nat)} (h : val b x = none) : sc b (x :: t) = ([], some x.1) := by simp only [sc, h]
theorem sc_some {b : List UInt8} {x : Nat × Nat × Nat} {t : List (Nat × Nat × Nat)} {r : List R} (h : val b x = some r) : sc b (x :: t) = ((x.1, r) :: (sc b t).1, (sc b t).2) := by simp only [sc, h]
def scO : Option (List (Nat × Nat)) → List UInt8 → List (Nat × List R) × Nat × Nat
 | none, _ => ([], 0, 3)
 | some L, b => ((sc b (plc 0 L)).1, (sc b (plc 0 L)).2.getD b.length, if (sc b (plc 0 L)).2.isSome then 3 else 0)
def scS (b : List UInt8) : List (Nat × List R) × Nat × Nat := scO (ix b) b
theorem sc_at (b : List UInt8) : ∀ (L : List (Nat × Nat)) (at_ : Nat), Oks L → (∀ p ∈ (sc b (plc at_ L)).1, at_ ≤ p.1 ∧ p.1 < at_ + tot L ∧ p.2.length ≤ 5000 ∧ ∀ r ∈ p.2, Fm.May r) ∧ (∀ g, (sc b (plc at_ L)).2 = some g → at_ ≤ g ∧ g < at_ + tot L) ∧
  (sc b (plc at_ L)).1.length ≤ L.length ∧ (sc b (plc at_ L)).1.Pairwise (fun p q => p.1 ≤ q.1)
 | [], at_, _ => by exact ⟨fun p h => (by cases h), fun g h => (by cases h), Nat.le_refl _, List.Pairwise.nil⟩
 | x :: L, at_, hok => by
  have h1 := hok x (List.mem_cons_self ..)
  obtain ⟨i1, i2, i3, i4⟩ := sc_at b L (at_ + x.1) fun z hz => hok z (List.mem_cons_of_mem _ hz)
  rw [plc, tot_cons]
  cases hv : val b (at_, x.1, x.2) with
  | none =>
   rw [sc_none hv]
   refine ⟨fun p h => (by cases h), fun g h => ?_, Nat.zero_le _, List.Pairwise.nil⟩
   injection h with h
   subst h
   exact ⟨Nat.le_refl _, by omega⟩
  | some r =>
   rw [sc_some hv]
   have hr := blk_inv hv
   refine ⟨fun p h => ?_, fun g h => ?_, by simpa using i3, List.pairwise_cons.2 ⟨fun p hp => ?_, i4⟩⟩
   ·rcases List.mem_cons.1 h with rfl | h
    ·exact ⟨Nat.le_refl _, by dsimp only; omega, by have := hr.1; dsimp only at this ⊢; omega, hr.2⟩
    ·obtain ⟨a, b, c⟩ := i1 p h
     exact ⟨by omega, by omega, c⟩
   ·obtain ⟨a, b⟩ := i2 g h
    exact ⟨by omega, by omega⟩
   ·have := (i1 p hp).1
    dsimp only
    omega
theorem filter_split (a c t : Nat) (h1 : a ≤ c) (h2 : c ≤ t) : ∀ l : List (Nat × List R), l.Pairwise (fun p q => p.1 ≤ q.1) →
  l.filter (fun p => decide (a ≤ p.1) && decide (p.1 < t)) = l.filter (fun p => decide (a ≤ p.1) && decide (p.1 < c)) ++ l.filter (fun p => decide (c ≤ p.1) && decide (p.1 < t))
 | [], _ => rfl
 | p :: l, h => by
  obtain ⟨hp, hl⟩ := List.pairwise_cons.1 h
  have ih := filter_split a c t h1 h2 l hl
  by_cases hpc : p.1 < c
  ·by_cases hpa : a ≤ p.1
   ·rw [List.filter_cons_of_pos (by simp; omega), List.filter_cons_of_pos (by simp; omega), List.filter_cons_of_neg (by simp; omega), ih]; rfl
   ·rw [List.filter_cons_of_neg (by simp; omega), List.filter_cons_of_neg (by simp; omega), List.filter_cons_of_neg (by simp; omega), ih]
  ·have e : l.filter (fun p => decide (a ≤ p.1) && decide (p.1 < c)) = [] := List.filter_eq_nil_iff.2 fun q hq => by have := hp q hq; simp; omega
   rw [e, List.nil_append] at ih
   rw [List.filter_cons_of_neg (p := fun (p : Nat × List R) => decide (a ≤ p.1) && decide (p.1 < c)) (by simp; omega), e, List.nil_append]
   by_cases hpt : p.1 < t
   ·rw [List.filter_cons_of_pos (by simp; omega), List.filter_cons_of_pos (by simp; omega), ih]
   ·rw [List.filter_cons_of_neg (by simp; omega), List.filter_cons_of_neg (by simp; omega), ih]
theorem scS_facts (b : List UInt8) : (scS b).1.Pairwise (fun p q => p.1 ≤ q.1) ∧ (∀ p ∈ (scS b).1, p.1 < b.length ∧ p.2.length ≤ 5000 ∧ ∀ r ∈ p.2, Fm.May r) ∧ (scS b).1.length ≤ 5000 ∧ (scS b).2.1 ≤ b.length ∧
  ((scS b).2.2 = 3 ∧ ((scS b).2.1 < b.length ∨ b.length = 0) ∨ (scS b).2.2 = 0 ∧ (scS b).2.1 = b.length) := by
 unfold scS
 cases h : ix b with
 | none => exact ⟨List.Pairwise.nil, fun p h => (by cases h), Nat.zero_le _, Nat.zero_le _, .inl ⟨rfl, by show 0 < b.length ∨ _; omega⟩⟩
 | some L =>
  obtain ⟨h1, h2, h3⟩ := ix_inv h
  obtain ⟨i1, i2, i3, i4⟩ := sc_at b L 0 h3
  refine ⟨i4, fun p hp => ?_, Nat.le_trans i3 h1, ?_, ?_⟩
  ·have := i1 p hp
   exact ⟨by omega, this.2.2⟩
  ·show (sc b (plc 0 L)).2.getD b.length ≤ _
   cases hs : (sc b (plc 0 L)).2 with
   | none => exact Nat.le_refl _
   | some g => have := (i2 g hs).2; rw [Option.getD_some]; omega
  ·show (if (sc b (plc 0 L)).2.isSome then 3 else 0) = 3 ∧ ((sc b (plc 0 L)).2.getD b.length < _ ∨ _) ∨ (if (sc b (plc 0 L)).2.isSome then 3 else 0) = 0 ∧ (sc b (plc 0 L)).2.getD b.length = _
   cases hs : (sc b (plc 0 L)).2 with
   | none => exact .inr ⟨rfl,rfl⟩
   | some g => exact .inl ⟨rfl, .inl (by have := (i2 g hs).2; rw [Option.getD_some]; omega)⟩
theorem all_small : ∀ (l : List (Nat × List R)), (∀ p ∈ l, p.2.length ≤ 5000) → (Tm.all l).length ≤ 5000 * l.length
 | [], _ => by simp [Tm.all]
 | p :: l, h => by
  have ih := all_small l fun q hq => h q (List.mem_cons_of_mem _ hq)
  have h1 := h p (List.mem_cons_self ..)
  have e : Tm.all (p :: l) = p.2 ++ Tm.all l := rfl
  rw [e, List.length_append, List.length_cons]
  omega
theorem scS_all (b : List UInt8) : (Tm.all (scS b).1).length ≤ 25000000 ∧ ∀ r ∈ Tm.all (scS b).1, r.length ≤ 1000000 := by
 obtain ⟨_, h2, h3, _, _⟩ := scS_facts b
 refine ⟨Nat.le_trans (all_small _ fun p hp => (h2 p hp).2.1) (by omega), fun r hr => ?_⟩
 obtain ⟨p, hp, hr⟩ := List.mem_flatMap.1 hr
 have := ((h2 p hp).2.2 r hr).1
 omega
end Go.Proofs.YtkekmokdlgocaaaGreatDoor.Cht.Hm
namespace Go.Proofs.YtkekmokdlgocaaaGreatDoor.Csv.Cv
def Few50 (r : List (List UInt8)) : Prop := 1 ≤ r.length ∧ r.length ≤ 50 ∧ ∀ x ∈ r, x.length ≤ 1000
theorem few_snoc {r : List (List UInt8)} {f : List UInt8} (h : r.length < 50) (hr : ∀ x ∈ r, x.length ≤ 1000) (hf : f.length ≤ 1000) : Few50 (r ++ [f]) := by
 refine ⟨by simp, by simp; omega, fun x hx => ?_⟩
 rcases List.mem_append.1 hx with hx | hx
 ·exact hr x hx
 ·simp at hx; subst hx; exact hf
theorem stp_small {s r f c s' r' f'} (h : stp s r f (some c) = .go s' r' f') (h1 : r.length < 50) (h2 : ∀ x ∈ r, x.length ≤ 1000) (h3 : f.length ≤ 1000) : r'.length < 50 ∧ (∀ x ∈ r', x.length ≤ 1000) ∧ f'.length ≤ 1000 := by
 have ka : ∀ {c s' r' f'}, aF r f (some c) = .go s' r' f' → r'.length < 50 ∧ (∀ x ∈ r', x.length ≤ 1000) ∧ f'.length ≤ 1000 := fun h => by
  rcases aF_go h with ⟨_, _, rfl, h4, rfl⟩ | ⟨_, _, rfl, rfl⟩
  ·exact ⟨by simp; omega, (few_snoc h1 h2 h3).2.2, by simp⟩
  ·exact ⟨h1, h2, h3⟩
 have kd : ∀ {s c s' r' f'}, ad s r f c = .go s' r' f' → r'.length < 50 ∧ (∀ x ∈ r', x.length ≤ 1000) ∧ f'.length ≤ 1000 := fun h => by
  obtain ⟨_, rfl, h4, rfl⟩ := ad_go h
  exact ⟨h1, h2, by simp; omega⟩
 have kg : ∀ {t s' r' f'}, Out.go t r f = .go s' r' f' → r'.length < 50 ∧ (∀ x ∈ r', x.length ≤ 1000) ∧ f'.length ≤ 1000 := fun h => by
  injection h with _ h4 h5; subst h4; subst h5; exact ⟨h1, h2, h3⟩
 cases s <;> simp only [stp, bgS, unS, quS, aqS, arS] at h <;> (repeat' split at h) <;> first | exact ka h | exact kd h | exact kg h | cases h
theorem run_few : ∀ {l s r f r' rest}, r.length < 50 → (∀ x ∈ r, x.length ≤ 1000) → f.length ≤ 1000 → run s r f l = .ok r' rest → Few50 r'
 | [], s, r, f, r', rest, h1, h2, h3, h => by
  rw [run] at h
  rcases stp_none s r f with ⟨e', h4, _⟩ | h4
  ·rw [h4] at h; cases h
  ·rw [h4] at h; injection h with h5 h6; subst h5; exact few_snoc h1 h2 h3
 | c :: l, s, r, f, r', rest, h1, h2, h3, h => by
  rcases e : stp s r f (some c) with ⟨s', r2, f'⟩ | r2 | e'
  ·rw [run_go e] at h
   obtain ⟨g1, g2, g3⟩ := stp_small e h1 h2 h3
   exact run_few g1 g2 g3 h
  ·rw [run_fin e] at h
   injection h with h5 h6; subst h5
   rw [(stp_fin e).2.2]; exact few_snoc h1 h2 h3
  ·rw [run_bad e] at h; cases h
theorem run_few0 {l r rest} (h : run .bg [] [] l = .ok r rest) : Few50 r := run_few (by simp) (by simp) (by simp) h
theorem run_rest {s r f l r' rest} (h : run s r f l = .ok r' rest) : rest = l.drop (l.length - rest.length) ∧ rest.length ≤ l.length ∧ (l ≠ [] → rest.length < l.length) := by
 obtain ⟨pre, rfl, h2, _⟩ := run_ok h
 rw [List.length_append]
 refine ⟨by rw [show pre.length + rest.length - rest.length = pre.length by omega]; simp, by omega, fun h => ?_⟩
 have := List.length_pos_iff.2 (h2 h)
 omega
theorem rs_few : ∀ (n : Nat) (l : List UInt8) (a : Nat), l.length ≤ n → ∀ p ∈ (rs a l).1, Few50 p.2
 | n, [], a, _, p, hp => by rw [rs_nil] at hp; cases hp
 | 0, c :: l, a, h, p, hp => by simp at h
 | n + 1, c :: l, a, h, p, hp => by
  rcases e : run .bg [] [] (c :: l) with ⟨r, rest⟩ | e'
  ·rw [rs_ok (by simp) e] at hp
   obtain ⟨_, _, h3⟩ := run_rest e
   have h3 := h3 (by simp)
   rcases List.mem_cons.1 hp with rfl | hp
   ·exact run_few0 e
   ·exact rs_few n rest _ (by simp at h h3; omega) p hp
  ·rw [rs_err (by simp) e] at hp; cases hp
theorem rs_step (l : List UInt8) (a : Nat) (ha : a < l.length) : (∃ r m, run .bg [] [] (l.drop a) = .ok r (l.drop m) ∧ a < m ∧ m ≤ l.length ∧ rs a (l.drop a) = cons3 (a, r) (rs m (l.drop m)) ∧ (l.drop a).length - (l.drop m).length = m - a ∧ Few50 r) ∨ ∃ k, run .bg [] [] (l.drop a) = .err k ∧ rs a (l.drop a) = ([], a, k) ∧ (k = 3 ∨ k = 5) := by
 have hne : l.drop a ≠ [] := by rw [← List.length_pos_iff, List.length_drop]; omega
 rcases e : run .bg [] [] (l.drop a) with ⟨r, rest⟩ | e'
 ·have e2 := rs_ok (a := a) hne e
  obtain ⟨h1, h2, h3⟩ := run_rest e
  have h3 := h3 hne
  have h4 : (l.drop a).length = l.length - a := List.length_drop ..
  have h5 : rest = l.drop (a + ((l.drop a).length - rest.length)) := by rw [← List.drop_drop]; exact h1
  refine .inl ⟨r, a + ((l.drop a).length - rest.length), by rw [← h5], by omega, by omega, by rw [← h5]; exact e2, by rw [← h5]; omega, run_few0 e⟩
 ·exact .inr ⟨e', rfl, rs_err hne e, run_err e⟩
def V (v : List UInt8) (a : Nat) : Prop := (rs a (v.drop a)).2.2 = 0
def rd (P : List (Nat × List (List UInt8))) (f t : Nat) : List (Nat × List (List UInt8)) := P.filter fun p => decide (f ≤ p.1) && decide (p.1 < t)
def rl (v : List UInt8) (a t : Nat) : List (Nat × List (List UInt8)) := (rs a (v.drop a)).1.filter fun p => decide (p.1 < t)
theorem rl_end (v : List UInt8) (a t : Nat) (h : t ≤ a) : rl v a t = [] := by
 unfold rl
 rw [List.filter_eq_nil_iff]
 intro p hp
 have := rs_ge hp
 simp; omega
theorem V_step (v : List UInt8) (a : Nat) (h : V v a) (ha : a < v.length) : ∃ r n, run .bg [] [] (v.drop a) = .ok r (v.drop n) ∧ a < n ∧ n ≤ v.length ∧ V v n ∧ (v.drop a).length - (v.drop n).length = n - a ∧ rs a (v.drop a) = cons3 (a, r) (rs n (v.drop n)) := by
 have hne : v.drop a ≠ [] := by rw [← List.length_pos_iff, List.length_drop]; omega
 unfold V at h
 rcases e : run .bg [] [] (v.drop a) with ⟨r, rest⟩ | e'
 ·have e2 := rs_ok (a := a) hne e
  obtain ⟨h1, h2, h3⟩ := run_rest e
  have h3 := h3 hne
  have h4 : (v.drop a).length = v.length - a := List.length_drop ..
  have h5 : rest = v.drop (a + ((v.drop a).length - rest.length)) := by rw [← List.drop_drop]; exact h1
  rw [e2] at h
  refine ⟨r, a + ((v.drop a).length - rest.length), by rw [← h5], by omega, by omega, ?_, by rw [← h5]; omega, by rw [← h5]; exact e2⟩
  unfold V; rw [← h5]; exact h
 ·rw [rs_err hne e] at h
  rcases run_err e with h1 | h1 <;> simp at h <;> omega
theorem rl_step (v : List UInt8) (a t n : Nat) (r : List (List UInt8)) (h : a < t) (e : rs a (v.drop a) = cons3 (a, r) (rs n (v.drop n))) : rl v a t = (a, r) :: rl v n t := by
 unfold rl
 rw [e]
 show ((a, r) :: (rs n (v.drop n)).1).filter _ = _
 rw [List.filter_cons, if_pos (by simpa using h)]
def fsl : Bool → Nat → Nat → List UInt8 → Nat
 | _, _, t, [] => t
 | q, p, t, c :: l => if p < t then (if c = 34 then fsl (!q) (p + 1) t l else if c = 10 ∧ q = false then p + 1 else fsl q (p + 1) t l) else t
theorem fsl_end (q : Bool) (p t : Nat) (l : List UInt8) (h : t ≤ p) : fsl q p t l = t := by
 cases l with
 | nil => rfl
 | cons c l => rw [fsl, if_neg (by omega)]
theorem fsl_quote (q : Bool) (p t : Nat) (l : List UInt8) (h : p < t) : fsl q p t (34 :: l) = fsl (!q) (p + 1) t l := by rw [fsl, if_pos h, if_pos rfl]
theorem fsl_line (p t : Nat) (l : List UInt8) (h : p < t) : fsl false p t (10 :: l) = p + 1 := by rw [fsl, if_pos h, if_neg (by decide), if_pos ⟨rfl,rfl⟩]
theorem fsl_other (q : Bool) (p t : Nat) (c : UInt8) (l : List UInt8) (h : p < t) (hc : c ≠ 34) (h2 : c = 10 → q = true) : fsl q p t (c :: l) = fsl q (p + 1) t l := by
 rw [fsl, if_pos h, if_neg hc, if_neg]
 rintro ⟨h3, h4⟩
 rw [h2 h3] at h4; cases h4
theorem fsl_rs : ∀ (l : List UInt8) (a : Nat) (s : St) (r : List (List UInt8)) (f : List UInt8) (p t : Nat) (q : Bool), a < p → p ≤ t → t ≤ p + l.length → (recs a s r f p l).2.2 = 0 → (s = .qu ↔ q = true) →
  ∃ F, fsl q p t l = F ∧ p ≤ F ∧ F ≤ t ∧ (recs a s r f p l).1.filter (fun x => decide (p ≤ x.1) && decide (x.1 < t)) = (rs F (l.drop (F - p))).1.filter (fun x => decide (x.1 < t)) ∧ (F = t ∨ (rs F (l.drop (F - p))).2.2 = 0)
 | l, a, s, r, f, p, t, q, ha, hp, ht, h, hq => by
  by_cases hpt : p = t
  ·subst hpt
   refine ⟨p, fsl_end q p p l (Nat.le_refl _), Nat.le_refl _, Nat.le_refl _, ?_, .inl rfl⟩
   have e1 : (recs a s r f p l).1.filter (fun x => decide (p ≤ x.1) && decide (x.1 < p)) = [] := by
    rw [List.filter_eq_nil_iff]; intro x _; simp
   have e2 : (rs p (l.drop (p - p))).1.filter (fun x => decide (x.1 < p)) = [] := by
    rw [List.filter_eq_nil_iff]; intro x hx; have := rs_ge hx; simp; omega
   rw [e1, e2]
  ·match l with
   | [] => simp at ht; omega
   | c :: l =>
    rw [List.length_cons] at ht
    have hlt : p < t := by omega
    -- no record begins at p
    have weak : ∀ (s' : St) (r2 f' : _), (recs a s' r2 f' (p + 1) l).1.filter (fun x => decide (p ≤ x.1) && decide (x.1 < t)) = (recs a s' r2 f' (p + 1) l).1.filter (fun x => decide (p + 1 ≤ x.1) && decide (x.1 < t)) := fun s' r2 f' => by
     refine List.filter_congr fun x hx => ?_
     congr 1
     rcases recs_ge hx with h1 | h1
     ·rw [h1]; simp; omega
     ·simp; omega
    rcases e : stp s r f (some c) with ⟨s', r2, f'⟩ | r2 | e'
    ·rw [recs_go e] at h ⊢
     obtain ⟨g1, g2, g3⟩ := stp_go e
     obtain ⟨F, i1, i2, i3, i4, i5⟩ := fsl_rs l a s' r2 f' (p + 1) t (if c = 34 then !q else q) (by omega) (by omega) (by omega) h (by
      by_cases hc : c = 34
      ·rw [if_pos hc, g1 hc]; simp [hq]
      ·rw [if_neg hc, g2 hc]; exact hq)
     refine ⟨F, ?_, by omega, i3, ?_, ?_⟩
     ·by_cases hc : c = 34
      ·rw [if_pos hc] at i1; subst hc; rw [fsl_quote q p t l hlt]; exact i1
      ·rw [if_neg hc] at i1; rw [fsl_other q p t c l hlt hc fun h10 => hq.1 (g3 h10)]; exact i1
     ·rw [weak, i4, show F - p = (F - (p + 1)) + 1 by omega, List.drop_succ_cons]
     ·rw [show F - p = (F - (p + 1)) + 1 by omega, List.drop_succ_cons]; exact i5
    ·rw [recs_fin e] at h ⊢
     obtain ⟨rfl, g2, g3⟩ := stp_fin e
     have hqf : q = false := by cases q with | false => rfl | true => exact absurd (hq.2 rfl) g2
     subst hqf
     refine ⟨p + 1, fsl_line p t l hlt, by omega, by omega, ?_, .inr ?_⟩
     ·rw [show p + 1 - p = 0 + 1 by omega, List.drop_succ_cons, List.drop_zero]
      show ((a, r2) :: (rs (p + 1) l).1).filter _ = _
      rw [List.filter_cons, if_neg (by simp; omega)]
      refine List.filter_congr fun x hx => ?_
      have := rs_ge hx
      have e1 : decide (p ≤ x.1) = true := by simp; omega
      rw [e1, Bool.true_and]
     ·rw [show p + 1 - p = 0 + 1 by omega, List.drop_succ_cons, List.drop_zero]; exact h
    ·rw [recs_bad e] at h
     rcases stp_bad e with h1 | h1 <;> simp at h <;> omega
def fs (v : List UInt8) (f t : Nat) (q : Bool) : Nat := if t ≤ f then t else if q = false ∧ (f = 0 ∨ v[f - 1]? = some 10) then f else fsl q f t (v.drop f)
theorem fs_rd (v : List UInt8) (f t : Nat) (h : V v 0) (ht : t ≤ v.length) (hft : f ≤ v.length) : rd (rs 0 v).1 f t = rl v (fs v f t (odd (v.take f))) t ∧ (t ≤ fs v f t (odd (v.take f)) ∨ V v (fs v f t (odd (v.take f)))) ∧ fs v f t (odd (v.take f)) ≤ v.length := by
 unfold fs
 by_cases h1 : t ≤ f
 ·rw [if_pos h1, rl_end v t t (Nat.le_refl _)]
  refine ⟨?_, .inl (Nat.le_refl _), ht⟩
  unfold rd
  rw [List.filter_eq_nil_iff]
  intro x _; simp; omega
 ·rw [if_neg h1]
  unfold V at h
  rw [List.drop_zero] at h
  obtain ⟨pre, a', s', r', f', i1, i2, i3, i4, i5, i6, i7⟩ := recs_at v 0 .bg [] [] 0 f (by omega) (Nat.le_refl _) (fun _ => ⟨rfl, rfl, rfl⟩) h false (by simp)
  rw [Nat.zero_add] at i1 i2 i3 i4 i5 i7
  rw [Bool.false_xor] at i6
  have e0 : rd (rs 0 v).1 f t = (recs a' s' r' f' f (v.drop f)).1.filter (fun x => decide (f ≤ x.1) && decide (x.1 < t)) := by
   unfold rd
   show (recs 0 .bg [] [] 0 v).1.filter _ = _
   rw [i1, List.filter_append]
   have : pre.filter (fun x => decide (f ≤ x.1) && decide (x.1 < t)) = [] := by
    rw [List.filter_eq_nil_iff]; intro x hx; have := i3 x hx; simp; omega
   rw [this, List.nil_append]
  rw [e0]
  by_cases h2 : a' = f
  ·have h3 := i7.1 h2
   have hq : odd (v.take f) = false := by
    cases ho : odd (v.take f) with
    | false => rfl
    | true => exact absurd (i6.2 ho) h3.1
   rw [if_pos ⟨hq, by rcases h3.2 with h4 | h4; exact .inl h4.1; exact .inr h4.2⟩]
   obtain ⟨rfl, rfl, rfl⟩ := i5 h2
   subst h2
   refine ⟨?_, .inr i2, by omega⟩
   unfold rl
   refine List.filter_congr fun x hx => ?_
   have := rs_ge hx
   have e1 : decide (a' ≤ x.1) = true := by simp; omega
   rw [e1, Bool.true_and]
  ·rw [if_neg]
   ·obtain ⟨F, j1, j2, j3, j4, j5⟩ := fsl_rs (v.drop f) a' s' r' f' f t (odd (v.take f)) (by omega) (by omega) (by rw [List.length_drop]; omega) i2 i6
    rw [j1, j4]
    have e2 : (v.drop f).drop (F - f) = v.drop F := by rw [List.drop_drop, show f + (F - f) = F by omega]
    rw [e2] at j5 ⊢
    exact ⟨rfl, by rcases j5 with j5 | j5; exact .inl (by omega); exact .inr j5, by omega⟩
   ·rintro ⟨h4, h5⟩
    refine h2 (i7.2 ⟨fun h6 => ?_, ?_⟩)
    ·have := i6.1 h6; rw [h4] at this; cases this
    ·rcases h5 with h5 | h5
     ·exact .inl ⟨h5, rfl⟩
     ·by_cases hf : f = 0
      ·exact .inl ⟨hf, rfl⟩
      ·exact .inr ⟨by omega, h5⟩
def ls (b : List UInt8) : List (Nat × List (List UInt8)) := (rs 0 b).1
def good (b : List UInt8) : Nat := (rs 0 b).2.1
def er (b : List UInt8) : Nat := (rs 0 b).2.2
theorem good_le (b : List UInt8) : good b ≤ b.length := by have := (rs_take b.length b 0 (Nat.le_refl _)).2.1; unfold good; omega
theorem er_or (b : List UInt8) : er b = 0 ∧ good b = b.length ∨ (er b = 3 ∨ er b = 5) ∧ good b < b.length := by
 have := (rs_take b.length b 0 (Nat.le_refl _)).2.2.2
 unfold er good; rw [Nat.zero_add] at this; exact this
theorem ls_good (b : List UInt8) : rs 0 (b.take (good b)) = (ls b, good b, 0) := by
 have := (rs_take b.length b 0 (Nat.le_refl _)).2.2.1
 rw [Nat.sub_zero] at this; exact this
theorem V_good (b : List UInt8) : V (b.take (good b)) 0 := by unfold V; rw [List.drop_zero, ls_good]
theorem ls_lt {b : List UInt8} {p : Nat × List (List UInt8)} (h : p ∈ ls b) : p.1 < good b := by
 have h2 := ls_good b
 have h3 : p ∈ (rs 0 (b.take (good b))).1 := by rw [h2]; exact h
 have := rs_lt h3
 rw [List.length_take] at this
 omega
theorem ls_len (b : List UInt8) : (ls b).length ≤ b.length := rs_len 0 b
theorem ls_few {b : List UInt8} {p : Nat × List (List UInt8)} (h : p ∈ ls b) : Few50 p.2 := rs_few b.length b 0 (Nat.le_refl _) p h
theorem rd_min (b : List UInt8) (f t : Nat) : rd (ls b) f t = rd (ls b) f (min t (good b)) := by
 unfold rd
 refine List.filter_congr fun p hp => ?_
 have := ls_lt hp
 congr 1
 simp only [decide_eq_decide]
 omega
def pc (p : Nat × List (List UInt8)) : Nat × List (List (List UInt8)) := (p.1, [p.2])
theorem all_pc (l : List (Nat × List (List UInt8))) : Tm.all (l.map pc) = l.map (·.2) := by
 induction l with
 | nil => rfl
 | cons p l ih => simp only [Tm.all, List.map_cons, List.flatMap_cons] at ih ⊢; rw [ih]; rfl
theorem btw_pc (l : List (Nat × List (List UInt8))) (f t : Nat) : Tm.all (Tm.btw f t (l.map pc)) = (rd l f t).map (·.2) := by
 unfold Tm.btw rd
 rw [List.filter_map, all_pc]
 rfl
theorem odd_take (b : List UInt8) (f g : Nat) (h : f ≤ g) : odd ((b.take g).take f) = odd (b.take f) := by rw [List.take_take, show min f g = f by omega]
def En : List UInt8 → Nat
 | [] => 0
 | c :: t => if c = 10 then 1 else if c = 13 ∧ t.head? = some 10 then 2 else 0
theorem En_other {c : UInt8} {t : List UInt8} (h : c ≠ 10) (h2 : c ≠ 13) : En (c :: t) = 0 := by simp [En, h, h2]
theorem En_lone {t : List UInt8} (h : t.head? ≠ some 10) : En (13 :: t) = 0 := by simp [En, h]
theorem En_cases (m : List UInt8) : (En m = 0 ∧ ∀ t, m ≠ 10 :: t ∧ m ≠ 13 :: 10 :: t) ∨ (En m = 1 ∧ ∃ t, m = 10 :: t) ∨ (En m = 2 ∧ ∃ t, m = 13 :: 10 :: t) := by
 match m with
 | [] => exact .inl ⟨rfl, fun t => ⟨by simp, by simp⟩⟩
 | c :: t =>
  by_cases h : c = 10
  ·subst h; exact .inr (.inl ⟨rfl, t, rfl⟩)
  ·by_cases h2 : c = 13
   ·subst h2
    match t with
    | [] => exact .inl ⟨rfl, fun t => ⟨by simp, by simp⟩⟩
    | d :: t =>
     by_cases h3 : d = 10
     ·subst h3; exact .inr (.inr ⟨rfl, t, rfl⟩)
     ·exact .inl ⟨En_lone (by simpa using h3), fun t => ⟨by simp, by simp [h3]⟩⟩
   ·exact .inl ⟨En_other h h2, fun t => ⟨by simp [h], by simp [h2]⟩⟩
theorem drop_head {l t : List UInt8} {p : Nat} {x : UInt8} (h : l.drop p = x :: t) : l[p]? = some x ∧ l.drop (p + 1) = t ∧ p < l.length := by
 have h1 : (l.drop p)[0]? = some x := by rw [h]; rfl
 rw [List.getElem?_drop, Nat.add_zero] at h1
 refine ⟨h1, by rw [← List.drop_drop, h]; rfl, ?_⟩
 rcases Nat.lt_or_ge p l.length with h2 | h2
 ·exact h2
 ·rw [List.getElem?_eq_none h2] at h1; cases h1
theorem En_two_le (m : List UInt8) : En m ≤ 2 := by
 rcases En_cases m with ⟨h, _⟩ | ⟨h, _⟩ | ⟨h, _⟩ <;> omega
theorem En_le (m : List UInt8) : En m ≤ m.length := by
 rcases En_cases m with ⟨h, _⟩ | ⟨h, t, rfl⟩ | ⟨h, t, rfl⟩ <;> rw [h] <;> simp
def Stop (m : List UInt8) : Prop := m = [] ∨ (∃ t, m = 44 :: t) ∨ En m ≠ 0
theorem aF_lone {r f c t} (st : St) (h34 : c ≠ 34) (h : st = .un ∨ st = .aq) (hc : c = 13) (ht : En (c :: t) = 0) : run st r f (c :: t) = .err 3 := by
 subst hc
 have e : stp st r f (some 13) = .go .ar r f := by rcases h with rfl | rfl <;> simp [stp, unS, aqS, aF]
 rw [run_go e]
 match t with
 | [] => rw [run_none]; rfl
 | d :: t =>
  have hd : d ≠ 10 := fun h => by subst h; simp [En] at ht
  exact run_bad (by simp [stp, arS, hd])
theorem run_end {st : St} {r f m} (h : st = .un ∨ st = .aq) (hm : m = [] ∨ En m ≠ 0) : run st r f m = .ok (r ++ [f]) (m.drop (En m)) := by
 rcases hm with rfl | hm
 ·rw [run_none]
  rcases h with rfl | rfl <;> rfl
 ·rcases En_cases m with ⟨h1, _⟩ | ⟨h1, t, rfl⟩ | ⟨h1, t, rfl⟩
  ·exact absurd h1 hm
  ·rw [h1]
   have e : stp st r f (some 10) = .fin (r ++ [f]) := by rcases h with rfl | rfl <;> simp [stp, unS, aqS, aF]
   rw [run_fin e]; rfl
  ·rw [h1]
   have e : stp st r f (some 13) = .go .ar r f := by rcases h with rfl | rfl <;> simp [stp, unS, aqS, aF]
   rw [run_go e, run_fin (show stp .ar r f (some 10) = .fin (r ++ [f]) by simp [stp, arS, aF])]; rfl
theorem run_comma {st : St} {r f t} (h : st = .un ∨ st = .aq) : run st r f (44 :: t) = if r.length + 1 = 50 then .err 5 else run .bg (r ++ [f]) [] t := by
 by_cases h50 : r.length + 1 = 50
 ·rw [if_pos h50]
  exact run_bad (by rcases h with rfl | rfl <;> simp [stp, unS, aqS, aF, h50])
 ·rw [if_neg h50]
  exact run_go (by rcases h with rfl | rfl <;> simp [stp, unS, aqS, aF, h50])
theorem run_bg_un {r m} (h : ∀ t, m ≠ 34 :: t) : run .bg r [] m = run .un r [] m := by
 match m with
 | [] => rw [run_none, run_none]; rfl
 | c :: t =>
  have hc : c ≠ 34 := fun e => h t (by rw [e])
  have e : stp .bg r [] (some c) = stp .un r [] (some c) := by simp [stp, bgS, hc]
  rw [run, run, e]
theorem run_bg_qu {r t} : run .bg r [] (34 :: t) = run .qu r [] t := run_go (by simp [stp, bgS])
theorem un_bad {r f c t} (h44 : c ≠ 44) (hE : En (c :: t) = 0) (h : c = 34 ∨ c = 13) : run .un r f (c :: t) = .err 3 := by
 rcases h with rfl | rfl
 ·exact run_bad (by simp [stp, unS, aF])
 ·exact aF_lone .un (by decide) (.inl rfl) rfl hE
theorem ne_ten {c : UInt8} {t : List UInt8} (hE : En (c :: t) = 0) : c ≠ 10 := fun e => by subst e; simp [En] at hE
theorem un_large {r f c t} (h44 : c ≠ 44) (hE : En (c :: t) = 0) (h34 : c ≠ 34) (h13 : c ≠ 13) (hf : f.length = 1000) : run .un r f (c :: t) = .err 5 :=
 run_bad (by simp [stp, unS, ad, h44, h34, h13, ne_ten hE, hf])
theorem un_go {r f c t} (h44 : c ≠ 44) (hE : En (c :: t) = 0) (h34 : c ≠ 34) (h13 : c ≠ 13) (hf : f.length ≠ 1000) : run .un r f (c :: t) = run .un r (f ++ [c]) t :=
 run_go (by simp [stp, unS, ad, h44, h34, h13, ne_ten hE, hf])
theorem qu_end {r f} : run .qu r f [] = .err 3 := by rw [run_none]; rfl
theorem qu_large {r f c t} (h34 : c ≠ 34) (hf : f.length = 1000) : run .qu r f (c :: t) = .err 5 := run_bad (by simp [stp, quS, ad, h34, hf])
theorem qu_go {r f c t} (h34 : c ≠ 34) (hf : f.length ≠ 1000) : run .qu r f (c :: t) = run .qu r (f ++ [c]) t := run_go (by simp [stp, quS, ad, h34, hf])
theorem qu_aq {r f t} : run .qu r f (34 :: t) = run .aq r f t := run_go (by simp [stp, quS])
theorem aq_large {r f t} (hf : f.length = 1000) : run .aq r f (34 :: t) = .err 5 := run_bad (by simp [stp, aqS, ad, hf])
theorem aq_go {r f t} (hf : f.length ≠ 1000) : run .aq r f (34 :: t) = run .qu r (f ++ [34]) t := run_go (by simp [stp, aqS, ad, hf])
theorem aq_bad {r f c t} (h34 : c ≠ 34) (h44 : c ≠ 44) (hE : En (c :: t) = 0) : run .aq r f (c :: t) = .err 3 := by
 by_cases h13 : c = 13
 ·exact aF_lone .aq h34 (.inr rfl) h13 hE
 ·exact run_bad (by simp [stp, aqS, aF, h34, h44, h13, ne_ten hE])
def FErr (l : List UInt8) (st : St) (a k : Nat) : Prop := (k = 3 ∨ k = 5) ∧ ∀ r, run st r [] (l.drop a) = .err k
def FOk (l : List UInt8) (st st' : St) (a : Nat) (s : List UInt8) (n : Nat) : Prop := s.length ≤ 1000 ∧ a ≤ n ∧ n ≤ l.length ∧ Stop (l.drop n) ∧ ∀ r, run st r [] (l.drop a) = run st' r s (l.drop n)
end Go.Proofs.YtkekmokdlgocaaaGreatDoor.Csv.Cv
