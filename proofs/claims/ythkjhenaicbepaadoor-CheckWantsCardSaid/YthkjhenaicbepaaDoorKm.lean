/-
  Programs checked, as plain mathematics: one instruction (stp), a whole program (rn, sk), how deep it goes (dpr, dp), which fields it asks for (nd); a program behind another one.
-/
import Derived.Test.YthkjhenaicbepaaDoorCd
namespace Go.Proofs.YthkjhenaicbepaaDoor.Ck
open Go Vl Cd

/-- The kind that is pushed. -/
def pk (f : List Bool) (op : Int) : Bool := if op = 22 then f.getD 0 false else if op = 23 then f.getD 1 false else decide (op = 1 ∨ op = 2)
/-- One instruction: the stack behind it, and the error (the stack stays where there is one). -/
def stp (f s : List Bool) (x : Ins) : List Bool × Nat :=
  if may x = false ∨ 22 ≤ x.op ∧ f.length = 0 then (s, 1)
  else if ar x.op = 0 then (if 30 ≤ s.length then (s, 13) else (s ++ [pk f x.op], 0))
  else if s.length < ar x.op then (s, 13)
  else if (res x.op (s.drop (s.length - ar x.op))).2 ≠ 0 then (s, (res x.op (s.drop (s.length - ar x.op))).2)
  else (s.take (s.length - ar x.op) ++ [(res x.op (s.drop (s.length - ar x.op))).1], 0)
/-- All of them, from the k-th on: the stack, the index, the error. -/
def rn (f : List Bool) : List Bool → Nat → List Ins → List Bool × Nat × Nat
  | s, k, [] => (s, k, 0)
  | s, k, x :: p => if (stp f s x).2 = 0 then rn f (stp f s x).1 (k + 1) p else (s, k, (stp f s x).2)
/-- How deep it goes. -/
def dpr (f : List Bool) : List Bool → Nat → List Ins → Nat
  | _, m, [] => m
  | s, m, x :: p => if (stp f s x).2 = 0 then dpr f (stp f s x).1 (max m (stp f s x).1.length) p else m
def bad (p : List Ins) (f : List Bool) : Nat := if f.length ≠ 0 ∧ f.length ≠ 2 then 1 else if 200 < p.length then 5 else 0
def sk (p : List Ins) (f : List Bool) : List Bool × Nat × Nat := if bad p f = 0 then rn f [] 0 p else ([], 0, bad p f)
def dp (p : List Ins) (f : List Bool) : Nat := if bad p f = 0 then dpr f [] 0 p else 0
def nd : List Ins → Nat → Nat
  | [], n => n
  | x :: p, n => nd p (if x.op = 2 ∧ may x = true then max n (x.n.toNat + 1) else n)

theorem rn_nil (f s : List Bool) (k : Nat) : rn f s k [] = (s, k, 0) := rfl
theorem rn_go {f s : List Bool} {x : Ins} (k : Nat) (p : List Ins) (h : (stp f s x).2 = 0) : rn f s k (x :: p) = rn f (stp f s x).1 (k + 1) p := by rw [rn, if_pos h]
theorem rn_stop {f s : List Bool} {x : Ins} (k : Nat) (p : List Ins) (h : (stp f s x).2 ≠ 0) : rn f s k (x :: p) = (s, k, (stp f s x).2) := by rw [rn, if_neg h]
theorem dpr_nil (f s : List Bool) (m : Nat) : dpr f s m [] = m := rfl
theorem dpr_go {f s : List Bool} {x : Ins} (m : Nat) (p : List Ins) (h : (stp f s x).2 = 0) : dpr f s m (x :: p) = dpr f (stp f s x).1 (max m (stp f s x).1.length) p := by rw [dpr, if_pos h]
theorem dpr_stop {f s : List Bool} {x : Ins} (m : Nat) (p : List Ins) (h : (stp f s x).2 ≠ 0) : dpr f s m (x :: p) = m := by rw [dpr, if_neg h]
theorem stp_keep {f s : List Bool} {x : Ins} (h : (stp f s x).2 ≠ 0) : (stp f s x).1 = s := by
  unfold stp at h ⊢
  split
  · rfl
  · split
    · split
      · rfl
      · rename_i h1 h2 h3; rw [if_neg h1, if_pos h2, if_neg h3] at h; exact absurd rfl h
    · split
      · rfl
      · split
        · rfl
        · rename_i h1 h2 h3 h4; rw [if_neg h1, if_neg h2, if_neg h3, if_neg h4] at h; exact absurd rfl h
theorem stp_len {f s : List Bool} {x : Ins} (h : s.length ≤ 30) : (stp f s x).1.length ≤ 30 := by
  unfold stp
  split
  · exact h
  · split
    · split
      · exact h
      · simp; omega
    · split
      · exact h
      · split
        · exact h
        · simp; omega
theorem res_err (op : Int) (l : List Bool) : (res op l).2 ≤ 11 := by
  unfold res
  split
  · simp
  · split
    · simp
    · split
      · simp
      · split <;> simp
theorem stp_err (f s : List Bool) (x : Ins) : (stp f s x).2 ≤ 13 := by
  unfold stp
  have := res_err x.op (s.drop (s.length - ar x.op))
  split
  · simp
  · split
    · split <;> simp
    · split
      · simp
      · split
        · show (res _ _).2 ≤ 13; omega
        · simp
theorem rn_len {f : List Bool} : ∀ (p : List Ins) (s : List Bool) (k : Nat), s.length ≤ 30 → (rn f s k p).1.length ≤ 30 ∧ k ≤ (rn f s k p).2.1 ∧ (rn f s k p).2.1 ≤ k + p.length ∧ (rn f s k p).2.2 ≤ 13 ∧ ((rn f s k p).2.2 = 0 ↔ (rn f s k p).2.1 = k + p.length)
  | [], s, k, h => by rw [rn_nil]; simp [h]
  | x :: p, s, k, h => by
    by_cases h0 : (stp f s x).2 = 0
    · rw [rn_go k p h0]
      have := rn_len (f := f) p (stp f s x).1 (k + 1) (stp_len h)
      rw [List.length_cons]
      refine ⟨this.1, by omega, by omega, this.2.2.2.1, ?_⟩
      rw [this.2.2.2.2]; omega
    · rw [rn_stop k p h0]
      have := stp_err f s x
      rw [List.length_cons]
      refine ⟨h, Nat.le_refl _, by show k ≤ _; omega, this, ?_⟩
      constructor
      · intro e; exact absurd e h0
      · intro e; exact absurd e (by show ¬ k = k + (p.length + 1); omega)
theorem bad_take {p : List Ins} {f : List Bool} (k : Nat) (h : bad p f = 0) : bad (p.take k) f = 0 := by
  unfold bad at h ⊢
  split at h
  · cases h
  · rename_i h1
    split at h
    · cases h
    · rename_i h2
      rw [if_neg h1, if_neg (by rw [List.length_take]; omega)]
theorem sk_len (p : List Ins) (f : List Bool) : (sk p f).1.length ≤ 30 ∧ (sk p f).2.1 ≤ p.length ∧ (sk p f).2.2 ≤ 13 ∧ ((sk p f).2.2 = 0 → (sk p f).2.1 = p.length) := by
  unfold sk
  split
  · have := rn_len (f := f) p [] 0 (by simp)
    exact ⟨this.1, by omega, this.2.2.2.1, fun h => by have := this.2.2.2.2.1 h; omega⟩
  · rename_i h
    refine ⟨by simp, by simp, ?_, fun e => absurd e h⟩
    show bad p f ≤ 13
    unfold bad
    split <;> try split
    all_goals omega

/-- The beginning of what goes, goes. -/
theorem rn_take {f : List Bool} : ∀ (p : List Ins) (s : List Bool) (k i : Nat), k + i ≤ (rn f s k p).2.1 → (rn f s k (p.take i)).2 = (k + i, 0) ∧ (k + i = (rn f s k p).2.1 → (rn f s k (p.take i)).1 = (rn f s k p).1)
  | p, s, k, 0, h => by
    rw [List.take_zero, rn_nil]
    refine ⟨rfl, fun e => ?_⟩
    cases p with
    | nil => rfl
    | cons x p =>
      by_cases h0 : (stp f s x).2 = 0
      · rw [rn_go k p h0] at e
        by_cases hl : (rn f (stp f s x).1 (k + 1) p).2.1 = k
        · exfalso
          have : ∀ (q : List Ins) (u : List Bool) (j : Nat), j ≤ (rn f u j q).2.1 := fun q => by
            induction q with
            | nil => intro u j; exact Nat.le_refl _
            | cons y q ih =>
              intro u j
              by_cases hy : (stp f u y).2 = 0
              · rw [rn_go j q hy]; have := ih (stp f u y).1 (j + 1); omega
              · rw [rn_stop j q hy]; exact Nat.le_refl _
          have := this p (stp f s x).1 (k + 1)
          omega
        · exact absurd (by omega) hl
      · rw [rn_stop k p h0]
  | [], s, k, i + 1, h => by rw [rn_nil] at h; exact absurd h (by show ¬ k + (i + 1) ≤ k; omega)
  | x :: p, s, k, i + 1, h => by
    by_cases h0 : (stp f s x).2 = 0
    · rw [rn_go k p h0] at h ⊢
      rw [List.take_succ_cons, rn_go k (p.take i) h0]
      have := rn_take (f := f) p (stp f s x).1 (k + 1) i (by omega)
      rw [show k + (i + 1) = k + 1 + i by omega]
      exact this
    · rw [rn_stop k p h0] at h; exact absurd h (by show ¬ k + (i + 1) ≤ k; omega)
theorem dpr_ge {f : List Bool} : ∀ (p : List Ins) (s : List Bool) (m : Nat), m ≤ dpr f s m p
  | [], _, _ => Nat.le_refl _
  | x :: p, s, m => by
    by_cases h0 : (stp f s x).2 = 0
    · rw [dpr_go m p h0]; have := dpr_ge (f := f) p (stp f s x).1 (max m (stp f s x).1.length); omega
    · rw [dpr_stop m p h0]; exact Nat.le_refl _
theorem dpr_last {f : List Bool} : ∀ (p : List Ins) (s : List Bool) (m k : Nat), s.length ≤ m → (rn f s k p).1.length ≤ dpr f s m p
  | [], s, m, k, h => h
  | x :: p, s, m, k, h => by
    by_cases h0 : (stp f s x).2 = 0
    · rw [dpr_go m p h0, rn_go k p h0]; exact dpr_last p _ _ _ (by omega)
    · rw [dpr_stop m p h0, rn_stop k p h0]; exact h
/-- One instruction more. -/
theorem dpr_take {f : List Bool} : ∀ (p : List Ins) (s : List Bool) (m k i : Nat), k + i + 1 ≤ (rn f s k p).2.1 → dpr f s m (p.take (i + 1)) = max (dpr f s m (p.take i)) (rn f s k (p.take (i + 1))).1.length
  | [], s, m, k, i, h => by rw [rn_nil] at h; simp at h; omega
  | x :: p, s, m, k, i, h => by
    by_cases h0 : (stp f s x).2 = 0
    · rw [rn_go k p h0] at h
      cases i with
      | zero =>
        rw [List.take_succ_cons, List.take_zero, List.take_zero, dpr_go m [] h0, rn_go k [] h0]; rfl
      | succ i =>
        rw [List.take_succ_cons, List.take_succ_cons, dpr_go m _ h0, dpr_go m _ h0, rn_go k _ h0]
        exact dpr_take p _ _ (k + 1) i (by omega)
    · rw [rn_stop k p h0] at h; simp at h; omega
theorem dpr_all {f : List Bool} : ∀ (p : List Ins) (s : List Bool) (m k : Nat), dpr f s m (p.take ((rn f s k p).2.1 - k)) = dpr f s m p
  | [], s, m, k => by simp
  | x :: p, s, m, k => by
    by_cases h0 : (stp f s x).2 = 0
    · have h1 := (show k + 1 ≤ (rn f (stp f s x).1 (k + 1) p).2.1 from by
        have : ∀ (q : List Ins) (u : List Bool) (j : Nat), j ≤ (rn f u j q).2.1 := fun q => by
          induction q with
          | nil => intro u j; exact Nat.le_refl _
          | cons y q ih =>
            intro u j
            by_cases hy : (stp f u y).2 = 0
            · rw [rn_go j q hy]; have := ih (stp f u y).1 (j + 1); omega
            · rw [rn_stop j q hy]; exact Nat.le_refl _
        exact this p _ _)
      rw [rn_go k p h0, show (rn f (stp f s x).1 (k + 1) p).2.1 - k = ((rn f (stp f s x).1 (k + 1) p).2.1 - (k + 1)) + 1 by omega, List.take_succ_cons, dpr_go m _ h0, dpr_go m _ h0]
      exact dpr_all p _ _ (k + 1)
    · rw [rn_stop k p h0, Nat.sub_self, List.take_zero, dpr_stop m p h0]; rfl
/-- How deep the first k instructions go, one by one (as the document counts). -/
theorem dp_step {p : List Ins} {f : List Bool} {i : Nat} (h : i ≤ (sk p f).2.1) : max (dp (p.take (i - 1)) f) (sk (p.take i) f).1.length = dp (p.take i) f := by
  unfold dp sk at *
  by_cases hb : bad p f = 0
  · rw [if_pos hb] at h
    rw [if_pos (bad_take _ hb), if_pos (bad_take _ hb), if_pos (bad_take _ hb)]
    cases i with
    | zero => rfl
    | succ i =>
      rw [Nat.add_sub_cancel]
      exact (dpr_take p [] 0 0 i (by omega)).symm
  · rw [if_neg hb] at h
    obtain rfl : i = 0 := by simpa using h
    rw [List.take_zero]
    by_cases h2 : bad [] f = 0
    · rw [if_pos h2, if_pos h2]; rfl
    · rw [if_neg h2, if_neg h2]; rfl
theorem dp_all (p : List Ins) (f : List Bool) : dp (p.take (sk p f).2.1) f = dp p f := by
  unfold dp sk
  by_cases hb : bad p f = 0
  · rw [if_pos hb, if_pos (bad_take _ hb), if_pos hb]
    exact dpr_all p [] 0 0
  · rw [if_neg hb, if_neg hb, List.take_zero]
    split <;> rfl
theorem sk_take {p : List Ins} {f : List Bool} {i : Nat} (h0 : bad p f = 0) (h : i ≤ (sk p f).2.1) : (sk (p.take i) f).2 = (i, 0) ∧ (i = (sk p f).2.1 → (sk (p.take i) f).1 = (sk p f).1) := by
  unfold sk at *
  rw [if_pos h0] at h
  rw [if_pos (bad_take _ h0), if_pos h0]
  have := rn_take (f := f) p [] 0 i (by omega)
  rw [Nat.zero_add] at this
  exact this
theorem dp_last (p : List Ins) (f : List Bool) : (sk p f).1.length ≤ dp p f := by
  unfold dp sk
  split
  · exact dpr_last p [] 0 0 (by simp)
  · simp

/-- One instruction on a higher stack. -/
theorem stp_up {f u : List Bool} {x : Ins} (b : List Bool) (h : (stp f u x).2 = 0) :
    stp f (b ++ u) x = (b ++ (stp f u x).1, 0) ∨ ((stp f (b ++ u) x).2 = 13 ∧ 30 < b.length + (stp f u x).1.length) := by
  unfold stp at h ⊢
  by_cases h1 : may x = false ∨ 22 ≤ x.op ∧ f.length = 0
  · rw [if_pos h1] at h; cases h
  · rw [if_neg h1] at h ⊢
    rw [if_neg h1]
    by_cases h2 : ar x.op = 0
    · rw [if_pos h2] at h ⊢
      rw [if_pos h2]
      by_cases h3 : 30 ≤ u.length
      · rw [if_pos h3] at h; cases h
      · rw [if_neg h3]
        by_cases h4 : 30 ≤ (b ++ u).length
        · rw [if_pos h4]
          refine .inr ⟨rfl, ?_⟩
          simp at h4 ⊢; omega
        · rw [if_neg h4]
          exact .inl (by simp)
    · rw [if_neg h2] at h ⊢
      rw [if_neg h2]
      by_cases h3 : u.length < ar x.op
      · rw [if_pos h3] at h; cases h
      · rw [if_neg h3] at h ⊢
        have e1 : ¬ (b ++ u).length < ar x.op := by simp; omega
        rw [if_neg e1]
        have e2 : (b ++ u).length - ar x.op = b.length + (u.length - ar x.op) := by simp; omega
        have e3 : (b ++ u).drop ((b ++ u).length - ar x.op) = u.drop (u.length - ar x.op) := by rw [e2, List.drop_append]; simp
        have e4 : (b ++ u).take ((b ++ u).length - ar x.op) = b ++ u.take (u.length - ar x.op) := by rw [e2, List.take_append]; simp [List.take_of_length_le]
        rw [e3, e4]
        by_cases h5 : (res x.op (u.drop (u.length - ar x.op))).2 ≠ 0
        · rw [if_pos h5] at h; exact absurd h h5
        · rw [if_neg h5, if_neg h5]
          exact .inl (by simp)
theorem rn_up {f : List Bool} : ∀ (p : List Ins) (u b : List Bool) (k j m : Nat), (rn f u k p).2.2 = 0 →
    ((rn f (b ++ u) j p).2.2 = 0 ∧ (rn f (b ++ u) j p).1 = b ++ (rn f u k p).1) ∨ ((rn f (b ++ u) j p).2.2 = 13 ∧ 30 < b.length + dpr f u m p)
  | [], u, b, k, j, m, _ => .inl ⟨rfl, rfl⟩
  | x :: p, u, b, k, j, m, h => by
    by_cases h0 : (stp f u x).2 = 0
    · rw [rn_go k p h0] at h ⊢
      rw [dpr_go m p h0]
      rcases stp_up b h0 with e | ⟨e1, e2⟩
      · have e0 : (stp f (b ++ u) x).2 = 0 := by rw [e]
        rw [rn_go j p e0, e]
        exact rn_up p (stp f u x).1 b (k + 1) (j + 1) _ h
      · have e0 : (stp f (b ++ u) x).2 ≠ 0 := by rw [e1]; omega
        rw [rn_stop j p e0]
        refine .inr ⟨e1, ?_⟩
        have := dpr_ge (f := f) p (stp f u x).1 (max m (stp f u x).1.length)
        omega
    · rw [rn_stop k p h0] at h; exact absurd h h0
theorem rn_app {f : List Bool} : ∀ (p q : List Ins) (u : List Bool) (k : Nat), (rn f u k p).2.2 = 0 → rn f u k (p ++ q) = rn f (rn f u k p).1 (k + p.length) q
  | [], q, u, k, _ => rfl
  | x :: p, q, u, k, h => by
    by_cases h0 : (stp f u x).2 = 0
    · rw [rn_go k p h0] at h ⊢
      rw [List.cons_append, rn_go k (p ++ q) h0, rn_app p q _ (k + 1) h, List.length_cons, show k + 1 + p.length = k + (p.length + 1) by omega]
    · rw [rn_stop k p h0] at h; exact absurd h h0
/-- A program twice. -/
theorem sk_twice {p : List Ins} (hp : p.length ≤ 100) (h : (sk p []).2.2 = 0) :
    ((sk (p ++ p) []).2.2 = 0 ∧ (sk (p ++ p) []).1 = (sk p []).1 ++ (sk p []).1) ∨ ((sk (p ++ p) []).2.2 = 13 ∧ 30 < (sk p []).1.length + dp p []) := by
  have b1 : bad p [] = 0 := by unfold bad; rw [if_neg (by simp), if_neg (by omega)]
  have b2 : bad (p ++ p) [] = 0 := by unfold bad; rw [if_neg (by simp), if_neg (by rw [List.length_append]; omega)]
  unfold sk at h ⊢
  unfold dp
  rw [if_pos b1] at h
  rw [if_pos b1, if_pos b2, if_pos b1, rn_app p p [] 0 h]
  have := rn_up p [] (rn [] [] 0 p).1 0 (0 + p.length) 0 h
  rw [List.append_nil] at this
  exact this
theorem nd_le : ∀ (p : List Ins) (n : Nat), n ≤ 50 → nd p n ≤ 50
  | [], _, h => h
  | x :: p, n, h => by
    rw [nd]
    refine nd_le p _ ?_
    split
    · rename_i hx
      have := hx.2
      unfold may at this
      rw [if_neg (by omega), if_neg (by omega), if_pos hx.1] at this
      simp at this; omega
    · exact h
end Go.Proofs.YthkjhenaicbepaaDoor.Ck
