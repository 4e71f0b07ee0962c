/-
  Programs as plain mathematics: names, quotes, figures, the line of an instruction, which instruction a line is of, the lines of a program.
-/
import Derived.Test.YthkjhenaicbepaaDoorVo
namespace Go.Proofs.YthkjhenaicbepaaDoor.Cd
open Go Vl

structure Ins where
  op : Int
  n : Int
  s : List UInt8
deriving DecidableEq
def i0 : Ins := ⟨0, 0, []⟩

/-- All names. -/
def nms : List (List UInt8) := [[110, 117, 109], [116, 101, 120, 116], [102, 105, 101, 108, 100], [99, 111, 117, 110, 116], [97, 100, 100], [115, 117, 98], [109, 117, 108], [100, 105, 118], [109, 111, 100], [106, 111, 105, 110], [108, 101, 110], [115, 108, 105, 99, 101], [117, 112, 112, 101, 114], [108, 111, 119, 101, 114], [101, 113], [108, 101, 115, 115], [110, 111, 116], [105, 102], [116, 111, 110, 117, 109], [116, 111, 116, 101, 120, 116], [104, 97, 115, 104], [102, 105, 110, 100], [97, 99, 99], [105, 116, 101, 109]]
theorem nms_len : nms.length = 24 := rfl
def nmk (k : Nat) : List UInt8 := nms.getD k []
def nm (op : Int) : List UInt8 := if op < 0 ∨ 23 < op then [] else nmk op.toNat
theorem nm_nat {k : Nat} (h : k < 24) : nm (k : Int) = nmk k := by unfold nm; rw [if_neg (by omega)]; rfl
theorem nmk_plain : ∀ k, k < 24 → (nmk k).length ≤ 6 ∧ 2 ≤ (nmk k).length ∧ (∀ c ∈ nmk k, c ≠ 32) ∧ (∀ c ∈ nmk k, c ≠ 10) := by decide +kernel
theorem nmk_inj : ∀ j, j < 24 → ∀ k, k < 24 → nmk j = nmk k → j = k := by decide +kernel
theorem nm_plain (op : Int) : (nm op).length ≤ 6 ∧ (∀ c ∈ nm op, c ≠ 32) ∧ (∀ c ∈ nm op, c ≠ 10) := by
  unfold nm
  split
  · exact ⟨by simp, by simp, by simp⟩
  · have := nmk_plain op.toNat (by omega); exact ⟨this.1, this.2.2.1, this.2.2.2⟩

/-- Quotes. -/
def esc (c : UInt8) : List UInt8 := if c = 92 then [92, 92] else if c = 34 then [92, 34] else if c = 10 then [92, 110] else [c]
def escs (s : List UInt8) : List UInt8 := s.flatMap esc
def qt (s : List UInt8) : List UInt8 := 34 :: (escs s ++ [34])
theorem escs_cons (c : UInt8) (s : List UInt8) : escs (c :: s) = esc c ++ escs s := by simp [escs]
theorem escs_app (s t : List UInt8) : escs (s ++ t) = escs s ++ escs t := by simp [escs]
theorem esc_len (c : UInt8) : (esc c).length ≤ 2 ∧ 1 ≤ (esc c).length := by unfold esc; split <;> try split <;> try split
                                                                            all_goals simp
theorem escs_len : ∀ s : List UInt8, (escs s).length ≤ 2 * s.length ∧ s.length ≤ (escs s).length
  | [] => by simp [escs]
  | c :: s => by rw [escs_cons, List.length_append, List.length_cons]; have := esc_len c; have := escs_len s; omega
theorem esc_ten (c : UInt8) : ∀ d ∈ esc c, d ≠ 10 := by
  unfold esc
  intro d hd
  split at hd
  · simp at hd; subst hd; decide
  · split at hd
    · simp at hd; rcases hd with rfl | rfl <;> decide
    · split at hd
      · simp at hd; rcases hd with rfl | rfl <;> decide
      · simp at hd; subst hd; assumption
theorem escs_ten (s : List UInt8) : ∀ d ∈ escs s, d ≠ 10 := by
  intro d hd
  obtain ⟨c, -, h⟩ := List.mem_flatMap.1 hd
  exact esc_ten c d h
/-- Back: whatever stands there. -/
def unr : List UInt8 → List UInt8
  | 92 :: 92 :: r => 92 :: unr r
  | 92 :: 34 :: r => 34 :: unr r
  | 92 :: 110 :: r => 10 :: unr r
  | c :: r => c :: unr r
  | [] => []
theorem unr_plain {c : UInt8} (r : List UInt8) (h : c ≠ 92) : unr (c :: r) = c :: unr r := by
  cases r with
  | nil => unfold unr; split <;> simp_all [unr]
  | cons d r => conv => lhs; unfold unr
                split <;> simp_all
theorem unr_escs : ∀ s : List UInt8, unr (escs s) = s
  | [] => rfl
  | c :: s => by
    rw [escs_cons]
    unfold esc
    split
    · rename_i h; subst h; show 92 :: unr (escs s) = _; rw [unr_escs s]
    · split
      · rename_i h; subst h; show 34 :: unr (escs s) = _; rw [unr_escs s]
      · split
        · rename_i h; subst h; show 10 :: unr (escs s) = _; rw [unr_escs s]
        · rename_i h _ _; show unr (c :: escs s) = _; rw [unr_plain _ h, unr_escs s]
theorem unr_len : ∀ (k : Nat) (s : List UInt8), s.length ≤ k → (unr s).length ≤ s.length
  | _, [], _ => by unfold unr; simp
  | 0, _ :: _, h => by simp at h
  | k + 1, c :: r, h => by
    have h1 : r.length ≤ k := by simp at h; omega
    have key := unr_len k r h1
    by_cases hc : c = 92
    · subst hc
      cases r with
      | nil => unfold unr; simp [unr]
      | cons d r' =>
        have h2 := unr_len k r' (by simp at h1; omega)
        by_cases d1 : d = 92
        · subst d1; show (92 :: unr r').length ≤ _; simp; omega
        · by_cases d2 : d = 34
          · subst d2; show (34 :: unr r').length ≤ _; simp; omega
          · by_cases d3 : d = 110
            · subst d3; show (10 :: unr r').length ≤ _; simp; omega
            · have e : unr (92 :: d :: r') = 92 :: unr (d :: r') := by
                conv => lhs; unfold unr
                split <;> simp_all
              rw [e]; simp at key ⊢; omega
    · rw [unr_plain _ hc]; simp; omega
theorem qt_inj {s t : List UInt8} (h : qt s = qt t) : s = t := by
  unfold qt at h
  have h1 := (List.cons.inj h).2
  have h2 := (List.append_inj' h1 rfl).1
  rw [← unr_escs s, h2, unr_escs]

/-- What figures write, and no bound asked. -/
def fold : List UInt8 → Int → Int
  | [], n => n
  | c :: l, n => fold l (if c = 45 then n else 10 * n + ((c.toNat : Int) - 48))
theorem fold_app : ∀ (l r : List UInt8) (n : Int), fold (l ++ r) n = fold r (fold l n)
  | [], _, _ => rfl
  | c :: l, r, n => by rw [List.cons_append, fold, fold, fold_app l r]
theorem fold_figs : ∀ (k n : Nat), n < 10 ^ (k + 1) → fold (figs n) 0 = (n : Int)
  | 0, n, h => by
    have hn : n < 10 := by simpa using h
    rw [figs_small hn, fold, fold, if_neg, dig_ok n hn]
    · omega
    · intro e
      have := congrArg UInt8.toNat e
      rw [dig_ok n hn] at this
      have : (45 : UInt8).toNat = 45 := rfl
      omega
  | k + 1, n, h => by
    by_cases hn : n < 10
    · exact fold_figs 0 n (by simpa using hn)
    · have hd : n / 10 < 10 ^ (k + 1) := by
        rw [Nat.pow_succ] at h
        exact Nat.div_lt_of_lt_mul (by rw [Nat.mul_comm]; exact h)
      rw [figs_big hn, fold_app, fold_figs k _ hd, fold, fold, if_neg, dig_ok _ (by omega)]
      · omega
      · intro e
        have := congrArg UInt8.toNat e
        rw [dig_ok _ (by omega)] at this
        have : (45 : UInt8).toNat = 45 := rfl
        omega
def numb (s : List UInt8) : Int := if s.head? = some 45 then w64 (-(fold s 0)) else w64 (fold s 0)
theorem p20 : (10 : Nat) ^ (19 + 1) = 100000000000000000000 := by decide +kernel
theorem numb_figures {a : Int} (h : I a) : numb (figures a) = a := by
  have hI := h
  unfold I at h
  unfold numb figures
  by_cases hn : a < 0
  · rw [if_pos hn]
    show (if some (45 : UInt8) = some 45 then w64 (-(fold (figs (-a).toNat) 0)) else _) = a
    rw [if_pos rfl, fold_figs 19 _ (by rw [p20]; omega), show -(((-a).toNat : Nat) : Int) = a by omega, w64_in hI]
  · rw [if_neg hn]
    have hh : (figs a.toNat).head? ≠ some 45 := fun e => by
      cases hf : figs a.toNat with
      | nil => rw [hf] at e; simp at e
      | cons c l =>
        rw [hf] at e; simp at e
        exact figs_head a.toNat c (by rw [hf]; simp) e
    rw [if_neg hh, fold_figs 19 _ (by rw [p20]; omega), show ((a.toNat : Nat) : Int) = a by omega, w64_in hI]
theorem figs_plain (n : Nat) : ∀ k, n ≤ k → ∀ c ∈ figs n, 48 ≤ c.toNat ∧ c.toNat ≤ 57
  | k, hk => by
    by_cases hn : n < 10
    · intro c hc
      rw [figs_small hn] at hc
      have hc := List.mem_singleton.1 hc
      subst hc
      rw [dig_ok n hn]; omega
    · cases k with
      | zero => omega
      | succ k =>
        intro c hc
        rw [figs_big hn] at hc
        rcases List.mem_append.1 hc with hc | hc
        · exact figs_plain (n / 10) k (by omega) c hc
        · have hc := List.mem_singleton.1 hc
          subst hc
          rw [dig_ok _ (by omega)]; omega
theorem figures_plain (a : Int) : ∀ c ∈ figures a, c = 45 ∨ 48 ≤ c.toNat ∧ c.toNat ≤ 57 := by
  unfold figures
  split
  · intro c hc
    rcases List.mem_cons.1 hc with h | h
    · exact .inl h
    · exact .inr (figs_plain _ _ (Nat.le_refl _) c h)
  · intro c hc; exact .inr (figs_plain _ _ (Nat.le_refl _) c hc)
theorem figures_ten (a : Int) : ∀ c ∈ figures a, c ≠ 10 := fun c hc e => by
  rcases figures_plain a c hc with h | h
  · subst e; cases h
  · subst e; have : (10 : UInt8).toNat = 10 := rfl; omega

/-- May it be. -/
def may (x : Ins) : Bool :=
  if x.op = 0 then x.s == [] else if x.op = 1 then x.n == 0 && decide (x.s.length ≤ 1000) else if x.op = 2 then decide (0 ≤ x.n) && decide (x.n < 50) && x.s == []
  else decide (0 ≤ x.op) && decide (x.op ≤ 23) && x.n == 0 && x.s == []
/-- The operand. -/
def opd (x : Ins) : List UInt8 := if x.op = 1 then qt x.s else figures x.n
def hasO (op : Int) : Bool := op == 0 || op == 1 || op == 2
/-- The line. -/
def ln (x : Ins) : List UInt8 := if hasO x.op then nm x.op ++ 32 :: opd x else nm x.op
theorem hasO_iff (op : Int) : hasO op = true ↔ op = 0 ∨ op = 1 ∨ op = 2 := by unfold hasO; simp [or_assoc]
theorem may_op {x : Ins} (h : may x = true) : 0 ≤ x.op ∧ x.op ≤ 23 := by
  unfold may at h
  split at h
  · omega
  · split at h
    · omega
    · split at h
      · omega
      · simp at h; omega
theorem may_s {x : Ins} (h : may x = true) : x.s.length ≤ 1000 ∧ (x.op ≠ 1 → x.s = []) := by
  unfold may at h
  split at h
  · simp at h; rw [h]; exact ⟨by simp, fun _ => rfl⟩
  · split at h
    · simp at h; exact ⟨h.2, fun q => absurd (by assumption) q⟩
    · split at h
      · simp at h; rw [h.2]; exact ⟨by simp, fun _ => rfl⟩
      · simp at h; rw [h.2]; exact ⟨by simp, fun _ => rfl⟩
theorem may_n {x : Ins} (h : may x = true) (h0 : x.op ≠ 0) (h2 : x.op ≠ 2) : x.n = 0 := by
  unfold may at h
  rw [if_neg h0, if_neg h2] at h
  split at h
  · simp at h; exact h.1
  · simp at h; exact h.1.2
theorem opd_len {x : Ins} (hn : I x.n) (h : may x = true) : (opd x).length ≤ 2002 := by
  unfold opd
  split
  · unfold qt; have := escs_len x.s; have := (may_s h).1; simp; omega
  · have := figures_len hn; omega
theorem ln_len {x : Ins} (hn : I x.n) (h : may x = true) : (ln x).length ≤ 2010 := by
  have := opd_len hn h
  have := nm_plain x.op
  unfold ln
  split
  · simp; omega
  · omega
theorem opd_ten (x : Ins) : ∀ c ∈ opd x, c ≠ 10 := by
  unfold opd
  split
  · intro c hc
    unfold qt at hc
    rcases List.mem_cons.1 hc with h | h
    · subst h; decide
    · rcases List.mem_append.1 h with h | h
      · exact escs_ten _ c h
      · have := List.mem_singleton.1 h; subst this; decide
  · exact figures_ten _
theorem ln_ten (x : Ins) : ∀ c ∈ ln x, c ≠ 10 := by
  unfold ln
  split
  · intro c hc
    rcases List.mem_append.1 hc with h | h
    · exact (nm_plain x.op).2.2 c h
    · rcases List.mem_cons.1 h with h | h
      · subst h; decide
      · exact opd_ten x c h
  · exact (nm_plain x.op).2.2

/-- A cut at the first place of a byte. -/
def cutA (d : UInt8) : List UInt8 → List UInt8
  | [] => []
  | c :: r => if c = d then [] else c :: cutA d r
def cutB (d : UInt8) : List UInt8 → List UInt8
  | [] => []
  | c :: r => if c = d then r else cutB d r
theorem cut_none {d : UInt8} : ∀ {l : List UInt8}, (∀ c ∈ l, c ≠ d) → cutA d l = l ∧ cutB d l = []
  | [], _ => ⟨rfl, rfl⟩
  | c :: r, h => by
    have hc := h c (by simp)
    obtain ⟨a, b⟩ := cut_none (fun x hx => h x (List.mem_cons_of_mem _ hx))
    exact ⟨by rw [cutA, if_neg hc, a], by rw [cutB, if_neg hc, b]⟩
theorem cut_at {d : UInt8} : ∀ {l : List UInt8} (r : List UInt8), (∀ c ∈ l, c ≠ d) → cutA d (l ++ d :: r) = l ∧ cutB d (l ++ d :: r) = r
  | [], r, _ => ⟨by rw [List.nil_append, cutA, if_pos rfl], by rw [List.nil_append, cutB, if_pos rfl]⟩
  | c :: l, r, h => by
    have hc := h c (by simp)
    obtain ⟨a, b⟩ := cut_at (l := l) r (fun x hx => h x (List.mem_cons_of_mem _ hx))
    exact ⟨by rw [List.cons_append, cutA, if_neg hc, a], by rw [List.cons_append, cutB, if_neg hc, b]⟩
theorem ln_cut {x : Ins} (_ : may x = true) : cutA 32 (ln x) = nm x.op ∧ cutB 32 (ln x) = (if hasO x.op then opd x else []) := by
  unfold ln
  split
  · exact cut_at _ (nm_plain x.op).2.1
  · exact cut_none (nm_plain x.op).2.1
theorem nm_inj {a b : Int} (ha : 0 ≤ a ∧ a ≤ 23) (hb : 0 ≤ b ∧ b ≤ 23) (h : nm a = nm b) : a = b := by
  unfold nm at h
  rw [if_neg (by omega), if_neg (by omega)] at h
  have := nmk_inj a.toNat (by omega) b.toNat (by omega) h
  omega
theorem ins_eq {x y : Ins} (hx : may x = true) (hy : may y = true) (hnx : I x.n) (hny : I y.n) (ho : x.op = y.op) (h : hasO x.op = true → opd x = opd y) : x = y := by
  obtain ⟨a, b, c⟩ := x
  obtain ⟨a', b', c'⟩ := y
  dsimp only at ho hnx hny
  subst ho
  have sx := may_s hx
  have sy := may_s hy
  dsimp only at sx sy
  by_cases h1 : a = 1
  · have e := h ((hasO_iff a).2 (by omega))
    unfold opd at e
    dsimp only at e
    rw [if_pos h1, if_pos h1] at e
    have := qt_inj e
    have n1 := may_n hx (by dsimp only; omega) (by dsimp only; omega)
    have n2 := may_n hy (by dsimp only; omega) (by dsimp only; omega)
    dsimp only at n1 n2
    rw [this, n1, n2]
  · rw [sx.2 h1, sy.2 h1]
    by_cases h02 : a = 0 ∨ a = 2
    · have e := h ((hasO_iff a).2 (by omega))
      unfold opd at e
      dsimp only at e
      rw [if_neg h1, if_neg h1] at e
      have := numb_figures hnx
      rw [e, numb_figures hny] at this
      rw [this]
    · have n1 := may_n hx (by dsimp only; omega) (by dsimp only; omega)
      have n2 := may_n hy (by dsimp only; omega) (by dsimp only; omega)
      dsimp only at n1 n2
      rw [n1, n2]
theorem ln_inj {x y : Ins} (hx : may x = true) (hy : may y = true) (hnx : I x.n) (hny : I y.n) (h : ln x = ln y) : x = y := by
  obtain ⟨a1, a2⟩ := ln_cut hx
  obtain ⟨b1, b2⟩ := ln_cut hy
  rw [h] at a1 a2
  have ho := nm_inj (may_op hx) (may_op hy) (a1.symm.trans b1)
  refine ins_eq hx hy hnx hny ho fun hh => ?_
  rw [hh] at a2
  rw [← ho, hh] at b2
  exact a2.symm.trans b2
/-- Good: may it be, and is its number one of the machine's. -/
def Gd (x : Ins) : Prop := may x = true ∧ I x.n
/-- The instruction whose line it is. -/
noncomputable def pr (l : List UInt8) : Option Ins := by
  classical
  exact if h : ∃ x, Gd x ∧ ln x = l then some h.choose else none
theorem pr_some {l : List UInt8} {x : Ins} (h : Gd x) (e : ln x = l) : pr l = some x := by
  unfold pr
  have hh : ∃ x, Gd x ∧ ln x = l := ⟨x, h, e⟩
  rw [dif_pos hh]
  have := hh.choose_spec
  rw [ln_inj this.1.1 h.1 this.1.2 h.2 (this.2.trans e.symm)]
theorem pr_none {l : List UInt8} (h : ∀ x, Gd x → ln x ≠ l) : pr l = none := by
  unfold pr
  rw [dif_neg (fun ⟨x, a, b⟩ => h x a b)]
theorem pr_of {l : List UInt8} {x : Ins} (h : pr l = some x) : Gd x ∧ ln x = l := by
  unfold pr at h
  split at h
  · rename_i hh; rw [← Option.some.inj h]; exact hh.choose_spec
  · cases h
theorem pr_not {l : List UInt8} (h : pr l = none) : ∀ x, Gd x → ln x ≠ l := fun x a b => by rw [pr_some a b] at h; cases h
end Go.Proofs.YthkjhenaicbepaaDoor.Cd
