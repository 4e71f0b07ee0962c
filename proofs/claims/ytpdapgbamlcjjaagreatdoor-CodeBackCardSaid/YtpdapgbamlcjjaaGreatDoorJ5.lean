/-
  Joined: Vo Cd Ce Cg Cp.
-/
import Derived.Test.YtpdapgbamlcjjaaGreatDoorJ4
import Derived.IntWalk
/-
  Values: sums and differences, quotients, numbers written and read, cuts joined, what is found, letters there and back, order, results that are values.
-/
namespace Go.Proofs.YtpdapgbamlcjjaaGreatDoor.Vl
open Go Go.Op

def I (n : Int) : Prop := -9223372036854775808 ≤ n ∧ n ≤ 9223372036854775807
theorem w64_eq (x : Int) : w64 x = (x + 9223372036854775808) % 18446744073709551616 - 9223372036854775808 := by
  unfold w64
  rw [IntKind.wrap_i64]
theorem w64_in {x : Int} (h : I x) : w64 x = x := by rw [w64_eq]; unfold I at h; omega
theorem w64_I (x : Int) : I (w64 x) := by rw [w64_eq]; unfold I; omega
theorem sum_diff {a b : Int} (ha : I a) : w64 (w64 (a + b) - b) = a := by
  rw [w64_eq, w64_eq]; unfold I at ha; omega
theorem quot {a b : Int} (ha : I a) (hb : I b) (h0 : b ≠ 0) : w64 (w64 ((dv a b).1 * b) + (dv a b).2) = a := by
  unfold dv
  rw [if_neg h0]
  by_cases h1 : b = -1
  · subst h1
    rw [if_pos rfl]
    dsimp only
    have e : w64 (-a) * -1 = -(w64 (-a)) := by omega
    rw [e, w64_eq, w64_eq, w64_eq]
    unfold I at ha
    omega
  · rw [if_neg h1]
    dsimp only
    have e := Int.tdiv_mul_add_tmod a b
    have hin : I (a.tdiv b * b) := by
      have h2 : (a.tdiv b * b).natAbs ≤ a.natAbs := by
        rw [Int.natAbs_mul, Int.natAbs_tdiv]
        exact Nat.div_mul_le_self _ _
      unfold I at ha ⊢
      by_cases hlo : a = -9223372036854775808
      · have h3 : (a.tdiv b * b).natAbs ≤ 9223372036854775808 := by omega
        have h4 : a.tdiv b * b ≠ 9223372036854775808 := fun q => by
          have h5 : a.tmod b = -9223372036854775808 - 9223372036854775808 := by omega
          have h6 := Int.natAbs_tmod a b
          have h7 : a.natAbs % b.natAbs < b.natAbs := Nat.mod_lt _ (by omega)
          unfold I at hb
          omega
        omega
      · omega
    rw [w64_in hin, e, w64_in ha]

theorem figs_small {n : Nat} (h : n < 10) : figs n = [UInt8.ofNat (48 + n)] := by
  rw [figs, dif_pos h, Nat.mod_eq_of_lt h]
theorem figs_big {n : Nat} (h : ¬ n < 10) : figs n = figs (n / 10) ++ [UInt8.ofNat (48 + n % 10)] := by rw [figs, dif_neg h]
theorem dig_ok (d : Nat) (h : d < 10) : (UInt8.ofNat (48 + d)).toNat = 48 + d := by
  rw [UInt8.toNat_ofNat']; omega
theorem digs_app : ∀ (l r : List UInt8) (n : Nat), digs (l ++ r) n = (digs l n).bind (digs r)
  | [], _, _ => rfl
  | c :: l, r, n => by
    rw [List.cons_append, digs, digs]
    split
    · rfl
    · exact digs_app l r _
theorem digs_figs : ∀ (k n : Nat), n < 10 ^ (k + 1) → digs (figs n) 0 = some n ∧ (figs n).length ≤ k + 1 ∧ 0 < (figs n).length
  | 0, n, h => by
    have hn : n < 10 := by simpa using h
    rw [figs_small hn]
    refine ⟨?_, by simp, by simp⟩
    rw [digs, dig_ok n hn, if_neg (by omega), digs]
    congr 1
    omega
  | k + 1, n, h => by
    by_cases hn : n < 10
    · have := digs_figs 0 n (by simpa using hn)
      exact ⟨this.1, by omega, this.2.2⟩
    · have hd : n / 10 < 10 ^ (k + 1) := by
        rw [Nat.pow_succ] at h
        exact Nat.div_lt_of_lt_mul (by rw [Nat.mul_comm]; exact h)
      obtain ⟨h1, h2, h3⟩ := digs_figs k (n / 10) hd
      rw [figs_big hn]
      refine ⟨?_, by rw [List.length_append]; simp; omega, by rw [List.length_append]; simp⟩
      rw [digs_app, h1, Option.bind_some, digs, dig_ok _ (by omega), if_neg (by omega), digs]
      congr 1
      omega
theorem figs_head (n : Nat) : ∀ c ∈ figs n, c ≠ 45 := by
  have : ∀ k n : Nat, n < 10 ^ (k + 1) → ∀ c ∈ figs n, c ≠ 45 := by
    intro k
    induction k with
    | zero =>
      intro n h c hc
      have hn : n < 10 := by simpa using h
      rw [figs_small hn] at hc
      have hc := List.mem_singleton.1 hc
      subst hc
      intro e
      have := congrArg UInt8.toNat e
      rw [dig_ok n hn] at this
      have : (45 : UInt8).toNat = 45 := rfl
      omega
    | succ k ih =>
      intro n h c hc
      by_cases hn : n < 10
      · rw [figs_small hn] at hc
        have hc := List.mem_singleton.1 hc
        subst hc
        intro e
        have := congrArg UInt8.toNat e
        rw [dig_ok n hn] at this
        have : (45 : UInt8).toNat = 45 := rfl
        omega
      · have hd : n / 10 < 10 ^ (k + 1) := by
          rw [Nat.pow_succ] at h
          exact Nat.div_lt_of_lt_mul (by rw [Nat.mul_comm]; exact h)
        rw [figs_big hn] at hc
        rcases List.mem_append.1 hc with hc | hc
        · exact ih _ hd c hc
        · have hc := List.mem_singleton.1 hc
          subst hc
          intro e
          have := congrArg UInt8.toNat e
          rw [dig_ok (n % 10) (by omega)] at this
          have : (45 : UInt8).toNat = 45 := rfl
          omega
  refine this n n ?_
  have h : ∀ k : Nat, k < 10 ^ (k + 1) := fun k => by
    induction k with
    | zero => simp
    | succ k ih => rw [Nat.pow_succ]; omega
  exact h n
theorem numD_figs {n : Nat} (h : n < 1000000000000000000) : numD (figs n) = some n := by
  obtain ⟨h1, h2, h3⟩ := digs_figs 17 n (by simpa using h)
  unfold numD
  rw [if_neg (by omega), h1]
theorem number_pos {l : List UInt8} (h : ∀ c ∈ l, c ≠ 45) : number l = match numD l with | some n => (n : Int) | none => 0 := by
  unfold number
  split
  · exact absurd rfl (h 45 (List.mem_cons_self ..))
  · rfl
theorem number_figures {a : Int} (h : -1000000000000000000 < a) (h2 : a < 1000000000000000000) : number (figures a) = a := by
  unfold figures
  by_cases hn : a < 0
  · rw [if_pos hn]
    show (match numD (figs (-a).toNat) with | some n => -(n : Int) | none => 0) = a
    rw [numD_figs (by omega)]
    show -(((-a).toNat : Nat) : Int) = a
    omega
  · rw [if_neg hn, number_pos (figs_head _), numD_figs (by omega)]
    show ((a.toNat : Nat) : Int) = a
    omega
theorem figures_len {a : Int} (h : I a) : (figures a).length ≤ 20 := by
  unfold I at h
  have hp : (10 : Nat) ^ (18 + 1) = 10000000000000000000 := by decide +kernel
  unfold figures
  split
  · have := (digs_figs 18 (-a).toNat (by rw [hp]; omega)).2.1
    simp; omega
  · have := (digs_figs 18 a.toNat (by rw [hp]; omega)).2.1
    omega
end Go.Proofs.YtpdapgbamlcjjaaGreatDoor.Vl

/-
  Programs as plain mathematics: names, quotes, figures, the line of an instruction, which instruction a line is of, the lines of a program.
-/
namespace Go.Proofs.YtpdapgbamlcjjaaGreatDoor.Cd
open Go Vl

structure Ins where
  op : Int
  n : Int
  s : List UInt8
deriving DecidableEq
def i0 : Ins := ⟨0, 0, []⟩

/-- All names. -/
def nms : List (List UInt8) := [[110, 117, 109], [116, 101, 120, 116], [102, 105, 101, 108, 100], [99, 111, 117, 110, 116], [97, 100, 100], [115, 117, 98], [109, 117, 108], [100, 105, 118], [109, 111, 100], [106, 111, 105, 110], [108, 101, 110], [115, 108, 105, 99, 101], [117, 112, 112, 101, 114], [108, 111, 119, 101, 114], [101, 113], [108, 101, 115, 115], [110, 111, 116], [105, 102], [116, 111, 110, 117, 109], [116, 111, 116, 101, 120, 116], [104, 97, 115, 104], [102, 105, 110, 100], [97, 99, 99], [105, 116, 101, 109]]
theorem nms_len : nms.length = 24 := rfl
def nmk (k : Nat) : List UInt8 := nms.getD k []
def nm (op : Int) : List UInt8 := if op < 0 ∨ 23 < op then [] else nmk op.toNat
theorem nm_nat {k : Nat} (h : k < 24) : nm (k : Int) = nmk k := by unfold nm; rw [if_neg (by omega)]; rfl
theorem nmk_plain : ∀ k, k < 24 → (nmk k).length ≤ 6 ∧ 2 ≤ (nmk k).length ∧ (∀ c ∈ nmk k, c ≠ 32) ∧ (∀ c ∈ nmk k, c ≠ 10) := by decide +kernel
theorem nmk_inj : ∀ j, j < 24 → ∀ k, k < 24 → nmk j = nmk k → j = k := by decide +kernel
theorem nm_plain (op : Int) : (nm op).length ≤ 6 ∧ (∀ c ∈ nm op, c ≠ 32) ∧ (∀ c ∈ nm op, c ≠ 10) := by
  unfold nm
  split
  · exact ⟨by simp, by simp, by simp⟩
  · have := nmk_plain op.toNat (by omega); exact ⟨this.1, this.2.2.1, this.2.2.2⟩

/-- Quotes. -/
def esc (c : UInt8) : List UInt8 := if c = 92 then [92, 92] else if c = 34 then [92, 34] else if c = 10 then [92, 110] else [c]
def escs (s : List UInt8) : List UInt8 := s.flatMap esc
def qt (s : List UInt8) : List UInt8 := 34 :: (escs s ++ [34])
theorem escs_cons (c : UInt8) (s : List UInt8) : escs (c :: s) = esc c ++ escs s := by simp [escs]
theorem escs_app (s t : List UInt8) : escs (s ++ t) = escs s ++ escs t := by simp [escs]
theorem esc_len (c : UInt8) : (esc c).length ≤ 2 ∧ 1 ≤ (esc c).length := by unfold esc; split <;> try split <;> try split
                                                                            all_goals simp
theorem escs_len : ∀ s : List UInt8, (escs s).length ≤ 2 * s.length ∧ s.length ≤ (escs s).length
  | [] => by simp [escs]
  | c :: s => by rw [escs_cons, List.length_append, List.length_cons]; have := esc_len c; have := escs_len s; omega
theorem esc_ten (c : UInt8) : ∀ d ∈ esc c, d ≠ 10 := by
  unfold esc
  intro d hd
  split at hd
  · simp at hd; subst hd; decide
  · split at hd
    · simp at hd; rcases hd with rfl | rfl <;> decide
    · split at hd
      · simp at hd; rcases hd with rfl | rfl <;> decide
      · simp at hd; subst hd; assumption
theorem escs_ten (s : List UInt8) : ∀ d ∈ escs s, d ≠ 10 := by
  intro d hd
  obtain ⟨c, -, h⟩ := List.mem_flatMap.1 hd
  exact esc_ten c d h
/-- Back: whatever stands there. -/
def unr : List UInt8 → List UInt8
  | 92 :: 92 :: r => 92 :: unr r
  | 92 :: 34 :: r => 34 :: unr r
  | 92 :: 110 :: r => 10 :: unr r
  | c :: r => c :: unr r
  | [] => []
theorem unr_plain {c : UInt8} (r : List UInt8) (h : c ≠ 92) : unr (c :: r) = c :: unr r := by
  cases r with
  | nil => unfold unr; split <;> simp_all [unr]
  | cons d r => conv => lhs; unfold unr
                split <;> simp_all
theorem unr_escs : ∀ s : List UInt8, unr (escs s) = s
  | [] => rfl
  | c :: s => by
    rw [escs_cons]
    unfold esc
    split
    · rename_i h; subst h; show 92 :: unr (escs s) = _; rw [unr_escs s]
    · split
      · rename_i h; subst h; show 34 :: unr (escs s) = _; rw [unr_escs s]
      · split
        · rename_i h; subst h; show 10 :: unr (escs s) = _; rw [unr_escs s]
        · rename_i h _ _; show unr (c :: escs s) = _; rw [unr_plain _ h, unr_escs s]
theorem unr_len : ∀ (k : Nat) (s : List UInt8), s.length ≤ k → (unr s).length ≤ s.length
  | _, [], _ => by unfold unr; simp
  | 0, _ :: _, h => by simp at h
  | k + 1, c :: r, h => by
    have h1 : r.length ≤ k := by simp at h; omega
    have key := unr_len k r h1
    by_cases hc : c = 92
    · subst hc
      cases r with
      | nil => unfold unr; simp [unr]
      | cons d r' =>
        have h2 := unr_len k r' (by simp at h1; omega)
        by_cases d1 : d = 92
        · subst d1; show (92 :: unr r').length ≤ _; simp; omega
        · by_cases d2 : d = 34
          · subst d2; show (34 :: unr r').length ≤ _; simp; omega
          · by_cases d3 : d = 110
            · subst d3; show (10 :: unr r').length ≤ _; simp; omega
            · have e : unr (92 :: d :: r') = 92 :: unr (d :: r') := by
                conv => lhs; unfold unr
                split <;> simp_all
              rw [e]; simp at key ⊢; omega
    · rw [unr_plain _ hc]; simp; omega
theorem qt_inj {s t : List UInt8} (h : qt s = qt t) : s = t := by
  unfold qt at h
  have h1 := (List.cons.inj h).2
  have h2 := (List.append_inj' h1 rfl).1
  rw [← unr_escs s, h2, unr_escs]

/-- What figures write, and no bound asked. -/
def fold : List UInt8 → Int → Int
  | [], n => n
  | c :: l, n => fold l (if c = 45 then n else 10 * n + ((c.toNat : Int) - 48))
theorem fold_app : ∀ (l r : List UInt8) (n : Int), fold (l ++ r) n = fold r (fold l n)
  | [], _, _ => rfl
  | c :: l, r, n => by rw [List.cons_append, fold, fold, fold_app l r]
theorem fold_figs : ∀ (k n : Nat), n < 10 ^ (k + 1) → fold (figs n) 0 = (n : Int)
  | 0, n, h => by
    have hn : n < 10 := by simpa using h
    rw [figs_small hn, fold, fold, if_neg, dig_ok n hn]
    · omega
    · intro e
      have := congrArg UInt8.toNat e
      rw [dig_ok n hn] at this
      have : (45 : UInt8).toNat = 45 := rfl
      omega
  | k + 1, n, h => by
    by_cases hn : n < 10
    · exact fold_figs 0 n (by simpa using hn)
    · have hd : n / 10 < 10 ^ (k + 1) := by
        rw [Nat.pow_succ] at h
        exact Nat.div_lt_of_lt_mul (by rw [Nat.mul_comm]; exact h)
      rw [figs_big hn, fold_app, fold_figs k _ hd, fold, fold, if_neg, dig_ok _ (by omega)]
      · omega
      · intro e
        have := congrArg UInt8.toNat e
        rw [dig_ok _ (by omega)] at this
        have : (45 : UInt8).toNat = 45 := rfl
        omega
def numb (s : List UInt8) : Int := if s.head? = some 45 then w64 (-(fold s 0)) else w64 (fold s 0)
theorem p20 : (10 : Nat) ^ (19 + 1) = 100000000000000000000 := by decide +kernel
theorem numb_figures {a : Int} (h : I a) : numb (figures a) = a := by
  have hI := h
  unfold I at h
  unfold numb figures
  by_cases hn : a < 0
  · rw [if_pos hn]
    show (if some (45 : UInt8) = some 45 then w64 (-(fold (figs (-a).toNat) 0)) else _) = a
    rw [if_pos rfl, fold_figs 19 _ (by rw [p20]; omega), show -(((-a).toNat : Nat) : Int) = a by omega, w64_in hI]
  · rw [if_neg hn]
    have hh : (figs a.toNat).head? ≠ some 45 := fun e => by
      cases hf : figs a.toNat with
      | nil => rw [hf] at e; simp at e
      | cons c l =>
        rw [hf] at e; simp at e
        exact figs_head a.toNat c (by rw [hf]; simp) e
    rw [if_neg hh, fold_figs 19 _ (by rw [p20]; omega), show ((a.toNat : Nat) : Int) = a by omega, w64_in hI]
theorem figs_plain (n : Nat) : ∀ k, n ≤ k → ∀ c ∈ figs n, 48 ≤ c.toNat ∧ c.toNat ≤ 57
  | k, hk => by
    by_cases hn : n < 10
    · intro c hc
      rw [figs_small hn] at hc
      have hc := List.mem_singleton.1 hc
      subst hc
      rw [dig_ok n hn]; omega
    · cases k with
      | zero => omega
      | succ k =>
        intro c hc
        rw [figs_big hn] at hc
        rcases List.mem_append.1 hc with hc | hc
        · exact figs_plain (n / 10) k (by omega) c hc
        · have hc := List.mem_singleton.1 hc
          subst hc
          rw [dig_ok _ (by omega)]; omega
theorem figures_plain (a : Int) : ∀ c ∈ figures a, c = 45 ∨ 48 ≤ c.toNat ∧ c.toNat ≤ 57 := by
  unfold figures
  split
  · intro c hc
    rcases List.mem_cons.1 hc with h | h
    · exact .inl h
    · exact .inr (figs_plain _ _ (Nat.le_refl _) c h)
  · intro c hc; exact .inr (figs_plain _ _ (Nat.le_refl _) c hc)
theorem figures_ten (a : Int) : ∀ c ∈ figures a, c ≠ 10 := fun c hc e => by
  rcases figures_plain a c hc with h | h
  · subst e; cases h
  · subst e; have : (10 : UInt8).toNat = 10 := rfl; omega

/-- May it be. -/
def may (x : Ins) : Bool :=
  if x.op = 0 then x.s == [] else if x.op = 1 then x.n == 0 && decide (x.s.length ≤ 1000) else if x.op = 2 then decide (0 ≤ x.n) && decide (x.n < 50) && x.s == []
  else decide (0 ≤ x.op) && decide (x.op ≤ 23) && x.n == 0 && x.s == []
/-- The operand. -/
def opd (x : Ins) : List UInt8 := if x.op = 1 then qt x.s else figures x.n
def hasO (op : Int) : Bool := op == 0 || op == 1 || op == 2
/-- The line. -/
def ln (x : Ins) : List UInt8 := if hasO x.op then nm x.op ++ 32 :: opd x else nm x.op
theorem hasO_iff (op : Int) : hasO op = true ↔ op = 0 ∨ op = 1 ∨ op = 2 := by unfold hasO; simp [or_assoc]
theorem may_op {x : Ins} (h : may x = true) : 0 ≤ x.op ∧ x.op ≤ 23 := by
  unfold may at h
  split at h
  · omega
  · split at h
    · omega
    · split at h
      · omega
      · simp at h; omega
theorem may_s {x : Ins} (h : may x = true) : x.s.length ≤ 1000 ∧ (x.op ≠ 1 → x.s = []) := by
  unfold may at h
  split at h
  · simp at h; rw [h]; exact ⟨by simp, fun _ => rfl⟩
  · split at h
    · simp at h; exact ⟨h.2, fun q => absurd (by assumption) q⟩
    · split at h
      · simp at h; rw [h.2]; exact ⟨by simp, fun _ => rfl⟩
      · simp at h; rw [h.2]; exact ⟨by simp, fun _ => rfl⟩
theorem may_n {x : Ins} (h : may x = true) (h0 : x.op ≠ 0) (h2 : x.op ≠ 2) : x.n = 0 := by
  unfold may at h
  rw [if_neg h0, if_neg h2] at h
  split at h
  · simp at h; exact h.1
  · simp at h; exact h.1.2
theorem opd_len {x : Ins} (hn : I x.n) (h : may x = true) : (opd x).length ≤ 2002 := by
  unfold opd
  split
  · unfold qt; have := escs_len x.s; have := (may_s h).1; simp; omega
  · have := figures_len hn; omega
theorem ln_len {x : Ins} (hn : I x.n) (h : may x = true) : (ln x).length ≤ 2010 := by
  have := opd_len hn h
  have := nm_plain x.op
  unfold ln
  split
  · simp; omega
  · omega
theorem opd_ten (x : Ins) : ∀ c ∈ opd x, c ≠ 10 := by
  unfold opd
  split
  · intro c hc
    unfold qt at hc
    rcases List.mem_cons.1 hc with h | h
    · subst h; decide
    · rcases List.mem_append.1 h with h | h
      · exact escs_ten _ c h
      · have := List.mem_singleton.1 h; subst this; decide
  · exact figures_ten _
theorem ln_ten (x : Ins) : ∀ c ∈ ln x, c ≠ 10 := by
  unfold ln
  split
  · intro c hc
    rcases List.mem_append.1 hc with h | h
    · exact (nm_plain x.op).2.2 c h
    · rcases List.mem_cons.1 h with h | h
      · subst h; decide
      · exact opd_ten x c h
  · exact (nm_plain x.op).2.2

/-- A cut at the first place of a byte. -/
def cutA (d : UInt8) : List UInt8 → List UInt8
  | [] => []
  | c :: r => if c = d then [] else c :: cutA d r
def cutB (d : UInt8) : List UInt8 → List UInt8
  | [] => []
  | c :: r => if c = d then r else cutB d r
theorem cut_none {d : UInt8} : ∀ {l : List UInt8}, (∀ c ∈ l, c ≠ d) → cutA d l = l ∧ cutB d l = []
  | [], _ => ⟨rfl, rfl⟩
  | c :: r, h => by
    have hc := h c (by simp)
    obtain ⟨a, b⟩ := cut_none (fun x hx => h x (List.mem_cons_of_mem _ hx))
    exact ⟨by rw [cutA, if_neg hc, a], by rw [cutB, if_neg hc, b]⟩
theorem cut_at {d : UInt8} : ∀ {l : List UInt8} (r : List UInt8), (∀ c ∈ l, c ≠ d) → cutA d (l ++ d :: r) = l ∧ cutB d (l ++ d :: r) = r
  | [], r, _ => ⟨by rw [List.nil_append, cutA, if_pos rfl], by rw [List.nil_append, cutB, if_pos rfl]⟩
  | c :: l, r, h => by
    have hc := h c (by simp)
    obtain ⟨a, b⟩ := cut_at (l := l) r (fun x hx => h x (List.mem_cons_of_mem _ hx))
    exact ⟨by rw [List.cons_append, cutA, if_neg hc, a], by rw [List.cons_append, cutB, if_neg hc, b]⟩
theorem ln_cut {x : Ins} (_ : may x = true) : cutA 32 (ln x) = nm x.op ∧ cutB 32 (ln x) = (if hasO x.op then opd x else []) := by
  unfold ln
  split
  · exact cut_at _ (nm_plain x.op).2.1
  · exact cut_none (nm_plain x.op).2.1
theorem nm_inj {a b : Int} (ha : 0 ≤ a ∧ a ≤ 23) (hb : 0 ≤ b ∧ b ≤ 23) (h : nm a = nm b) : a = b := by
  unfold nm at h
  rw [if_neg (by omega), if_neg (by omega)] at h
  have := nmk_inj a.toNat (by omega) b.toNat (by omega) h
  omega
theorem ins_eq {x y : Ins} (hx : may x = true) (hy : may y = true) (hnx : I x.n) (hny : I y.n) (ho : x.op = y.op) (h : hasO x.op = true → opd x = opd y) : x = y := by
  obtain ⟨a, b, c⟩ := x
  obtain ⟨a', b', c'⟩ := y
  dsimp only at ho hnx hny
  subst ho
  have sx := may_s hx
  have sy := may_s hy
  dsimp only at sx sy
  by_cases h1 : a = 1
  · have e := h ((hasO_iff a).2 (by omega))
    unfold opd at e
    dsimp only at e
    rw [if_pos h1, if_pos h1] at e
    have := qt_inj e
    have n1 := may_n hx (by dsimp only; omega) (by dsimp only; omega)
    have n2 := may_n hy (by dsimp only; omega) (by dsimp only; omega)
    dsimp only at n1 n2
    rw [this, n1, n2]
  · rw [sx.2 h1, sy.2 h1]
    by_cases h02 : a = 0 ∨ a = 2
    · have e := h ((hasO_iff a).2 (by omega))
      unfold opd at e
      dsimp only at e
      rw [if_neg h1, if_neg h1] at e
      have := numb_figures hnx
      rw [e, numb_figures hny] at this
      rw [this]
    · have n1 := may_n hx (by dsimp only; omega) (by dsimp only; omega)
      have n2 := may_n hy (by dsimp only; omega) (by dsimp only; omega)
      dsimp only at n1 n2
      rw [n1, n2]
theorem ln_inj {x y : Ins} (hx : may x = true) (hy : may y = true) (hnx : I x.n) (hny : I y.n) (h : ln x = ln y) : x = y := by
  obtain ⟨a1, a2⟩ := ln_cut hx
  obtain ⟨b1, b2⟩ := ln_cut hy
  rw [h] at a1 a2
  have ho := nm_inj (may_op hx) (may_op hy) (a1.symm.trans b1)
  refine ins_eq hx hy hnx hny ho fun hh => ?_
  rw [hh] at a2
  rw [← ho, hh] at b2
  exact a2.symm.trans b2
/-- Good: may it be, and is its number one of the machine's. -/
def Gd (x : Ins) : Prop := may x = true ∧ I x.n
/-- The instruction whose line it is. -/
noncomputable def pr (l : List UInt8) : Option Ins := by
  classical
  exact if h : ∃ x, Gd x ∧ ln x = l then some h.choose else none
theorem pr_some {l : List UInt8} {x : Ins} (h : Gd x) (e : ln x = l) : pr l = some x := by
  unfold pr
  have hh : ∃ x, Gd x ∧ ln x = l := ⟨x, h, e⟩
  rw [dif_pos hh]
  have := hh.choose_spec
  rw [ln_inj this.1.1 h.1 this.1.2 h.2 (this.2.trans e.symm)]
theorem pr_none {l : List UInt8} (h : ∀ x, Gd x → ln x ≠ l) : pr l = none := by
  unfold pr
  rw [dif_neg (fun ⟨x, a, b⟩ => h x a b)]
theorem pr_of {l : List UInt8} {x : Ins} (h : pr l = some x) : Gd x ∧ ln x = l := by
  unfold pr at h
  split at h
  · rename_i hh; rw [← Option.some.inj h]; exact hh.choose_spec
  · cases h
theorem pr_not {l : List UInt8} (h : pr l = none) : ∀ x, Gd x → ln x ≠ l := fun x a b => by rw [pr_some a b] at h; cases h
end Go.Proofs.YtpdapgbamlcjjaaGreatDoor.Cd

/-
  What quotes count; a prefix of what is written; replacements back.
-/
namespace Go.Proofs.YtpdapgbamlcjjaaGreatDoor.Cd
open Go Vl

/-- How many bytes are written as two. -/
def cnt (l : List UInt8) : Nat := l.count 10 + l.count 34 + l.count 92
theorem cnt_cons (c : UInt8) (l : List UInt8) : cnt (c :: l) = cnt l + (if (esc c).length = 2 then 1 else 0) := by
  unfold cnt esc
  simp only [List.count_cons]
  by_cases h1 : c = 92
  · subst h1; simp; omega
  · by_cases h2 : c = 34
    · subst h2; simp; omega
    · by_cases h3 : c = 10
      · subst h3; simp; omega
      · simp [h1, h2, h3]
theorem esc_cases (c : UInt8) : (esc c = [c] ∧ (esc c).length = 1) ∨ (esc c).length = 2 := by
  unfold esc
  split
  · exact .inr rfl
  · split
    · exact .inr rfl
    · split
      · exact .inr rfl
      · exact .inl ⟨rfl, rfl⟩
theorem escs_cnt : ∀ l : List UInt8, (escs l).length = l.length + cnt l
  | [] => rfl
  | c :: l => by
    rw [escs_cons, List.length_append, escs_cnt l, cnt_cons, List.length_cons]
    rcases esc_cases c with ⟨-, h⟩ | h
    · rw [if_neg (by omega)]; omega
    · rw [if_pos h]; omega
theorem escs_none : ∀ l : List UInt8, cnt l = 0 → escs l = l
  | [], _ => rfl
  | c :: l, h => by
    rw [cnt_cons] at h
    rw [escs_cons]
    rcases esc_cases c with ⟨h1, -⟩ | h1
    · rw [h1, escs_none l (by omega)]; rfl
    · rw [if_pos h1] at h; omega
theorem cnt_le (l : List UInt8) : cnt l ≤ l.length := by have := escs_cnt l; have := (escs_len l).1; omega
theorem cnt_take (l : List UInt8) (k : Nat) (c : UInt8) (h : l[k]? = some c) : cnt (l.take (k + 1)) = cnt (l.take k) + (if (esc c).length = 2 then 1 else 0) := by
  have key : ∀ a b : List UInt8, cnt (a ++ b) = cnt a + cnt b := fun a b => by unfold cnt; simp only [List.count_append]; omega
  rw [List.take_add_one, h, key]
  show _ + cnt [c] = _
  rw [cnt_cons]; simp [cnt]
theorem escs_take (l : List UInt8) (k : Nat) (c : UInt8) (h : l[k]? = some c) : escs (l.take (k + 1)) = escs (l.take k) ++ esc c := by
  rw [List.take_add_one, h, escs_app]; simp [escs]
theorem escs_split (l : List UInt8) (k : Nat) : escs l = escs (l.take k) ++ escs (l.drop k) := by rw [← escs_app, List.take_append_drop]
end Go.Proofs.YtpdapgbamlcjjaaGreatDoor.Cd

/-
  What a text is while its signs for quotes are turned back, from left to right.
-/
namespace Go.Proofs.YtpdapgbamlcjjaaGreatDoor.Cd
open Go Vl

/-- Written so far is B; last to i stands as it is. -/
def J (l B : List UInt8) (last i : Nat) : Prop := unr l = B ++ ((l.drop last).take (i - last) ++ unr (l.drop i))
theorem J_start (l : List UInt8) : J l [] 0 0 := by unfold J; simp
theorem take_next {l : List UInt8} {last i : Nat} {c : UInt8} (h : l[i]? = some c) (hi : last ≤ i) : (l.drop last).take (i + 1 - last) = (l.drop last).take (i - last) ++ [c] := by
  rw [show i + 1 - last = (i - last) + 1 by omega, List.take_add_one, List.getElem?_drop, show last + (i - last) = i by omega, h]
  rfl
theorem drop_at {l : List UInt8} {i : Nat} {c : UInt8} (h : l[i]? = some c) : l.drop i = c :: l.drop (i + 1) := by
  obtain ⟨hi, rfl⟩ := List.getElem?_eq_some_iff.1 h
  exact List.drop_eq_getElem_cons hi
theorem J_one {l B : List UInt8} {last i : Nat} {c : UInt8} (h : J l B last i) (hc : l[i]? = some c) (hi : last ≤ i) (hu : unr (l.drop i) = c :: unr (l.drop (i + 1))) : J l B last (i + 1) := by
  unfold J at h ⊢
  rw [h, hu, take_next hc hi, List.append_assoc]; rfl
theorem J_plain {l B : List UInt8} {last i : Nat} {c : UInt8} (h : J l B last i) (hc : l[i]? = some c) (hi : last ≤ i) (hn : c ≠ 92) : J l B last (i + 1) :=
  J_one h hc hi (by rw [drop_at hc, unr_plain _ hn])
theorem unr_lone (d : UInt8) (r : List UInt8) (h1 : d ≠ 92) (h2 : d ≠ 34) (h3 : d ≠ 110) : unr (92 :: d :: r) = 92 :: unr (d :: r) := by
  conv => lhs; unfold unr
  split <;> simp_all
theorem J_lone {l B : List UInt8} {last i : Nat} (h : J l B last i) (hc : l[i]? = some 92) (hi : last ≤ i) (hn : ∀ d, l[i + 1]? = some d → d ≠ 92 ∧ d ≠ 34 ∧ d ≠ 110) : J l B last (i + 1) :=
  J_one h hc hi (by
    rw [drop_at hc]
    cases hd : l[i + 1]? with
    | none =>
      have : l.drop (i + 1) = [] := List.drop_of_length_le (List.getElem?_eq_none_iff.1 hd)
      rw [this]; rfl
    | some d =>
      obtain ⟨h1, h2, h3⟩ := hn d hd
      rw [drop_at hd, unr_lone d _ h1 h2 h3])
theorem J_two {l B : List UInt8} {last i : Nat} {d v : UInt8} (h : J l B last i) (hc : l[i]? = some 92) (hd : l[i + 1]? = some d) (hv : d = 92 ∧ v = 92 ∨ d = 34 ∧ v = 34 ∨ d = 110 ∧ v = 10) :
    J l ((B ++ (l.drop last).take (i - last)) ++ [v]) (i + 2) (i + 2) := by
  unfold J at h ⊢
  rw [h, drop_at hc, drop_at hd]
  have : unr (92 :: d :: l.drop (i + 1 + 1)) = v :: unr (l.drop (i + 2)) := by
    rcases hv with ⟨rfl, rfl⟩ | ⟨rfl, rfl⟩ | ⟨rfl, rfl⟩ <;> rfl
  rw [this]
  simp
theorem J_len {l B : List UInt8} {last i : Nat} (h : J l B last i) : B.length ≤ l.length := by
  have h1 := unr_len l.length l (Nat.le_refl _)
  unfold J at h
  rw [h, List.length_append] at h1
  omega
theorem J_len2 {l B : List UInt8} {last i : Nat} (h : J l B last i) : B.length + ((l.drop last).take (i - last)).length ≤ l.length := by
  have h1 := unr_len l.length l (Nat.le_refl _)
  unfold J at h
  rw [h, List.length_append, List.length_append] at h1
  omega
theorem J_past {l B : List UInt8} {last i : Nat} (h : J l B last i) (hi : l.length ≤ i) : J l B last (i + 1) := by
  unfold J at h ⊢
  rw [h, List.drop_of_length_le hi, List.drop_of_length_le (show l.length ≤ i + 1 by omega), List.take_of_length_le (by rw [List.length_drop]; omega), List.take_of_length_le (by rw [List.length_drop]; omega)]
theorem J_end {l B : List UInt8} {last i : Nat} (h : J l B last i) (hi : l.length ≤ i) : unr l = B ++ l.drop last := by
  unfold J at h
  rw [h, List.drop_of_length_le hi, List.take_of_length_le (by rw [List.length_drop]; omega)]
  simp [unr]
end Go.Proofs.YtpdapgbamlcjjaaGreatDoor.Cd

/-
  The lines of a program, as plain mathematics: printed, cut, read.
-/
namespace Go.Proofs.YtpdapgbamlcjjaaGreatDoor.Cd
open Go Vl

/-- The lines of instructions, each with its end. -/
def pb (p : List Ins) : List UInt8 := p.flatMap fun x => ln x ++ [10]
theorem pb_app (p q : List Ins) : pb (p ++ q) = pb p ++ pb q := by simp [pb]
theorem pb_one (x : Ins) : pb [x] = ln x ++ [10] := by simp [pb]
/-- Texts, each with its end. -/
def cat (L : List (List UInt8)) : List UInt8 := L.flatMap fun l => l ++ [10]
theorem cat_app (p q : List (List UInt8)) : cat (p ++ q) = cat p ++ cat q := by simp [cat]
theorem cat_cons (l : List UInt8) (L : List (List UInt8)) : cat (l :: L) = l ++ 10 :: cat L := by simp [cat]
theorem pb_cat (p : List Ins) : pb p = cat (p.map ln) := by
  induction p with
  | nil => rfl
  | cons x p ih => rw [List.map_cons, cat_cons, ← ih]; simp [pb]
/-- What 'Print' gives. -/
def pP (p : List Ins) : List UInt8 × Int := if 200 < p.length then ([], 5) else if p.all may then (pb p, 0) else ([], 1)

/-- Whole lines and what follows. -/
structure Seg (s : List UInt8) (L : List (List UInt8)) (t : List UInt8) : Prop where
  eq : s = cat L ++ t
  pl : ∀ l ∈ L, ∀ c ∈ l, c ≠ 10
  pt : ∀ c ∈ t, c ≠ 10
theorem seg_ex : ∀ s : List UInt8, ∃ L t, Seg s L t
  | [] => ⟨[], [], rfl, by simp, by simp⟩
  | c :: s => by
    obtain ⟨L, t, h⟩ := seg_ex s
    by_cases hc : c = 10
    · exact ⟨[] :: L, t, by rw [cat_cons, hc, h.eq]; rfl, fun l hl => by
        rcases List.mem_cons.1 hl with e | e
        · rw [e]; simp
        · exact h.pl l e, h.pt⟩
    · cases L with
      | nil => exact ⟨[], c :: t, by rw [h.eq]; simp [cat], by simp, fun d hd => by
          rcases List.mem_cons.1 hd with e | e
          · rw [e]; exact hc
          · exact h.pt d e⟩
      | cons l L => exact ⟨(c :: l) :: L, t, by rw [h.eq, cat_cons, cat_cons]; rfl, fun m hm d hd => by
          rcases List.mem_cons.1 hm with e | e
          · rw [e] at hd
            rcases List.mem_cons.1 hd with e2 | e2
            · rw [e2]; exact hc
            · exact h.pl l (by simp) d e2
          · exact h.pl m (List.mem_cons_of_mem _ e) d hd, h.pt⟩
theorem count_cat : ∀ {L : List (List UInt8)}, (∀ l ∈ L, ∀ c ∈ l, c ≠ 10) → (cat L).count 10 = L.length
  | [], _ => rfl
  | l :: L, h => by
    have h1 : l.count 10 = 0 := List.count_eq_zero.2 (fun q => h l (by simp) 10 q rfl)
    rw [cat_cons, List.count_append, List.count_cons, count_cat (fun m hm => h m (List.mem_cons_of_mem _ hm)), h1]
    simp
theorem Seg.count {s : List UInt8} {L : List (List UInt8)} {t : List UInt8} (h : Seg s L t) : s.count 10 = L.length := by
  rw [h.eq, List.count_append, count_cat h.pl, List.count_eq_zero.2 (fun q => h.pt 10 q rfl)]; rfl
theorem map_some_inj {p q : List Ins} (h : p.map some = q.map some) : p = q := by
  have := congrArg (List.filterMap id) h
  simpa using this
/-- What 'Read' gives. -/
noncomputable def rd (L : List (List UInt8)) (t : List UInt8) : List Ins × Int := by
  classical
  exact if 200 < L.length then ([], 5) else if h : t = [] ∧ ∃ q : List Ins, L.map pr = q.map some then (h.2.choose, 0) else ([], 3)
theorem rd_long {L : List (List UInt8)} {t : List UInt8} (h : 200 < L.length) : rd L t = ([], 5) := by unfold rd; rw [if_pos h]
theorem rd_ok {L : List (List UInt8)} {t : List UInt8} {q : List Ins} (h : ¬ 200 < L.length) (ht : t = []) (hq : L.map pr = q.map some) : rd L t = (q, 0) := by
  unfold rd
  have hh : t = [] ∧ ∃ q : List Ins, L.map pr = q.map some := ⟨ht, q, hq⟩
  rw [if_neg h, dif_pos hh]
  have := hh.2.choose_spec
  rw [map_some_inj (this.symm.trans hq)]
theorem rd_rest {L : List (List UInt8)} {t : List UInt8} (h : ¬ 200 < L.length) (ht : t ≠ []) : rd L t = ([], 3) := by
  unfold rd; rw [if_neg h, dif_neg (fun q => ht q.1)]
theorem rd_line {L : List (List UInt8)} {t l : List UInt8} (h : ¬ 200 < L.length) (hl : l ∈ L) (hp : pr l = none) : rd L t = ([], 3) := by
  unfold rd
  rw [if_neg h, dif_neg]
  rintro ⟨-, q, hq⟩
  have := List.mem_map.2 ⟨l, hl, hp⟩
  rw [hq] at this
  simp at this
theorem pr_lines : ∀ {p : List Ins}, (∀ x ∈ p, I x.n) → p.all may = true → (p.map ln).map pr = p.map some
  | [], _, _ => rfl
  | x :: p, hI, h => by
    simp only [List.all_cons, Bool.and_eq_true] at h
    rw [List.map_cons, List.map_cons, List.map_cons, pr_lines (fun y hy => hI y (List.mem_cons_of_mem _ hy)) h.2, pr_some ⟨h.1, hI x (by simp)⟩ rfl]
theorem lines_of : ∀ {L : List (List UInt8)} {q : List Ins}, L.map pr = q.map some → L = q.map ln ∧ q.all may = true ∧ ∀ x ∈ q, I x.n
  | [], [], _ => ⟨rfl, rfl, by simp⟩
  | [], _ :: _, h => by simp at h
  | _ :: _, [], h => by simp at h
  | l :: L, x :: q, h => by
    rw [List.map_cons, List.map_cons] at h
    injection h with h1 h2
    obtain ⟨a, b, c⟩ := lines_of h2
    obtain ⟨g, e⟩ := pr_of h1
    refine ⟨by rw [List.map_cons, a, e], by simp only [List.all_cons, g.1, b]; rfl, fun y hy => ?_⟩
    rcases List.mem_cons.1 hy with e | e
    · rw [e]; exact g.2
    · exact c y e
theorem seg_pb {p : List Ins} : Seg (pb p) (p.map ln) [] := ⟨by rw [pb_cat]; simp, fun l hl => by
  obtain ⟨x, -, e⟩ := List.mem_map.1 hl
  rw [← e]; exact ln_ten x, by simp⟩
theorem cat_inj : ∀ {L M : List (List UInt8)} {t u : List UInt8}, (∀ l ∈ L, ∀ c ∈ l, c ≠ 10) → (∀ l ∈ M, ∀ c ∈ l, c ≠ 10) → (∀ c ∈ t, c ≠ 10) → (∀ c ∈ u, c ≠ 10) → cat L ++ t = cat M ++ u → L = M ∧ t = u
  | [], [], t, u, _, _, _, _, h => ⟨rfl, by simpa [cat] using h⟩
  | [], m :: M, t, u, _, _, ht, _, h => by
    rw [cat_cons] at h
    exact absurd rfl (ht 10 (by rw [show t = m ++ 10 :: cat M ++ u by simpa [cat] using h]; simp))
  | l :: L, [], t, u, _, _, _, hu, h => by
    rw [cat_cons] at h
    exact absurd rfl (hu 10 (by rw [show u = l ++ 10 :: cat L ++ t by simpa [cat] using h.symm]; simp))
  | l :: L, m :: M, t, u, hL, hM, ht, hu, h => by
    rw [cat_cons, cat_cons, List.append_assoc, List.append_assoc] at h
    have a := cut_at (d := 10) (l := l) (cat L ++ t) (hL l (by simp))
    have b := cut_at (d := 10) (l := m) (cat M ++ u) (hM m (by simp))
    have h' : l ++ 10 :: (cat L ++ t) = m ++ 10 :: (cat M ++ u) := by simpa using h
    rw [h'] at a
    obtain ⟨e1, e2⟩ := cat_inj (fun x hx => hL x (List.mem_cons_of_mem _ hx)) (fun x hx => hM x (List.mem_cons_of_mem _ hx)) ht hu (a.2.symm.trans b.2)
    exact ⟨by rw [e1, a.1.symm.trans b.1], e2⟩
theorem Seg.unique {s : List UInt8} {L M : List (List UInt8)} {t u : List UInt8} (h : Seg s L t) (k : Seg s M u) : L = M ∧ t = u :=
  cat_inj h.pl k.pl h.pt k.pt (h.eq.symm.trans k.eq)
end Go.Proofs.YtpdapgbamlcjjaaGreatDoor.Cd
