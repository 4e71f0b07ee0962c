/-
  What the program's table says of an operation's kinds is what the document says (plain mathematics).
-/
import Derived.Test.YthkjhenaicbepaaDoorKf
namespace Go.Proofs.YthkjhenaicbepaaDoor
open Go.RowKit Vl Cd

theorem op_cases {m : Nat} (h1 : 4 ≤ m) (h2 : m ≤ 21) : m = 4 ∨ m = 5 ∨ m = 6 ∨ m = 7 ∨ m = 8 ∨ m = 9 ∨ m = 10 ∨ m = 11 ∨ m = 12 ∨ m = 13 ∨ m = 14 ∨ m = 15 ∨ m = 16 ∨ m = 17 ∨ m = 18 ∨ m = 19 ∨ m = 20 ∨ m = 21 := by omega
/-- How many of each operation. -/
theorem ar_nz (m : Nat) (h1 : 4 ≤ m) (h2 : m ≤ 21) : ar (m : Int) = nz (k0 m) (k1 m) (k2 m) := by
  rcases op_cases h1 h2 with rfl | rfl | rfl | rfl | rfl | rfl | rfl | rfl | rfl | rfl | rfl | rfl | rfl | rfl | rfl | rfl | rfl | rfl
  all_goals rfl
theorem kd_out {op : Int} (h : ¬ (4 ≤ op ∧ op ≤ 21)) : kd op = ([], []) := by
  unfold kd
  rw [if_neg (by omega), if_neg (by omega), if_neg (by omega), if_neg (by omega), if_neg (by omega), if_neg (by omega), if_neg (by omega), if_neg (by omega), if_neg (by omega), if_neg (by omega)]
theorem ar_out {op : Int} (h : ¬ (4 ≤ op ∧ op ≤ 21)) : ar op = 0 := by unfold ar; rw [kd_out h]; rfl
theorem res_out {op : Int} (h : ¬ (4 ≤ op ∧ op ≤ 21)) (L : List Bool) : res op L = (false, 1) := by unfold res; rw [kd_out h]; rfl
theorem res_long {op : Int} {L : List Bool} (h1 : (kd op).1 ≠ []) (h2 : L.length ≠ ar op) : res op L = (false, 11) := by unfold res; rw [if_neg h1, if_pos (show L.length ≠ (kd op).1.length from h2)]
theorem mt_long {a b c : Nat} {L : List Bool} (h : L.length ≠ nz a b c) : mt a b c L = false := by unfold mt; rw [decide_eq_false h]; rfl
theorem nz_le (a b c : Nat) : nz a b c ≤ 3 := by unfold nz; split <;> split <;> split <;> omega
/-- Result of each operation. -/
theorem res_mt (m : Nat) (h1 : 4 ≤ m) (h2 : m ≤ 21) (L : List Bool) : res (m : Int) L = if mt (k0 m) (k1 m) (k2 m) L = true then (dk (kr m) L == 2, 0) else (false, 11) := by
  have hk : (kd (m : Int)).1 ≠ [] := by
    rcases op_cases h1 h2 with rfl | rfl | rfl | rfl | rfl | rfl | rfl | rfl | rfl | rfl | rfl | rfl | rfl | rfl | rfl | rfl | rfl | rfl
    all_goals (intro q; cases q)
  have ha := ar_nz m h1 h2
  by_cases hl : L.length = ar (m : Int)
  · have h3 := nz_le (k0 m) (k1 m) (k2 m)
    rcases L with _ | ⟨x, _ | ⟨y, _ | ⟨z, _ | ⟨u, r⟩⟩⟩⟩
    · rcases op_cases h1 h2 with rfl | rfl | rfl | rfl | rfl | rfl | rfl | rfl | rfl | rfl | rfl | rfl | rfl | rfl | rfl | rfl | rfl | rfl
      all_goals first | (exact absurd hl (by decide)) | decide
    · clear hl ha h3 hk
      rcases op_cases h1 h2 with rfl | rfl | rfl | rfl | rfl | rfl | rfl | rfl | rfl | rfl | rfl | rfl | rfl | rfl | rfl | rfl | rfl | rfl
      all_goals (cases x <;> decide)
    · clear hl ha h3 hk
      rcases op_cases h1 h2 with rfl | rfl | rfl | rfl | rfl | rfl | rfl | rfl | rfl | rfl | rfl | rfl | rfl | rfl | rfl | rfl | rfl | rfl
      all_goals (cases x <;> cases y <;> decide)
    · clear hl ha h3 hk
      rcases op_cases h1 h2 with rfl | rfl | rfl | rfl | rfl | rfl | rfl | rfl | rfl | rfl | rfl | rfl | rfl | rfl | rfl | rfl | rfl | rfl
      all_goals (cases x <;> cases y <;> cases z <;> decide)
    · rw [List.length_cons, List.length_cons, List.length_cons, List.length_cons] at hl
      omega
  · rw [res_long hk hl, mt_long (by rw [← ha]; exact hl), if_neg (by decide)]
end Go.Proofs.YthkjhenaicbepaaDoor
