/-
  The document's kinds, Arity.
-/
import Derived.Test.YtkkjgiejnblopaaDoorV8
namespace Go.Proofs.YtkkjgiejnblopaaDoor
open Go.RowKit Vl

theorem kd_none {op : Int} (h : ¬ (4 ≤ op ∧ op ≤ 21)) : kd op = ([], []) := by
  unfold kd
  repeat rw [if_neg (by omega)]
set_option maxRecDepth 100000 in
set_option maxHeartbeats 2000000 in
theorem kinds_c (op : Int) (w : World) : Calls Tryd.prog 27 #[.int .i64 op] w fun e w' => e = .returned (.tuple #[st (kd op).1, st (kd op).2]) ∧ w = w' := by
  by_cases h : 4 ≤ op ∧ op ≤ 21
  · have hc : op = 4 ∨ op = 5 ∨ op = 6 ∨ op = 7 ∨ op = 8 ∨ op = 9 ∨ op = 10 ∨ op = 11 ∨ op = 12 ∨ op = 13 ∨ op = 14 ∨ op = 15 ∨ op = 16 ∨ op = 17 ∨ op = 18 ∨ op = 19 ∨ op = 20 ∨ op = 21 := by omega
    clear h
    rcases hc with rfl | rfl | rfl | rfl | rfl | rfl | rfl | rfl | rfl | rfl | rfl | rfl | rfl | rfl | rfl | rfl | rfl | rfl
    all_goals
      go_enter Tryd.func27, Tryd.ntmps27
      go_wp2
      go_ret2
      exact ⟨rfl, rfl⟩
  · rw [kd_none h]
    have d4 : (op == 4) = false := beq_eq_false_iff_ne.2 (by omega)
    have d5 : (op == 5) = false := beq_eq_false_iff_ne.2 (by omega)
    have d6 : (op == 6) = false := beq_eq_false_iff_ne.2 (by omega)
    have d7 : (op == 7) = false := beq_eq_false_iff_ne.2 (by omega)
    have d8 : (op == 8) = false := beq_eq_false_iff_ne.2 (by omega)
    have d9 : (op == 9) = false := beq_eq_false_iff_ne.2 (by omega)
    have d10 : (op == 10) = false := beq_eq_false_iff_ne.2 (by omega)
    have d11 : (op == 11) = false := beq_eq_false_iff_ne.2 (by omega)
    have d12 : (op == 12) = false := beq_eq_false_iff_ne.2 (by omega)
    have d13 : (op == 13) = false := beq_eq_false_iff_ne.2 (by omega)
    have d14 : (op == 14) = false := beq_eq_false_iff_ne.2 (by omega)
    have d15 : (op == 15) = false := beq_eq_false_iff_ne.2 (by omega)
    have d16 : (op == 16) = false := beq_eq_false_iff_ne.2 (by omega)
    have d17 : (op == 17) = false := beq_eq_false_iff_ne.2 (by omega)
    have d18 : (op == 18) = false := beq_eq_false_iff_ne.2 (by omega)
    have d19 : (op == 19) = false := beq_eq_false_iff_ne.2 (by omega)
    have d20 : (op == 20) = false := beq_eq_false_iff_ne.2 (by omega)
    have d21 : (op == 21) = false := beq_eq_false_iff_ne.2 (by omega)
    clear h
    go_enter Tryd.func27, Tryd.ntmps27
    go_wp2
    go_ret2
    exact ⟨rfl, rfl⟩
set_option maxRecDepth 100000 in
theorem arity_c (op : Int) (w : World) : Calls Tryd.prog 15 #[.int .i64 op] w fun e w' => e = .returned (.int .i64 (ar op : Int)) ∧ w = w' := by
  obtain ⟨K, hK⟩ : ∃ K, K = kd op := ⟨_, rfl⟩
  have hc := kinds_c op w
  rw [← hK] at hc
  have ha : ar op = K.1.length := by rw [hK]; rfl
  rw [ha]
  have Hc := Lib.hid hc
  clear hK hc ha
  go_enter Tryd.func15, Tryd.ntmps15
  go_wp2_with fail
  refine Hc.out.mono ?_
  rintro e w1 ⟨rfl, rfl⟩
  go_wp2
  go_ret
  exact ⟨rfl, rfl⟩
end Go.Proofs.YtkkjgiejnblopaaDoor
