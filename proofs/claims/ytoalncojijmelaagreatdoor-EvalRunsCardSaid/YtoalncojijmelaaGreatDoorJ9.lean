/-
  Joined: Kb.
-/
import Derived.Test.YtoalncojijmelaaGreatDoorJ8
import Derived.Laws.Tables
import Derived.Deep.WholeRow
/-
  code.names, Name, May.
-/
namespace Go.Proofs.YtoalncojijmelaaGreatDoor
open Go.RowKit Vl Cd
/-- All names, as cells. -/
def nmA : Array Value := (lvs nms).toArray
theorem nmA_size : nmA.size = 24 := rfl
theorem nmA_at {k : Nat} (h : k < 24) : nmA[k]? = some (st (nmk k)) := by
  have : ∀ k, k < 24 → nms[k]? = some (nmk k) := by decide +kernel
  unfold nmA
  rw [List.getElem?_toArray]
  exact lvs_get nms k _ (this k h)
theorem nmA_one : nmA.all (·.oneCell') = true := by kernel_rfl
theorem info49 : (Tryz.prog.info? 121).map (·.size) = some nmA.size := by kernel_rfl
abbrev em : Value := .string ⟨#[]⟩
def zA : Array Value := #[em, em, em, em, em, em, em, em, em, em, em, em, em, em, em, em, em, em, em, em, em, em, em, em]
theorem zero49 : zA.size = nmA.size := rfl
theorem idx49 (k : Nat) (hk : k < 24) (W : World) : (Instr.index 121 (.agg nmA) (.int .i64 (k : Int))).run Tryz.prog W = .ok (st (nmk k)) W := by
  have h1 := nmA_at hk
  obtain ⟨i, hi, -, hz, -⟩ := info_parts (show (Tryz.prog.info? 9).map (fun i => (i.zero, i.size, i.bytes)) = some (some (.string ⟨#[]⟩), 1, 16) from by kernel_rfl)
  simp [Instr.index, asIntOf, run_underlying Tryz.underlying121, sizeOf, typeInfo, part, hi, hz, h1, hk]

set_option maxRecDepth 100000 in
set_option maxHeartbeats 2000000 in
theorem names_c (w : World) : Calls Tryz.prog 102 #[] w fun e w' => e = .returned (.agg nmA) ∧ Below w.heap.size w w' := by
  obtain ⟨w1, hw1⟩ : ∃ w1, w1 = w.alloc (.cells nmA 121) := ⟨_, rfl⟩
  have hs : (w.alloc (.cells zA 121)).setRow w.heap.size nmA = w1 := by rw [World.setRow_alloc_new, ← hw1]
  have hg : (w.alloc (.cells zA 121)).heap[w.heap.size]? = some (.cells zA 121 (0, 0)) := heap_alloc_last _ _
  have hg1 : w1.heap[w.heap.size]? = some (.cells nmA 121 (0, 0)) := by rw [hw1]; exact heap_alloc_last _ _
  have b1 : Below w.heap.size w w1 := by rw [hw1]; exact (Below.refl _ _).alloc (Nat.le_refl _) _
  have HS := Lib.hid hs; have HG := Lib.hid hg; have HG1 := Lib.hid hg1; have B1 := Lib.hid b1
  clear hw1 hs hg hg1 b1
  go_enter Tryz.func102, Tryz.ntmps102
  go_wp2_with (refine wpList_store_row rfl 121 (.tmp 0) (.tmp 1) rfl w.heap.size nmA ?hx ?hy 121 zA ?hg info49 zero49 nmA_one ?_; (case hx => rfl); (case hy => exact congrArg Value.agg (by kernel_rfl)); (case hg => exact HG.out); change wpList _ _ _ _ _ (World.setRow (w.alloc (.cells zA 121)) w.heap.size nmA); rw [HS.out])
  refine bodyPost_ret (v := .agg nmA) ?_ rfl ⟨rfl, B1.out⟩
  exact results_cell_row Tryz.results102 _ _ w.heap.size 121 nmA (0, 0) (.array 24 9) rfl HG1.out Tryz.underlying121 rfl info49

set_option maxRecDepth 100000 in
set_option maxHeartbeats 2000000 in
theorem name_c (op : Int) (hop : I op) (w : World) : Calls Tryz.prog 92 #[.int .i64 op] w (RetV w (st (nm op))) := by
  by_cases h0 : op < 0
  · have e : nm op = [] := by unfold nm; rw [if_pos (.inl h0)]
    have d0 : decide (op < 0) = true := decide_eq_true h0
    rw [e]
    go_enter Tryz.func92, Tryz.ntmps92
    go_wp2
    go_ret
    exact ⟨rfl, Below.refl _ _⟩
  · have d0 : decide (op < 0) = false := decide_eq_false h0
    by_cases h1 : 23 < op
    · have e : nm op = [] := by unfold nm; rw [if_pos (.inr h1)]
      have d1 : decide (23 < op) = true := decide_eq_true h1
      rw [e]
      go_enter Tryz.func92, Tryz.ntmps92
      go_wp2
      go_ret
      exact ⟨rfl, Below.refl _ _⟩
    · have d1 : decide (23 < op) = false := decide_eq_false h1
      obtain ⟨k, rfl⟩ : ∃ k : Nat, op = (k : Int) := ⟨op.toNat, by omega⟩
      have hk : k < 24 := by omega
      have hix := idx49 k hk
      rw [nm_nat hk]
      clear h0 h1 hop
      go_enter Tryz.func92, Tryz.ntmps92
      go_wp2_with fail
      refine (names_c w).mono ?_
      rintro e w1 ⟨rfl, b1⟩
      go_wp2
      go_ret
      exact ⟨rfl, b1⟩
set_option maxRecDepth 100000 in
set_option maxHeartbeats 1000000 in
theorem may_c (x : Ins) (hop : I x.op) (w : World) : Calls Tryz.prog 68 #[iv x] w (RetV w (.bool (may x))) := by
  obtain ⟨op, n, s⟩ := x
  obtain ⟨X, hX, hXs, hXe, -⟩ := hide_st s
  obtain ⟨Y, hY, -, hYe, -⟩ := hide_st (nm op)
  have hnm := fun W => (show Calls Tryz.prog 92 #[.int .i64 op] W (RetV W (.string Y)) from by rw [hY]; exact name_c op hop W)
  obtain ⟨o, ho⟩ : ∃ o, o = may ⟨op, n, s⟩ := ⟨_, rfl⟩
  show Calls Tryz.prog 68 #[.agg #[.int .i64 op, .int .i64 n, .string ⟨s.toArray⟩]] w _
  rw [← ho, ← hX]
  unfold may at ho
  dsimp only at ho
  rw [← hXe, ← hXs] at ho
  obtain ⟨w0, hw0⟩ : ∃ w0, w0 = w.alloc (.cells #[.int .i64 op, .int .i64 n, .string X] 44) := ⟨_, rfl⟩
  have b0 : Below w.heap.size w w0 := by rw [hw0]; exact (Below.refl _ _).alloc (Nat.le_refl _) _
  have x0 : Bx w0 w.heap.size (.int .i64 op) (.int .i64 n) (.string X) := by rw [hw0]; exact Bx.made _ _ _ _ _
  have W0 := Lib.hid hw0; have B0 := Lib.hid b0; have X0 := Lib.hid x0; have Ho := Lib.hid ho; have Hnm := Lib.hid hnm
  clear hw0 b0 x0 ho hX hXs hXe hY hnm
  obtain ⟨c0, c1, c2, -, -, -, hlt⟩ := X0.out
  by_cases h0 : op = 0
  · subst h0
    go_enter Tryz.func68, Tryz.ntmps68
    go_wp2_with (rw [← W0.out])
    go_ret
    exact ⟨by rw [Ho.out]; rfl, B0.out⟩
  · have d0 : (op == 0) = false := beq_eq_false_iff_ne.2 h0
    have H0 := Lib.hid h0
    clear h0
    by_cases h1 : op = 1
    · subst h1
      by_cases hn : n = 0
      · subst hn
        go_enter Tryz.func68, Tryz.ntmps68
        go_wp2_with (rw [← W0.out])
        go_ret
        exact ⟨by rw [Ho.out]; simp; try omega, B0.out⟩
      · have d1 : (n == 0) = false := beq_eq_false_iff_ne.2 hn
        clear hn
        go_enter Tryz.func68, Tryz.ntmps68
        go_wp2_with (rw [← W0.out])
        go_ret
        exact ⟨by rw [Ho.out, d1]; simp, B0.out⟩
    · have d1 : (op == 1) = false := beq_eq_false_iff_ne.2 h1
      have H1 := Lib.hid h1
      clear h1
      by_cases h2 : op = 2
      · subst h2
        by_cases hn : 0 ≤ n
        · have e1 : decide (0 ≤ n) = true := decide_eq_true hn
          by_cases hm : n < 50
          · have e2 : decide (n < 50) = true := decide_eq_true hm
            clear hn hm
            go_enter Tryz.func68, Tryz.ntmps68
            go_wp2_with (rw [← W0.out])
            go_ret
            exact ⟨by rw [Ho.out, e1, e2]; simp, B0.out⟩
          · have e2 : decide (n < 50) = false := decide_eq_false hm
            clear hn hm
            go_enter Tryz.func68, Tryz.ntmps68
            go_wp2_with (rw [← W0.out])
            go_ret
            exact ⟨by rw [Ho.out, e1, e2]; simp, B0.out⟩
        · have e1 : decide (0 ≤ n) = false := decide_eq_false hn
          clear hn
          go_enter Tryz.func68, Tryz.ntmps68
          go_wp2_with (rw [← W0.out])
          go_ret
          exact ⟨by rw [Ho.out, e1]; simp, B0.out⟩
      · have d2 : (op == 2) = false := beq_eq_false_iff_ne.2 h2
        have ho := Ho.out
        rw [if_neg H0.out, if_neg H1.out, if_neg h2] at ho
        have hemp : (nm op == []) = !(decide (0 ≤ op) && decide (op ≤ 23)) := by
          by_cases hr : op < 0 ∨ 23 < op
          · have e : nm op = [] := by unfold nm; rw [if_pos hr]
            have : (decide (0 ≤ op) && decide (op ≤ 23)) = false := by simp; omega
            rw [e, this]; rfl
          · have e : nm op = nmk op.toNat := by unfold nm; rw [if_neg hr]
            have := (nmk_plain op.toNat (by omega)).2.1
            have h2 : (decide (0 ≤ op) && decide (op ≤ 23)) = true := by simp; omega
            rw [e, h2]
            cases hh : nmk op.toNat with
            | nil => rw [hh] at this; simp at this
            | cons a b => rfl
        rw [hemp] at hYe
        have H2 := Lib.hid h2
        have HO := Lib.hid ho
        clear h2 ho hemp Ho
        generalize hb : (decide (0 ≤ op) && decide (op ≤ 23)) = b at HO hYe
        cases b
        · have hYe : Y.toList.isEmpty = true := hYe
          clear hb
          go_enter Tryz.func68, Tryz.ntmps68
          go_wp2_with (rw [← W0.out])
          refine (Hnm.out w0).mono ?_
          rintro e w1 ⟨rfl, b1⟩
          have x1 := X0.out.below b1 hlt
          have B1 := Lib.hid (B0.out.trans (b1.mono B0.out.size))
          clear c0 c1 c2 b1
          obtain ⟨c0, c1, c2, -, -, -, -⟩ := x1
          go_wp2
          go_ret
          exact ⟨by rw [HO.out]; simp, B1.out⟩
        · have hYe : Y.toList.isEmpty = false := hYe
          clear hb
          by_cases hn : n = 0
          · subst hn
            go_enter Tryz.func68, Tryz.ntmps68
            go_wp2_with (rw [← W0.out])
            refine (Hnm.out w0).mono ?_
            rintro e w1 ⟨rfl, b1⟩
            have x1 := X0.out.below b1 hlt
            have B1 := Lib.hid (B0.out.trans (b1.mono B0.out.size))
            clear c0 c1 c2 b1
            obtain ⟨c0, c1, c2, -, -, -, -⟩ := x1
            go_wp2
            go_ret
            exact ⟨by rw [HO.out]; simp, B1.out⟩
          · have d3 : (n == 0) = false := beq_eq_false_iff_ne.2 hn
            clear hn
            go_enter Tryz.func68, Tryz.ntmps68
            go_wp2_with (rw [← W0.out])
            refine (Hnm.out w0).mono ?_
            rintro e w1 ⟨rfl, b1⟩
            have x1 := X0.out.below b1 hlt
            have B1 := Lib.hid (B0.out.trans (b1.mono B0.out.size))
            clear c0 c1 c2 b1
            obtain ⟨c0, c1, c2, -, -, -, -⟩ := x1
            go_wp2
            go_ret
            exact ⟨by rw [HO.out, d3]; simp, B1.out⟩
end Go.Proofs.YtoalncojijmelaaGreatDoor
