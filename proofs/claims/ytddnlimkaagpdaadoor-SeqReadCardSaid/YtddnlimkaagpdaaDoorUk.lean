/-
  The iterator over chunks of records: what the function that slices.Chunk returns hands over.
-/
import Derived.Test.YtddnlimkaagpdaaDoorUi
import Derived.Test.YtddnlimkaagpdaaDoorRs
namespace Go.Proofs.YtddnlimkaagpdaaDoor
open Go.RowKit Go.Shelf
attribute [local go_sem] Oper.semAt_some

/-- Places of chunks of three. -/
def cks (n : Nat) : Nat → Nat → List (Nat × Nat)
  | 0, _ => []
  | k + 1, i => if i < n then (i, min (i + 3) n) :: cks n k (i + 3) else []
def ck (n i : Nat) : List (Nat × Nat) := cks n (n - i) i
theorem cks_more (n : Nat) : ∀ (k m i : Nat), n - i ≤ k → n - i ≤ m → cks n k i = cks n m i
  | 0, m, i, h1, h2 => by
    cases m with
    | zero => rfl
    | succ m => rw [cks, cks, if_neg (by omega)]
  | k + 1, m, i, h1, h2 => by
    cases m with
    | zero => rw [cks, cks, if_neg (by omega)]
    | succ m =>
      rw [cks, cks]
      split
      · rw [cks_more n k m _ (by omega) (by omega)]
      · rfl
theorem ck_step {n i : Nat} (h : i < n) : ck n i = (i, min (i + 3) n) :: ck n (i + 3) := by
  unfold ck
  rw [show n - i = (n - i - 1) + 1 by omega, cks, if_pos h, cks_more n (n - i - 1) (n - (i + 3)) _ (by omega) (by omega)]
theorem ck_end {n i : Nat} (h : n ≤ i) : ck n i = [] := by unfold ck; rw [show n - i = 0 by omega, cks]
def encC (A : Option Addr) {n : Nat} (x : Bk n) : Array Value := #[.slice (cutA A x.1.2 x.1.1) (x.1.2 - x.1.1) (x.1.2 - x.1.1)]

theorem rty_el : Tryd.prog.elem 28 = 50 := by simp only [Program.elem, rty.sl]
theorem rty_sz (W : World) : (sizeOf (Tryd.prog.elem 28)).run Tryd.prog W = .ok 1 W := by
  obtain ⟨i, hi, hz0, hz1, hz2⟩ := info_parts rty.inf
  rw [rty_el]
  simp [sizeOf, typeInfo, hi, hz1]
theorem rty_sl : Tryd.prog.underlying 28 = some (.slice (Tryd.prog.elem 28)) := by rw [rty_el]; exact rty.sl
theorem sl1 (A : Option Addr) (n c k : Nat) (hk : k ≤ n) (W : World) : (Instr.slice 28 (.slice A n c) (some (.int .i64 (k : Int))) none none).run Tryd.prog W = .ok (.slice (cutA A c k) (n - k) (c - k)) W := by
  rw [run_slice_l W 28 _ _ _ rty_sl .i64 (k : Int) (by omega) (by omega), rty_sz]
  simp [Result.andThen, sliced, cutA]
theorem sl2 (A : Option Addr) (n c k e : Nat) (hk : k ≤ e) (he : e ≤ n) (hc : n ≤ c) (W : World) : (Instr.slice 28 (.slice A n c) (some (.int .i64 (k : Int))) (some (.int .i64 (e : Int))) (some (.int .i64 (e : Int)))).run Tryd.prog W = .ok (.slice (cutA A e k) (e - k) (e - k)) W := by
  rw [run_slice_lhm W 28 _ _ _ rty_sl .i64 .i64 .i64 (k : Int) (e : Int) (e : Int) (by omega) (by omega) (by omega) (by omega), rty_sz]
  simp [Result.andThen, sliced, cutA]

set_option maxRecDepth 100000 in
/-- slices.Chunk -/
theorem chunk_c (A : Option Addr) (n c : Nat) (w : World) :
    Calls Tryd.prog 31 #[.slice A n c, .int .i64 3] w fun e w' =>
      e = .returned (.func (.func 48) #[] #[.pointer (some ⟨w.heap.size, 0, none⟩), .pointer (some ⟨w.heap.size + 1, 0, none⟩)]) ∧
      w' = (w.alloc (.cells #[.slice A n c] 28)).alloc (.cells #[.int .i64 3] 3) := by
  go_enter Tryd.func31, Tryd.ntmps31
  go_wp2
  go_ret
  exact ⟨rfl, rfl⟩

set_option maxRecDepth 100000 in
set_option maxHeartbeats 2000000 in
theorem chunk_stops (A : Option Addr) (n c : Nat) (lo hi : Nat) (w : World) (hn : n ≤ 1000000) (hnc : n ≤ c) (Bs Bn : Nat) (hBs : w.cell? ⟨Bs, 0, none⟩ = some (.slice A n c) ∧ hi ≤ Bs ∧ Bs < w.heap.size)
    (hBn : w.cell? ⟨Bn, 0, none⟩ = some (.int .i64 3) ∧ hi ≤ Bn ∧ Bn < w.heap.size) (m : Nat) :
    SeqStopsK Fence.wide (m + 1) Tryd.prog 48 #[.pointer (some ⟨Bs, 0, none⟩), .pointer (some ⟨Bn, 0, none⟩)] (encC A (n := n)) (But lo hi w.heap.size)
      (fun xs => xs.map (·.1) = ck n 0) (fun pre => pre.map (·.1) <+: ck n 0) (n + 1) w := fun L J Jx W hW hJ hJx hY h0 => by
  have hWs := hW.size
  refine callsIn_of_wp Tryd.func48 rfl trivial ?_ rfl
  simp only [Tryd.ntmps48, List.size_toArray, List.length_cons, List.length_nil, Nat.reduceAdd, Nat.reduceSub, Array.replicate_succ, Array.replicate_zero, List.push_toArray, List.append_toArray, List.nil_append, List.cons_append]
  gi_wp2
  gi_loopw [4] (fun a wr => ∃ (pre : List (Bk n)) (k : Nat), a = .int .i64 (k : Int) ∧ J pre wr ∧ But lo hi w.heap.size W wr ∧ W.heap.size ≤ wr.heap.size ∧ Hid (ck n 0 = pre.map (·.1) ++ ck n k) ∧ pre.length ≤ k ∧ k ≤ n + 3)
    (fun a _ => n - (intOf a).toNat)
  case atStart => exact ⟨[], 0, rfl, h0, But.refl W, Nat.le_refl _, Lib.hid rfl, Nat.zero_le _, by omega⟩
  case round =>
    obtain ⟨pre, k, rfl, hJs, hbut, hws, hseg, hpl, hk3⟩ := hrel
    have kBs : wr.cell? ⟨Bs, 0, none⟩ = some (.slice A n c) := (hbut.cell (p := ⟨Bs, 0, none⟩) hBs.2.2 (by show ¬ (lo ≤ Bs ∧ Bs < hi); omega)).trans ((hW.cell (p := ⟨Bs, 0, none⟩) hBs.2.2).trans hBs.1)
    have kBn : wr.cell? ⟨Bn, 0, none⟩ = some (.int .i64 3) := (hbut.cell (p := ⟨Bn, 0, none⟩) hBn.2.2 (by show ¬ (lo ≤ Bn ∧ Bn < hi); omega)).trans ((hW.cell (p := ⟨Bn, 0, none⟩) hBn.2.2).trans hBn.1)
    by_cases hlt : k < n
    · obtain ⟨e, he⟩ : ∃ e, e = min (k + 3) n := ⟨_, rfl⟩
      obtain ⟨E, hE⟩ : ∃ E, E = e - k := ⟨_, rfl⟩
      obtain ⟨x, hxv⟩ : ∃ x : Bk n, x.1 = (k, e) := ⟨⟨(k, e), by dsimp only; omega⟩, rfl⟩
      have henc : encC A x = #[.slice (cutA A e k) (e - k) (e - k)] := by unfold encC; rw [hxv]
      have hs1 : ∀ W, (Instr.slice 28 (.slice A n c) (some (.int .i64 (k : Int))) none none).run Tryd.prog W = .ok (.slice (cutA A c k) (n - k) (c - k)) W := fun W => sl1 A n c k (by omega) W
      have hs2 : ∀ W, (Instr.slice 28 (.slice A n c) (some (.int .i64 (k : Int))) (some (.int .i64 ((k : Int) + (E : Int)))) (some (.int .i64 ((k : Int) + (E : Int))))).run Tryd.prog W = .ok (.slice (cutA A e k) (e - k) (e - k)) W := fun W => by
        have := sl2 A n c k e (by omega) (by omega) hnc W
        rwa [show ((e : Nat) : Int) = (k : Int) + (E : Int) by omega] at this
      have hseg2 : Hid (ck n 0 = (pre ++ [x]).map (·.1) ++ ck n (k + 3)) := Lib.hid (by
        rw [hseg.out, ck_step hlt, ← he]
        simp [hxv])
      have Henc := Lib.hid henc; have He := Lib.hid he; have hE3 : k + E ≤ n ∧ E ≤ 3 ∧ (E = 3 ∨ k + E = n) := by omega
      clear henc he hE
      gi_wp2
      have zq : wr.drew.heap.size = wr.heap.size := rfl
      refine wpIn_wide.2 ?_
      refine wp_region_sched [(false, 0), (false, 1), (false, 2), (false, 3), (false, 4), (false, 5), (false, 6)] (by kernel_rfl) (by kernel_rfl) (by kernel_rfl) (by kernel_rfl) (fun _ _ d _ _ h => by cases d <;> exact h) ?_
      refine wpS_read (o := { dst := some 13, op := Go.Op.load 3 (Go.Operand.tmp 2), type := 3, pos := "iter.go:105", after := #[], guard := none }) (v := .int .i64 3) rfl (by rfl) ?_ ?_
      · intro w' hg; have hc' := (hg.cell (p := ⟨Bn, 0, none⟩) (by show Bn < wr.heap.size; omega)).trans kBn; go_simp
      try simp only [Act.put, List.setIfInBounds_toArray, List.set_cons_zero, List.set_cons_succ]
      refine wpS_read (o := { dst := some 14, op := Go.Op.load 28 (Go.Operand.tmp 1), type := 28, pos := "iter.go:105", after := #[], guard := none }) (v := .slice A n c) rfl (by rfl) ?_ ?_
      · intro w' hg; have hc' := (hg.cell (p := ⟨Bs, 0, none⟩) (by show Bs < wr.heap.size; omega)).trans kBs; go_simp
      try simp only [Act.put, List.setIfInBounds_toArray, List.set_cons_zero, List.set_cons_succ]
      refine wpS_read (o := { dst := some 15, op := Go.Op.move (Go.Operand.tmp 4), type := 3, pos := "iter.go:105", after := #[], guard := none }) (v := .int .i64 (k : Int)) rfl (by rfl) ?_ ?_
      · intro w' hg; go_simp
      try simp only [Act.put, List.setIfInBounds_toArray, List.set_cons_zero, List.set_cons_succ]
      refine wpS_read (o := { dst := some 16, op := Go.Op.slice 28 (Go.Operand.tmp 14) (some (Go.Operand.tmp 15)) none none, type := 28, pos := "iter.go:105", after := #[{ on := 1, ground := Go.Ground.data }, { on := 2, ground := Go.Ground.data }], guard := none }) (v := .slice (cutA A c k) (n - k) (c - k)) rfl (by rfl) ?_ ?_
      · intro w' hg; go_simp
      try simp only [Act.put, List.setIfInBounds_toArray, List.set_cons_zero, List.set_cons_succ]
      refine wpS_read (o := { dst := some 17, op := Go.Op.call { callee := Go.Callee.builtin Go.Builtin.len, args := #[Go.Operand.tmp 16], argTypes := #[28] }, type := 3, pos := "iter.go:105", after := #[{ on := 3, ground := Go.Ground.data }], guard := none }) (v := .int .i64 ((n - k : Nat) : Int)) rfl (by rfl) ?_ ?_
      · intro w' hg; go_simp
      try simp only [Act.put, List.setIfInBounds_toArray, List.set_cons_zero, List.set_cons_succ]
      refine wpS_read (o := { dst := some 18, op := Go.Op.call { callee := Go.Callee.builtin Go.Builtin.min, args := #[Go.Operand.tmp 13, Go.Operand.tmp 17], argTypes := #[3, 3] }, type := 3, pos := "iter.go:105", after := #[{ on := 0, ground := Go.Ground.data }, { on := 4, ground := Go.Ground.data }], guard := none }) (v := .int .i64 ((E : Nat) : Int)) rfl (by rfl) ?_ ?_
      · intro w' hg; go_simp; omega
      try simp only [Act.put, List.setIfInBounds_toArray, List.set_cons_zero, List.set_cons_succ]
      refine wpS_read (o := { dst := some 5, op := Go.Op.assign (Go.Operand.tmp 18), type := 3, pos := "iter.go:105", after := #[{ on := 5, ground := Go.Ground.data }, { on := 0, ground := Go.Ground.phase }, { on := 1, ground := Go.Ground.phase }, { on := 2, ground := Go.Ground.phase }, { on := 3, ground := Go.Ground.phase }, { on := 4, ground := Go.Ground.phase }, { on := 5, ground := Go.Ground.phase }], guard := none }) (v := .int .i64 ((E : Nat) : Int)) rfl (by rfl) ?_ ?_
      · intro w' hg; go_simp
      try simp only [Act.put, List.setIfInBounds_toArray, List.set_cons_zero, List.set_cons_succ]
      refine wpS_done ?_
      obtain ⟨wd, hwd⟩ : ∃ wd, wd = wr.drew := ⟨_, rfl⟩
      have hbd : Below wr.heap.size wr wd := by rw [hwd]; exact grow_drew wr
      have zd := hbd.size
      have kBsd : wd.cell? ⟨Bs, 0, none⟩ = some (.slice A n c) := (hbd.cell (p := ⟨Bs, 0, none⟩) (by show Bs < wr.heap.size; omega)).trans kBs
      have kBnd : wd.cell? ⟨Bn, 0, none⟩ = some (.int .i64 3) := (hbd.cell (p := ⟨Bn, 0, none⟩) (by show Bn < wr.heap.size; omega)).trans kBn
      rw [← hwd]
      clear hwd zq
      obtain ⟨fn, tmps, assign, body, hy, hR⟩ := hY pre x wd (hJ pre wr wd none hJs (grown_below hbd none) (fun r e => by cases e)) (by omega)
      rw [Henc.out] at hy
      gi_wp2
      refine hR.mono ?_
      rintro e3 W3 (⟨rfl, hJ3, hk3⟩ | ⟨rfl, hJx3⟩)
      · have hbut3 := (hbut.trans (but_of hbd (by omega))).trans hk3
        have hs3 := hk3.size
        have kBn3 : W3.cell? ⟨Bn, 0, none⟩ = some (.int .i64 3) := (hk3.cell (p := ⟨Bn, 0, none⟩) hBn.2.2 (by show ¬ (lo ≤ Bn ∧ Bn < hi); omega)).trans kBnd
        clear hR hy
        gi_wp2
        go_roundw
        case rel => exact ⟨pre ++ [x], k + 3, by go_num, hJ3, hbut3, by omega, hseg2, by simp; omega, by omega⟩
        case measure => simp [intOf]; omega
      · clear hR hy
        gi_wp2
        refine bodyPost_ret (results_none rfl _ _ _) rfl ?_
        exact ⟨⟨_, rfl⟩, .inr ⟨pre ++ [x], by rw [hseg2.out]; exact List.prefix_append _ _, hJx3⟩⟩
    · have hend : ck n 0 = pre.map (·.1) := by rw [hseg.out, ck_end (by omega), List.append_nil]
      have Hend := Lib.hid hend; clear hend
      gi_wp2
      go_end0
      exact ⟨⟨_, rfl⟩, .inl ⟨pre, Hend.out.symm, hJs⟩⟩
end Go.Proofs.YtddnlimkaagpdaaDoor
