/-
  Joined: Zb Zc Zd Ze.
-/
import Derived.Test.YtplkjljhpmldfaaJ39
import Derived.Test.YtplkjljhpmldfaaJ40
import Derived.Test.YtplkjljhpmldfaaJ13
import Derived.Test.YtplkjljhpmldfaaJ9
import Derived.Test.YtplkjljhpmldfaaJ28
import Derived.Test.YtplkjljhpmldfaaJ6
/-
  The iterator over chunks of records: what the function that slices.Chunk returns hands over.
-/
namespace Go.Proofs.Ytplkjljhpmldfaa
open Go.RowKit Go.Shelf
attribute [local go_sem] Oper.semAt_some

/-- Places of chunks of four. -/
def cks (n : Nat) : Nat → Nat → List (Nat × Nat)
  | 0, _ => []
  | k + 1, i => if i < n then (i, min (i + 4) n) :: cks n k (i + 4) else []
def ck (n i : Nat) : List (Nat × Nat) := cks n (n - i) i
theorem cks_more (n : Nat) : ∀ (k m i : Nat), n - i ≤ k → n - i ≤ m → cks n k i = cks n m i
  | 0, m, i, h1, h2 => by
    cases m with
    | zero => rfl
    | succ m => rw [cks, cks, if_neg (by omega)]
  | k + 1, m, i, h1, h2 => by
    cases m with
    | zero => rw [cks, cks, if_neg (by omega)]
    | succ m =>
      rw [cks, cks]
      split
      · rw [cks_more n k m _ (by omega) (by omega)]
      · rfl
theorem ck_step {n i : Nat} (h : i < n) : ck n i = (i, min (i + 4) n) :: ck n (i + 4) := by
  unfold ck
  rw [show n - i = (n - i - 1) + 1 by omega, cks, if_pos h, cks_more n (n - i - 1) (n - (i + 4)) _ (by omega) (by omega)]
theorem ck_end {n i : Nat} (h : n ≤ i) : ck n i = [] := by unfold ck; rw [show n - i = 0 by omega, cks]
def encC (A : Option Addr) {n : Nat} (x : Bk n) : Array Value := #[.slice (cutA A x.1.2 x.1.1) (x.1.2 - x.1.1) (x.1.2 - x.1.1)]

theorem rty_el : Try.prog.elem 28 = 48 := by simp only [Program.elem, rty.sl]
theorem rty_sz (W : World) : (sizeOf (Try.prog.elem 28)).run Try.prog W = .ok 1 W := by
  obtain ⟨i, hi, hz0, hz1, hz2⟩ := info_parts rty.inf
  rw [rty_el]
  simp [sizeOf, typeInfo, hi, hz1]
theorem rty_sl : Try.prog.underlying 28 = some (.slice (Try.prog.elem 28)) := by rw [rty_el]; exact rty.sl
theorem sl1 (A : Option Addr) (n c k : Nat) (hk : k ≤ n) (W : World) : (Instr.slice 28 (.slice A n c) (some (.int .i64 (k : Int))) none none).run Try.prog W = .ok (.slice (cutA A c k) (n - k) (c - k)) W := by
  rw [run_slice_l W 28 _ _ _ rty_sl .i64 (k : Int) (by omega) (by omega), rty_sz]
  simp [Result.andThen, sliced, cutA]
theorem sl2 (A : Option Addr) (n c k e : Nat) (hk : k ≤ e) (he : e ≤ n) (hc : n ≤ c) (W : World) : (Instr.slice 28 (.slice A n c) (some (.int .i64 (k : Int))) (some (.int .i64 (e : Int))) (some (.int .i64 (e : Int)))).run Try.prog W = .ok (.slice (cutA A e k) (e - k) (e - k)) W := by
  rw [run_slice_lhm W 28 _ _ _ rty_sl .i64 .i64 .i64 (k : Int) (e : Int) (e : Int) (by omega) (by omega) (by omega) (by omega), rty_sz]
  simp [Result.andThen, sliced, cutA]

set_option maxRecDepth 100000 in
/-- slices.Chunk -/
theorem chunk_c (A : Option Addr) (n c : Nat) (w : World) :
    Calls Try.prog 27 #[.slice A n c, .int .i64 4] w fun e w' =>
      e = .returned (.func (.func 45) #[] #[.pointer (some ⟨w.heap.size, 0, none⟩), .pointer (some ⟨w.heap.size + 1, 0, none⟩)]) ∧
      w' = (w.alloc (.cells #[.slice A n c] 28)).alloc (.cells #[.int .i64 4] 3) := by
  go_enter Try.func27, Try.ntmps27
  go_wp2
  go_ret
  exact ⟨rfl, rfl⟩

set_option maxRecDepth 100000 in
set_option maxHeartbeats 2000000 in
theorem chunk_stops (A : Option Addr) (n c : Nat) (lo hi : Nat) (w : World) (hn : n ≤ 1000000) (hnc : n ≤ c) (Bs Bn : Nat) (hBs : w.cell? ⟨Bs, 0, none⟩ = some (.slice A n c) ∧ hi ≤ Bs ∧ Bs < w.heap.size)
    (hBn : w.cell? ⟨Bn, 0, none⟩ = some (.int .i64 4) ∧ hi ≤ Bn ∧ Bn < w.heap.size) (m : Nat) :
    SeqStopsK Fence.wide (m + 1) Try.prog 45 #[.pointer (some ⟨Bs, 0, none⟩), .pointer (some ⟨Bn, 0, none⟩)] (encC A (n := n)) (But lo hi w.heap.size)
      (fun xs => xs.map (·.1) = ck n 0) (fun pre => pre.map (·.1) <+: ck n 0) (n + 1) w := fun L J Jx W hW hJ hJx hY h0 => by
  have hWs := hW.size
  refine callsIn_of_wp Try.func45 rfl trivial ?_ rfl
  simp only [Try.ntmps45, List.size_toArray, List.length_cons, List.length_nil, Nat.reduceAdd, Nat.reduceSub, Array.replicate_succ, Array.replicate_zero, List.push_toArray, List.append_toArray, List.nil_append, List.cons_append]
  gi_wp2
  gi_loopw [4] (fun a wr => ∃ (pre : List (Bk n)) (k : Nat), a = .int .i64 (k : Int) ∧ J pre wr ∧ But lo hi w.heap.size W wr ∧ W.heap.size ≤ wr.heap.size ∧ Hid (ck n 0 = pre.map (·.1) ++ ck n k) ∧ pre.length ≤ k ∧ k ≤ n + 4)
    (fun a _ => n - (intOf a).toNat)
  case atStart => exact ⟨[], 0, rfl, h0, But.refl W, Nat.le_refl _, Lib.hid rfl, Nat.zero_le _, by omega⟩
  case round =>
    obtain ⟨pre, k, rfl, hJs, hbut, hws, hseg, hpl, hk3⟩ := hrel
    have kBs : wr.cell? ⟨Bs, 0, none⟩ = some (.slice A n c) := (hbut.cell (p := ⟨Bs, 0, none⟩) hBs.2.2 (by show ¬ (lo ≤ Bs ∧ Bs < hi); omega)).trans ((hW.cell (p := ⟨Bs, 0, none⟩) hBs.2.2).trans hBs.1)
    have kBn : wr.cell? ⟨Bn, 0, none⟩ = some (.int .i64 4) := (hbut.cell (p := ⟨Bn, 0, none⟩) hBn.2.2 (by show ¬ (lo ≤ Bn ∧ Bn < hi); omega)).trans ((hW.cell (p := ⟨Bn, 0, none⟩) hBn.2.2).trans hBn.1)
    by_cases hlt : k < n
    · obtain ⟨e, he⟩ : ∃ e, e = min (k + 4) n := ⟨_, rfl⟩
      obtain ⟨E, hE⟩ : ∃ E, E = e - k := ⟨_, rfl⟩
      obtain ⟨x, hxv⟩ : ∃ x : Bk n, x.1 = (k, e) := ⟨⟨(k, e), by dsimp only; omega⟩, rfl⟩
      have henc : encC A x = #[.slice (cutA A e k) (e - k) (e - k)] := by unfold encC; rw [hxv]
      have hs1 : ∀ W, (Instr.slice 28 (.slice A n c) (some (.int .i64 (k : Int))) none none).run Try.prog W = .ok (.slice (cutA A c k) (n - k) (c - k)) W := fun W => sl1 A n c k (by omega) W
      have hs2 : ∀ W, (Instr.slice 28 (.slice A n c) (some (.int .i64 (k : Int))) (some (.int .i64 ((k : Int) + (E : Int)))) (some (.int .i64 ((k : Int) + (E : Int))))).run Try.prog W = .ok (.slice (cutA A e k) (e - k) (e - k)) W := fun W => by
        have := sl2 A n c k e (by omega) (by omega) hnc W
        rwa [show ((e : Nat) : Int) = (k : Int) + (E : Int) by omega] at this
      have hseg2 : Hid (ck n 0 = (pre ++ [x]).map (·.1) ++ ck n (k + 4)) := Lib.hid (by
        rw [hseg.out, ck_step hlt, ← he]
        simp [hxv])
      have Henc := Lib.hid henc; have He := Lib.hid he; have hE3 : k + E ≤ n ∧ E ≤ 4 ∧ (E = 4 ∨ k + E = n) := by omega
      clear henc he hE
      gi_wp2
      have zq : wr.drew.heap.size = wr.heap.size := rfl
      refine wpIn_wide.2 ?_
      refine wp_region_sched [(false, 0), (false, 1), (false, 2), (false, 3), (false, 4), (false, 5), (false, 6)] (by kernel_rfl) (by kernel_rfl) (by kernel_rfl) (by kernel_rfl) (fun _ _ d _ _ h => by cases d <;> exact h) ?_
      refine wpS_read (o := { dst := some 13, op := Go.Op.load 3 (Go.Operand.tmp 2), type := 3, pos := "iter.go:105", after := #[], guard := none }) (v := .int .i64 4) rfl (by rfl) ?_ ?_
      · intro w' hg; have hc' := (hg.cell (p := ⟨Bn, 0, none⟩) (by show Bn < wr.heap.size; omega)).trans kBn; go_simp
      try simp only [Act.put, List.setIfInBounds_toArray, List.set_cons_zero, List.set_cons_succ]
      refine wpS_read (o := { dst := some 14, op := Go.Op.load 28 (Go.Operand.tmp 1), type := 28, pos := "iter.go:105", after := #[], guard := none }) (v := .slice A n c) rfl (by rfl) ?_ ?_
      · intro w' hg; have hc' := (hg.cell (p := ⟨Bs, 0, none⟩) (by show Bs < wr.heap.size; omega)).trans kBs; go_simp
      try simp only [Act.put, List.setIfInBounds_toArray, List.set_cons_zero, List.set_cons_succ]
      refine wpS_read (o := { dst := some 15, op := Go.Op.move (Go.Operand.tmp 4), type := 3, pos := "iter.go:105", after := #[], guard := none }) (v := .int .i64 (k : Int)) rfl (by rfl) ?_ ?_
      · intro w' hg; go_simp
      try simp only [Act.put, List.setIfInBounds_toArray, List.set_cons_zero, List.set_cons_succ]
      refine wpS_read (o := { dst := some 16, op := Go.Op.slice 28 (Go.Operand.tmp 14) (some (Go.Operand.tmp 15)) none none, type := 28, pos := "iter.go:105", after := #[{ on := 1, ground := Go.Ground.data }, { on := 2, ground := Go.Ground.data }], guard := none }) (v := .slice (cutA A c k) (n - k) (c - k)) rfl (by rfl) ?_ ?_
      · intro w' hg; go_simp
      try simp only [Act.put, List.setIfInBounds_toArray, List.set_cons_zero, List.set_cons_succ]
      refine wpS_read (o := { dst := some 17, op := Go.Op.call { callee := Go.Callee.builtin Go.Builtin.len, args := #[Go.Operand.tmp 16], argTypes := #[28] }, type := 3, pos := "iter.go:105", after := #[{ on := 3, ground := Go.Ground.data }], guard := none }) (v := .int .i64 ((n - k : Nat) : Int)) rfl (by rfl) ?_ ?_
      · intro w' hg; go_simp
      try simp only [Act.put, List.setIfInBounds_toArray, List.set_cons_zero, List.set_cons_succ]
      refine wpS_read (o := { dst := some 18, op := Go.Op.call { callee := Go.Callee.builtin Go.Builtin.min, args := #[Go.Operand.tmp 13, Go.Operand.tmp 17], argTypes := #[3, 3] }, type := 3, pos := "iter.go:105", after := #[{ on := 0, ground := Go.Ground.data }, { on := 4, ground := Go.Ground.data }], guard := none }) (v := .int .i64 ((E : Nat) : Int)) rfl (by rfl) ?_ ?_
      · intro w' hg; go_simp; omega
      try simp only [Act.put, List.setIfInBounds_toArray, List.set_cons_zero, List.set_cons_succ]
      refine wpS_read (o := { dst := some 5, op := Go.Op.assign (Go.Operand.tmp 18), type := 3, pos := "iter.go:105", after := #[{ on := 5, ground := Go.Ground.data }, { on := 0, ground := Go.Ground.phase }, { on := 1, ground := Go.Ground.phase }, { on := 2, ground := Go.Ground.phase }, { on := 3, ground := Go.Ground.phase }, { on := 4, ground := Go.Ground.phase }, { on := 5, ground := Go.Ground.phase }], guard := none }) (v := .int .i64 ((E : Nat) : Int)) rfl (by rfl) ?_ ?_
      · intro w' hg; go_simp
      try simp only [Act.put, List.setIfInBounds_toArray, List.set_cons_zero, List.set_cons_succ]
      refine wpS_done ?_
      obtain ⟨wd, hwd⟩ : ∃ wd, wd = wr.drew := ⟨_, rfl⟩
      have hbd : Below wr.heap.size wr wd := by rw [hwd]; exact grow_drew wr
      have zd := hbd.size
      have kBsd : wd.cell? ⟨Bs, 0, none⟩ = some (.slice A n c) := (hbd.cell (p := ⟨Bs, 0, none⟩) (by show Bs < wr.heap.size; omega)).trans kBs
      have kBnd : wd.cell? ⟨Bn, 0, none⟩ = some (.int .i64 4) := (hbd.cell (p := ⟨Bn, 0, none⟩) (by show Bn < wr.heap.size; omega)).trans kBn
      rw [← hwd]
      clear hwd zq
      obtain ⟨fn, tmps, assign, body, hy, hR⟩ := hY pre x wd (hJ pre wr wd none hJs (grown_below hbd none) (fun r e => by cases e)) (by omega)
      rw [Henc.out] at hy
      gi_wp2
      refine hR.mono ?_
      rintro e3 W3 (⟨rfl, hJ3, hk3⟩ | ⟨rfl, hJx3⟩)
      · have hbut3 := (hbut.trans (but_of hbd (by omega))).trans hk3
        have hs3 := hk3.size
        have kBn3 : W3.cell? ⟨Bn, 0, none⟩ = some (.int .i64 4) := (hk3.cell (p := ⟨Bn, 0, none⟩) hBn.2.2 (by show ¬ (lo ≤ Bn ∧ Bn < hi); omega)).trans kBnd
        clear hR hy
        gi_wp2
        go_roundw
        case rel => exact ⟨pre ++ [x], k + 4, by go_num, hJ3, hbut3, by omega, hseg2, by simp; omega, by omega⟩
        case measure => simp [intOf]; omega
      · clear hR hy
        gi_wp2
        refine bodyPost_ret (results_none rfl _ _ _) rfl ?_
        exact ⟨⟨_, rfl⟩, .inr ⟨pre ++ [x], by rw [hseg2.out]; exact List.prefix_append _ _, hJx3⟩⟩
    · have hend : ck n 0 = pre.map (·.1) := by rw [hseg.out, ck_end (by omega), List.append_nil]
      have Hend := Lib.hid hend; clear hend
      gi_wp2
      go_end0
      exact ⟨⟨_, rfl⟩, .inl ⟨pre, Hend.out.symm, hJs⟩⟩
end Go.Proofs.Ytplkjljhpmldfaa

/-
  chest.addSize, blockOf: what each call returns and leaves.
-/
namespace Go.Proofs.Ytplkjljhpmldfaa
open Go.RowKit

def SzA (base : Nat) (w : World) (A0 : Option Addr) (L : List UInt8) (n : Nat) (o i : Value) (wr : World) : Prop :=
  ∃ A c M, ∃ k : Nat, o = .slice A (M : List UInt8).length c ∧ i = .int .i64 (k : Int) ∧ k ≤ 4 ∧ M = L ++ (Cm.four n).take k ∧ Own wr 5 base A c M ∧ Grows w wr A0 A ∧ base ≤ wr.heap.size
theorem four_take (n k : Nat) (h : k < 4) : (Cm.four n).take (k + 1) = (Cm.four n).take k ++ [Cm.byteAt n k] := by
  rw [List.take_add_one, Cm.four_get n k h]
  rfl

set_option maxRecDepth 100000 in
set_option maxHeartbeats 2000000 in
/-- addSize -/
theorem addSize_c (A : Option Addr) (c base n : Nat) (L : List UInt8) (w : World) (ho : Own w 5 base A c L) (hb : base ≤ w.heap.size) (hn : n ≤ 1000000) (hL : L.length ≤ 1000000) :
    Calls Try.prog 50 #[.slice A L.length c, .int .i64 (n : Int)] w fun e w' => ∃ A' c', e = .returned (.slice A' (L ++ Cm.four n).length c') ∧ Own w' 5 base A' c' (L ++ Cm.four n) ∧ Grows w w' A A' := by
  have Ho := Lib.hid ho; clear ho
  go_enter Try.func50, Try.ntmps50
  go_wp2
  go_loopw [0, 6] (fun o i wr => SzA base w A L n o i wr) (fun _ i _ => 4 - (intOf i).toNat)
  case atStart => exact ⟨A, c, L, 0, rfl, rfl, Nat.zero_le _, by simp, Ho.out, Grows.refl _ _, hb⟩
  case round =>
    obtain ⟨A3, c3, M, k, rfl, rfl, hk, hM, ho3, hb3, hz3⟩ := hrel
    by_cases hlt : k < 4
    · have hN : M ++ [Cm.byteAt n k] = L ++ (Cm.four n).take (k + 1) := by rw [hM, four_take n k hlt, List.append_assoc]
      have hMl : M.length ≤ 1000004 := by rw [hM, List.length_append, List.length_take, Cm.four_len]; omega
      obtain ⟨N, hN2⟩ : ∃ N, N = M ++ [Cm.byteAt n k] := ⟨_, rfl⟩
      have hNl : N.length ≤ 1000005 := by rw [hN2, List.length_append]; simp; omega
      have Ho3 := Lib.hid ho3; have HN := Lib.hid hN; have HN2 := Lib.hid hN2
      clear ho3 hM hN hN2
      obtain rfl | rfl | rfl | rfl : k = 0 ∨ k = 1 ∨ k = 2 ∨ k = 3 := by omega
      all_goals
        have hv := Cm.byteAt_nat n
        have Hv := Lib.hid hv
        clear hv
        go_wp2_with (at_builtin; go_must (refine bty.wpAppTo rfl (.tmp 9) (.tmp 15) rfl (l := M) (N := N) rfl rfl (Ho3.out.alloc _) (Rb.oneI _ _ _ _ ?hz) HN2.out.symm ?h1 ?h2 ?_))
        case hz => rw [Hv.out]; first | (simp; done) | (simp; omega)
        case h1 => omega
        case h2 => simp; omega
        intro A7 c7 w7 ho7 hg7
        have b7 := hb3.trans (Grows.pre ((Below.refl _ _).alloc (Nat.le_refl _) _) hg7)
        have z7 := b7.size
        have s7 : base ≤ w7.heap.size := by omega
        have Ho7 := Lib.hid ho7
        clear ho7 hg7
        go_wp2
        go_roundw
        case rel =>
          first
            | exact ⟨A7, c7, N, 1, rfl, rfl, by omega, by rw [HN2.out, HN.out], Ho7.out, b7, s7⟩
            | exact ⟨A7, c7, N, 2, rfl, rfl, by omega, by rw [HN2.out, HN.out], Ho7.out, b7, s7⟩
            | exact ⟨A7, c7, N, 3, rfl, rfl, by omega, by rw [HN2.out, HN.out], Ho7.out, b7, s7⟩
            | exact ⟨A7, c7, N, 4, rfl, rfl, by omega, by rw [HN2.out, HN.out], Ho7.out, b7, s7⟩
        case measure => simp [intOf]
    · obtain rfl : k = 4 := by omega
      have hM' : M = L ++ Cm.four n := by rw [hM]; rfl
      have HM := Lib.hid hM'; have Ho3 := Lib.hid ho3
      clear hM hM' ho3
      go_wp2
      go_ret
      rw [← HM.out]
      exact ⟨A3, c3, rfl, Ho3.out, hb3⟩

theorem mayC (c : List (List (List UInt8))) : (∀ r ∈ c, Fm.May r) ∨ ¬ ∀ r ∈ c, Fm.May r := Decidable.em _
/-- What blockOf comes to. -/
def RetBl (w : World) (c : List (List (List UInt8))) (e : Ending) (w' : World) : Prop :=
  Below w.heap.size w w' ∧ if ∀ r ∈ c, Fm.May r then (∃ A k, e = .returned (.tuple #[.slice A (Hm.blkw c).length k, .bool true]) ∧ Own w' 5 w.heap.size A k (Hm.blkw c)) else e = .returned (.tuple #[.slice none 0 0, .bool false])

set_option maxRecDepth 100000 in
set_option maxHeartbeats 2000000 in
/-- blockOf -/
theorem blockOf_c (At : Option Addr) (ct : Nat) (D : Option Addr) (m d : Nat) (c : List (List (List UInt8))) (w : World) (ht : Rn w w.heap.size At 256 ct Cm.tab) (hr : RL w w.heap.size D m d c) (hm : m ≤ 5000) (hsz : (Fm.enc c).length ≤ 3200) :
    Calls Try.prog 28 #[.slice At 256 ct, .slice D m d] w (RetBl w c) := by
  rcases mayC c with hmay | hmay
  · obtain ⟨E, hE⟩ : ∃ E, E = Fm.enc c := ⟨_, rfl⟩
    obtain ⟨p, hp⟩ : ∃ p, p = Pm.pressS E := ⟨_, rfl⟩
    obtain ⟨bl, hbl⟩ : ∃ bl, bl = Hm.blkw c := ⟨_, rfl⟩
    obtain ⟨q, hq⟩ : ∃ q, q = bl.length := ⟨_, rfl⟩
    have hs : Cm.sealS Cm.tab p = (bl, 0) := by rw [sealS_ok _ _ Cm.tab_len, hbl, hp, hE]; rfl
    have hql := (Hm.blkw_len (c := c) (by omega)).2
    rw [← hbl, ← hq] at hql
    have hEl : E.length ≤ 3200 := by rw [hE]; exact hsz
    have hpl : p.length ≤ 20000 := by rw [hp]; have := Pm.press_len E (by omega); omega
    obtain ⟨el, hel⟩ : ∃ el, el = E.length := ⟨_, rfl⟩
    obtain ⟨pl, hpl2⟩ : ∃ pl, pl = p.length := ⟨_, rfl⟩
    rw [← hel] at hEl
    rw [← hpl2] at hpl
    have henc := fun W (hW : RL W W.heap.size D m d c) => encode_c D m d W.heap.size c W hW (Nat.le_refl _) (by omega) (by omega)
    rw [encS_ok hmay, ← hE] at henc
    have hpr := fun W A k (hW : Rb W W.heap.size A el k E) => press_c A el k E W hW (by omega)
    rw [← hp] at hpr
    have hse := fun W A k (hT : Rn W W.heap.size At 256 ct Cm.tab) (hW : Rb W W.heap.size A pl k p) => seal_lit At 256 ct Cm.tab A pl k p W hT (by omega) hW (by omega) bl q 0 hs hq.symm
    have Ht := Lib.hid ht; have Hr := Lib.hid hr; have Henc := Lib.hid henc; have Hpr := Lib.hid hpr; have Hse := Lib.hid hse; have Hmay := Lib.hid hmay; have HB := Lib.hid hbl; have HQ := Lib.hid hq; have HEL := Lib.hid hel; have HPL := Lib.hid hpl2
    clear ht hr henc hpr hse hs hE hp hsz hmay hbl hq hel hpl2
    go_enter Try.func28, Try.ntmps28
    go_wp2_with fail
    refine (Henc.out _ Hr.out).mono ?_
    rintro e w1 ⟨A1, c1, rfl, ho1, hb1⟩
    dsimp only at ho1 ⊢
    rw [← HEL.out]
    have z1 := hb1.size
    have hr1 := ho1.rb
    rw [← HEL.out] at hr1
    have Hr1 := Lib.hid hr1
    have ht1 := (Ht.out.below hb1).more z1
    have Ht1 := Lib.hid ht1
    clear ho1 hr1 ht1
    go_wp2_with fail
    refine (Hpr.out _ _ _ Hr1.out).mono ?_
    rintro e w2 ⟨A2, c2, rfl, ho2, hb2⟩
    rw [← HPL.out]
    have z2 := hb2.size
    have hr2 := ho2.rb
    rw [← HPL.out] at hr2
    have Hr2 := Lib.hid hr2
    have ht2 := (Ht1.out.below hb2).more z2
    have Ht2 := Lib.hid ht2
    clear ho2 hr2 ht2
    go_wp2_with fail
    refine (Hse.out _ _ _ Ht2.out Hr2.out).mono ?_
    rintro e w3 ⟨A3, c3, rfl, ho3, hb3⟩
    have b2 := hb1.trans (hb2.mono z1)
    have Ho3 := Lib.hid (ho3.1.mono (base' := w.heap.size) b2.size)
    clear ho3
    go_wp2
    go_ret2
    refine ⟨b2.trans (hb3.mono b2.size), ?_⟩
    rw [if_pos Hmay.out, ← HB.out]
    refine ⟨A3, c3, ?_, Ho3.out⟩
    rw [← HQ.out]
    have hd : decide ((q : Int) ≤ 20000) = true := by simp; omega
    show Ending.returned (.tuple #[.slice A3 q c3, .bool (decide ((q : Int) ≤ 20000))]) = _
    rw [hd]
  · have henc := fun W (hW : RL W W.heap.size D m d c) => encode_c D m d W.heap.size c W hW (Nat.le_refl _) (by omega) (by omega)
    rw [encS_err hmay] at henc
    have Hr := Lib.hid hr; have Henc := Lib.hid henc; have Hmay := Lib.hid hmay
    clear ht hr henc hsz hmay
    go_enter Try.func28, Try.ntmps28
    go_wp2_with fail
    refine (Henc.out _ Hr.out).mono ?_
    rintro e w1 ⟨A1, c1, rfl, ho1, hb1⟩
    clear ho1
    go_wp2
    go_ret2
    refine ⟨hb1, ?_⟩
    rw [if_neg Hmay.out]
    rfl
end Go.Proofs.Ytplkjljhpmldfaa

/-
  chest.addIndex: what the call returns and leaves.
-/
namespace Go.Proofs.Ytplkjljhpmldfaa
open Go.RowKit

theorem Grows.then {a b c : World} {A B : Option Addr} (h : Grows a b A B) (k : b.grownBy c (ob B)) : a.grownBy c (ob A) := by
  have hs := h.1.size
  refine ⟨k.os.trans h.1.os, k.tape.trans h.1.tape, k.output.trans h.1.output, Nat.le_trans hs k.size, fun i hi hne => ?_⟩
  refine (k.block i (Nat.lt_of_lt_of_le hi hs) fun e => ?_).trans (h.1.block i hi hne)
  rcases h.2 with h1 | ⟨g, h1, h2⟩
  · exact hne (e.trans h1)
  · rw [h1] at e; cases e; omega
/-- 'append(x, s...)', s a string: which block it touches. -/
theorem U8.wpAppStrG {P : Program} {t e s : TypeId} (u : U8 P t e s) {w : World} {ops : Array Oper} {rest : List Oper} {o : Oper} {a : Act} {Q : Exit → Act → World → Prop} (hgd : o.guard = none) (x y : Operand)
    (ho : o.op = .call { callee := .builtin .append, args := #[x, y], argTypes := #[t, s] })
    {base c : Nat} {A : Option Addr} {l N : List UInt8} {r : ByteArray} (hx : a.eval x = .slice A l.length c) (hy : a.eval y = .string r) (hown : Own w e base A c l) (hN : l ++ r.data.toList = N)
    (hsm : l.length + r.size ≤ 140737488355328) (hbase : base ≤ w.heap.size)
    (h : ∀ A' c' w', Own w' e base A' c' N → w.grownBy w' (ob A) → wpList P ops Q rest (a.put o.dst (.slice A' N.length c')) w') : wpList P ops Q (o :: rest) a w := by
  subst hN
  obtain ⟨i, hi, hz0, hz1, hz2⟩ := info_parts u.inf
  have hrs : r.size = r.data.toList.length := by rw [Array.length_toList]; rfl
  refine Lib.wpList_append_own_string w hgd x y t s ho base e i u.sl u.st hi hz0 hz1 hz2 _ l.length (bvs l) hx hown r hy (by simp only [maxLen]; omega) hsm hbase fun v' w' ho hg _ => ?_
  have hsh : ∃ A' c', v' = .slice A' (l.length + r.size) c' := by
    rcases ho.2 with ⟨hv, hn⟩ | ⟨g, cap, cur, hv, _⟩
    · exact ⟨_, _, by rw [hv, hn]⟩
    · exact ⟨_, _, hv⟩
  obtain ⟨A', c', hv⟩ := hsh
  subst hv
  have hl : (l ++ r.data.toList).length = l.length + r.size := by rw [List.length_append, hrs]
  rw [ownBlock_slice] at hg
  have := h A' c' w' (by
    unfold Own
    rw [hl, bvs_append]
    exact ho) hg
  rwa [hl] at this
/-- An entry's size and number. -/
def e2 (x : Nat × Nat × Nat) : Nat × Nat := (x.2.1, x.2.2)
def AiRel (w : World) (E : List (Nat × Nat × Nat)) (m : Nat) (o i : Value) (wr : World) : Prop :=
  ∃ X d M, ∃ k : Nat, o = .slice X (M : List UInt8).length d ∧ i = .int .i64 (k : Int) ∧ k ≤ m ∧ M = Vm.vb m ++ ((E.take k).map e2).flatMap Hm.ixe ∧ M.length ≤ 10 + 20 * k ∧ Own wr 5 w.heap.size X d M ∧ Below w.heap.size w wr
theorem ai_step {E : List (Nat × Nat × Nat)} {k m : Nat} {M : List UInt8} {x : Nat × Nat × Nat} (h : M = Vm.vb m ++ ((E.take k).map e2).flatMap Hm.ixe) (hx : E[k]? = some x) :
    (M ++ Vm.vb x.2.1) ++ Vm.vb x.2.2 = Vm.vb m ++ ((E.take (k + 1)).map e2).flatMap Hm.ixe := by
  obtain ⟨hk, rfl⟩ := List.getElem?_eq_some_iff.1 hx
  rw [h, List.take_succ_eq_append_getElem hk, List.map_append, List.flatMap_append]
  simp [Hm.ixe, e2]
/-- What addIndex comes to. -/
def RetAi (base : Nat) (w : World) (A : Option Addr) (N : List UInt8) (e : Ending) (w' : World) : Prop :=
  ∃ A' c', e = .returned (.slice A' N.length c') ∧ Own w' 5 base A' c' N ∧ w.grownBy w' (ob A)

set_option maxRecDepth 100000 in
set_option maxHeartbeats 4000000 in
/-- addIndex -/
theorem addIndex_c (A : Option Addr) (c base : Nat) (L : List UInt8) (At : Option Addr) (ct : Nat) (Ai : Option Addr) (m ci : Nat) (E : List (Nat × Nat × Nat)) (w : World) (ho : Own w 5 base A c L) (hb : base ≤ w.heap.size)
    (ht : Rn w w.heap.size At 256 ct Cm.tab) (hr : Re w w.heap.size Ai m ci E) (hm : m ≤ 5000) (hE : ∀ x ∈ E, x.2.1 ≤ 20000 ∧ x.2.2 ≤ 5000) (hL : L.length ≤ 800000) :
    Calls Try.prog 29 #[.slice A L.length c, .slice At 256 ct, .slice Ai m ci] w (RetAi base w A (L ++ Hm.tailw (E.map e2))) := by
  have hl := hr.len
  have Ho := Lib.hid ho; have Ht := Lib.hid ht; have Hr := Lib.hid hr; have Hl := Lib.hid hl; have HE := Lib.hid hE
  have hput := fun W (N : Nat) (hN : N ≤ 20000) => put_c none 0 0 [] N W (Rb.nil _ _) (by omega) (by omega)
  have Hput := Lib.hid hput
  clear ho ht hr hl hE hput
  go_enter Try.func29, Try.ntmps29
  go_wp2_with fail
  refine (Hput.out w m (by omega)).mono ?_
  rintro e w1 ⟨X1, d1, rfl, ho1, hb1⟩
  have z1 := hb1.size
  rw [List.nil_append] at ho1 ⊢
  have hvl : (Vm.vb m).length ≤ 10 := by have := Vm.vb_len_le 1 m (by omega); omega
  have Ho1 := Lib.hid ho1
  clear ho1
  go_wp2
  go_loopw [7, 18] (fun o i wr => AiRel w E m o i wr) (fun _ i _ => m - (intOf i).toNat)
  case atStart => exact ⟨X1, d1, Vm.vb m, 0, rfl, rfl, Nat.zero_le _, by simp, by omega, Ho1.out, hb1⟩
  case round =>
    obtain ⟨X, d, M, k, rfl, rfl, hk, hM, hMl, hoX, hbel⟩ := hrel
    have z3 := hbel.size
    by_cases hlt : k < m
    · have hrw := (Hr.out.below hbel)
      obtain ⟨eb, eo, x, rfl, heb, hx, c0, c1, c2⟩ := hrw.at_ hlt
      have hst := ai_step hM hx
      obtain ⟨hx1, hx2⟩ := HE.out x (List.mem_of_getElem? hx)
      obtain ⟨a, s, n⟩ := x
      dsimp only at hst hx1 hx2 c0 c1 c2
      obtain ⟨w4, hw4⟩ : ∃ w4, w4 = wr.alloc (.cells #[.int .i64 (a : Int), .int .i64 (s : Int), .int .i64 (n : Int)] 65) := ⟨_, rfl⟩
      obtain ⟨b4, z4, x0, x1, x2⟩ := box3_new wr _ _ _ _ w4 hw4
      have hp1 := Hput.out w4 s (by omega)
      rw [List.nil_append] at hp1
      have hvs : (Vm.vb s).length ≤ 10 := by have := Vm.vb_len_le 2 s (by omega); omega
      have hvn : (Vm.vb n).length ≤ 10 := by have := Vm.vb_len_le 1 n (by omega); omega
      obtain ⟨M1, hM1⟩ : ∃ M1, M1 = M ++ Vm.vb s := ⟨_, rfl⟩
      obtain ⟨M2, hM2⟩ : ∃ M2, M2 = M1 ++ Vm.vb n := ⟨_, rfl⟩
      have hM1l : M1.length ≤ 20 + 20 * k := by rw [hM1, List.length_append]; omega
      have hM2l : M2.length ≤ 10 + 20 * (k + 1) := by rw [hM2, List.length_append]; omega
      rw [← hM1, ← hM2] at hst
      have hoX4 := hoX.keep b4
      have hXlt : ∀ g, ob X = some g → g < wr.heap.size := fun g hg => (own_ob hoX g hg).2
      have hp2 := fun W => Hput.out W n (by omega)
      simp only [List.nil_append] at hp2
      have Hp2 := Lib.hid hp2; have HXlt := Lib.hid hXlt
      clear hp2 hXlt
      have W4 := Lib.hid hw4; have Hp1 := Lib.hid hp1; have HM1 := Lib.hid hM1; have HM2 := Lib.hid hM2; have Hst := Lib.hid hst; have HoX4 := Lib.hid hoX4
      clear hrw hx hw4 hp1 hM1 hM2 hst hoX4 hoX hM
      go_wp2_with fail
      rw [← W4.out]
      refine Hp1.out.mono ?_
      rintro e w5 ⟨A5, c5, rfl, ho5, hb5⟩
      have z5 := hb5.size
      have y1 := (hb5.cell (p := ⟨wr.heap.size, 1, none⟩) (by show wr.heap.size < _; omega)).trans x1
      have y2 := (hb5.cell (p := ⟨wr.heap.size, 2, none⟩) (by show wr.heap.size < _; omega)).trans x2
      have bw5 := (hbel.trans (b4.mono z3)).trans (hb5.mono (by omega))
      have hr5 := ho5.rb
      have hoX5 := HoX4.out.keep hb5
      have Hr5 := Lib.hid hr5; have HoX5 := Lib.hid hoX5
      clear hr5 hoX5 ho5 HoX4 x0 x1 x2
      go_wp2_with (at_builtin; go_must (refine bty.wpAppTo rfl (.tmp 22) (.tmp 26) rfl (l := M) (N := M1) rfl rfl HoX5.out Hr5.out HM1.out.symm ?h1 ?h2 ?_))
      case h1 => omega
      case h2 => omega
      intro A6 c6 w6 ho6 hg6
      have z6 := hg6.size
      have u2 := (hg6.cell ⟨wr.heap.size, 2, none⟩ (by show wr.heap.size < _; omega) (fun e => by have := HXlt.out _ e.symm; dsimp only at this; omega)).trans y2
      have bw6 := bw5.trans (hg6.below HoX5.out (by omega))
      have Ho6 := Lib.hid ho6
      clear ho6 hg6 y1 y2 HoX5 Hr5
      go_wp2_with fail
      refine (Hp2.out w6).mono ?_
      rintro e w7 ⟨A7, c7, rfl, ho7, hb7⟩
      have z7 := hb7.size
      have bw7 := bw6.trans (hb7.mono (by omega))
      have hr7 := ho7.rb
      have ho67 := Ho6.out.keep hb7
      have Hr7 := Lib.hid hr7; have Ho67 := Lib.hid ho67
      clear hr7 ho67 ho7 Ho6 u2
      go_wp2_with (at_builtin; go_must (refine bty.wpAppTo rfl (.tmp 28) (.tmp 32) rfl (l := M1) (N := M2) rfl rfl Ho67.out Hr7.out HM2.out.symm ?h1 ?h2 ?_))
      case h1 => omega
      case h2 => omega
      intro A8 c8 w8 ho8 hg8
      have bw8 := bw7.trans (hg8.below Ho67.out (by omega))
      have Ho8 := Lib.hid ho8
      clear ho8 hg8 Ho67 Hr7
      go_wp2
      go_roundw
      case rel => exact ⟨A8, c8, M2, k + 1, rfl, by go_num, by omega, Hst.out, hM2l, Ho8.out, bw8⟩
      case measure => simp [intOf]; omega
    · have hkm : k = m := by omega
      subst hkm
      have hMx : M = Hm.ixc (E.map e2) := by
        rw [hM, List.take_of_length_le (by rw [Hl.out]; omega)]
        unfold Hm.ixc
        rw [List.length_map, Hl.out]
      obtain ⟨S, hS⟩ : ∃ S, S = Hm.sealed M := ⟨_, rfl⟩
      have hSl : S.length = M.length + 4 := by rw [hS, Hm.sealed_len]
      obtain ⟨q, hq⟩ : ∃ q, q = S.length := ⟨_, rfl⟩
      have hs : Cm.sealS Cm.tab M = (S, 0) := by rw [sealS_ok _ _ Cm.tab_len, hS]; rfl
      have hse := seal_lit At 256 ct Cm.tab X M.length d M wr ((Ht.out.below hbel).more z3) (by omega) hoX.rb (by omega) S q 0 hs hq.symm
      obtain ⟨N1, hN1⟩ : ∃ N1, N1 = L ++ S := ⟨_, rfl⟩
      obtain ⟨N2, hN2⟩ : ∃ N2, N2 = N1 ++ Cm.four q := ⟨_, rfl⟩
      obtain ⟨N3, hN3⟩ : ∃ N3, N3 = N2 ++ Hm.tl := ⟨_, rfl⟩
      have hN : L ++ Hm.tailw (E.map e2) = N3 := by
        rw [hN3, hN2, hN1, hq, hS, hMx]
        unfold Hm.tailw
        simp only [List.append_assoc]
      have hq9 : q ≤ 100100 := by omega
      have hN1l : N1.length ≤ 900100 := by rw [hN1, List.length_append]; omega
      have hN2l : N2.length ≤ 900104 := by rw [hN2, List.length_append, Cm.four_len]; omega
      have HN := Lib.hid hN; have Hse := Lib.hid hse; have HN1 := Lib.hid hN1; have HN2 := Lib.hid hN2; have HN3 := Lib.hid hN3; have HQ := Lib.hid hq
      clear hse hN1 hN2 hN3 hN hs hS hSl hMx hM hoX hq
      go_wp2_with fail
      refine Hse.out.mono ?_
      rintro e w4 ⟨A4, c4, rfl, ho4, hb4⟩
      have b4 : Below w.heap.size w w4 := hbel.trans (hb4.mono z3)
      have z4 := b4.size
      have hoA := Ho.out.keep b4
      have hr4 := Own.rbl ho4
      have HoA := Lib.hid hoA; have Hr4 := Lib.hid hr4
      clear hoA hr4 ho4
      go_wp2_with (at_builtin; go_must (refine bty.wpAppTo rfl (.tmp 41) (.tmp 42) rfl (l := L) (N := N1) rfl rfl HoA.out Hr4.out HN1.out.symm ?h1 ?h2 ?_))
      case h1 => omega
      case h2 => omega
      intro A5 c5 w5 ho5 hg5
      have g5 := Grows.pre b4 hg5
      have z5 := g5.size
      have hsz := addSize_c A5 c5 base q N1 w5 ho5 (by omega) (by omega) (by omega)
      rw [← HN2.out] at hsz
      have Hsz := Lib.hid hsz
      clear hsz ho5 hg5 HoA Hr4
      go_wp2_with fail
      refine Hsz.out.mono ?_
      rintro e w6 ⟨A6, c6, rfl, ho6, hg6⟩
      have g6 := g5.trans hg6
      have z6 := g6.size
      have Ho6 := Lib.hid ho6
      clear ho6
      go_wp2_with (at_builtin; go_must (refine bty.wpAppStrG rfl (.tmp 48) _ rfl (l := N2) (N := N3) rfl rfl Ho6.out ?h0 ?h1 ?h2 ?_))
      case h0 => rw [HN3.out]; rfl
      case h1 => show N2.length + 4 ≤ _; omega
      case h2 => omega
      intro A7 c7 w7 ho7 hg7
      go_wp2
      go_ret
      rw [HN.out]
      exact ⟨A7, c7, rfl, ho7, g6.then hg7⟩
end Go.Proofs.Ytplkjljhpmldfaa

/-
  chest.Write: words and mathematics of its loop.
-/
namespace Go.Proofs.Ytplkjljhpmldfaa
open Go.RowKit Go.Shelf

abbrev Rcs := List (List (List UInt8))
/-- The records of a chunk. -/
def chk (l : Rcs) (p : Nat × Nat) : Rcs := (l.take p.2).drop p.1
theorem RL.chunk {w : World} {B n c i e : Nat} {A : Option Addr} {l : Rcs} (h : RL w B A n c l) (hi : i ≤ e) (he : e ≤ n) : RL w B (cutA A e i) (e - i) (e - i) (chk l (i, e)) := by
  have hl := h.len
  obtain ⟨vs, h1, h2⟩ := h
  have hvl := h1.len1
  refine ⟨(vs.take e).drop i, ⟨by rw [List.length_drop, List.length_take]; omega, Nat.le_refl _, by have := h1.2.1; have := h1.2.2.1; omega, fun hp => ?_⟩, by rw [List.length_drop, List.length_take]; unfold chk; rw [List.length_drop, List.length_take]; dsimp only; omega, fun j v r g1 g2 => ?_⟩
  · obtain ⟨b, off, rfl, hb, hc⟩ := h1.2.2.2 (by omega)
    refine ⟨b, off + i, ?_, hb, fun j v hj => ?_⟩
    · unfold cutA
      rw [if_neg (by omega)]
      by_cases h0 : i = 0
      · subst h0; simp [Addr.add]
      · simp [Addr.add, h0]
    · rw [List.getElem?_drop, List.getElem?_take] at hj
      split at hj
      · rw [Nat.add_assoc]; exact hc _ v hj
      · cases hj
  · unfold chk at g2
    rw [List.getElem?_drop, List.getElem?_take] at g1 g2
    dsimp only at g2
    split at g1
    · rw [if_pos (by assumption)] at g2
      exact h2.2 _ v r g1 g2
    · cases g1
theorem chk_four (l : Rcs) (i : Nat) : chk l (i, min (i + 4) l.length) = (l.drop i).take 4 := by
  unfold chk
  dsimp only
  rw [List.drop_take]
  by_cases h : i + 4 ≤ l.length
  · rw [Nat.min_eq_left h]; congr 1; omega
  · rw [Nat.min_eq_right (by omega), List.take_of_length_le (by rw [List.length_drop]; omega), List.take_of_length_le (by rw [List.length_drop]; omega)]
theorem chk_all (l : Rcs) : ∀ (k i : Nat), l.length - i ≤ k → (ck l.length i).map (chk l) = Hm.ch (l.drop i)
  | 0, i, h => by rw [ck_end (by omega), List.drop_of_length_le (by omega)]; rfl
  | k + 1, i, h => by
    by_cases hi : i < l.length
    · have hne : l.drop i ≠ [] := fun e => by have := congrArg List.length e; rw [List.length_drop] at this; simp at this; omega
      rw [ck_step hi, Hm.ch_step hne, List.drop_drop, List.map_cons, chk_four, chk_all l k (i + 4) (by omega)]
    · rw [ck_end (by omega), List.drop_of_length_le (by omega)]; rfl
theorem chk_ch (l : Rcs) : (ck l.length 0).map (chk l) = Hm.ch l := by
  have h := chk_all l l.length 0 (by omega)
  rwa [List.drop_zero] at h
theorem chk_wL (l : Rcs) (p : Nat × Nat) : wL (chk l p) ≤ wL l := by
  have h1 := wL_take l p.2
  have h2 := congrArg wL (List.take_append_drop p.1 (l.take p.2))
  rw [wL_app] at h2
  unfold chk
  omega
theorem chk_enc {l : Rcs} (h : Hm.Few l) (p : Nat × Nat) : (Fm.enc (chk l p)).length ≤ 3200 := by
  have h1 := chk_wL l p
  refine Hm.enc_len _ (by have := h.1; omega) ?_
  unfold chk
  rw [List.length_drop, List.length_take]
  have := h.2
  omega
theorem may_chk {l : Rcs} (h : ∀ p ∈ ck l.length 0, ∀ r ∈ chk l p, Fm.May r) : ∀ r ∈ l, Fm.May r := fun r hr => by
  have h1 := Hm.ch_flat _ l (Nat.le_refl _)
  rw [← h1, ← chk_ch l] at hr
  obtain ⟨c, hc, hr⟩ := List.mem_flatten.1 hr
  obtain ⟨p, hp, rfl⟩ := List.mem_map.1 hc
  exact h p hp r hr
theorem chk_bad {l : Rcs} {p : Nat × Nat} (h : ¬ ∀ r ∈ chk l p, Fm.May r) : ¬ ∀ r ∈ l, Fm.May r := fun h2 => h fun r hr => h2 r (List.mem_of_mem_take (List.mem_of_mem_drop hr))
theorem bsl : Sl Try.prog 22 5 (.int .u8 0) 1 1 := ⟨Try.underlying22, by kernel_rfl, rfl, by omega⟩
theorem Rb.rc {w : World} {B n c : Nat} {A : Option Addr} {l : List UInt8} (h : Rb w B A n c l) : Rc 1 w B A n c (bvs l) :=
  ⟨by rw [bvs_length, h.1, Nat.mul_one], h.2.1, h.2.2.1, fun hn => by
    obtain ⟨b, off, e, hb, hc⟩ := h.2.2.2 hn
    refine ⟨b, off, e, hb, fun j v hj => ?_⟩
    obtain ⟨x, hx, rfl⟩ := bvs_get l j v hj
    exact hc j x hx⟩
theorem evs_snoc (E : List (Nat × Nat × Nat)) (x : Nat × Nat × Nat) : evs E ++ [.int .i64 (x.1 : Int), .int .i64 (x.2.1 : Int), .int .i64 (x.2.2 : Int)] = evs (E ++ [x]) := by rw [evs_app]; rfl
theorem oc_turn' {e : TypeId} {W W' : World} {base c : Nat} {A : Option Addr} {l : List UInt8} {row : Option Nat} (h : Own W e base A c l) (hg : W.grownBy W' row) (hr : ∀ r, row = some r → ∃ o : Obj, W.heap[r]? = some o ∧ o.isCells = false) : Own W' e base A c l :=
  oc_turn (z := 1) (vs := bvs l) h hg hr
/-- What Write comes to. -/
def RetW (w : World) (p : List UInt8 × Nat) (e : Ending) (w' : World) : Prop :=
  ∃ A c, e = .returned (.tuple #[.slice A p.1.length c, .int .i64 (p.2 : Int)]) ∧ Own w' 5 w.heap.size A c p.1 ∧ Below w.heap.size w w'
/-- What the loop of Write carries. -/
def WrI (l : Rcs) (n s hi n₀ : Nat) (wL : World) (pre : List (Bk n)) (W : World) : Prop :=
  ∃ A c L Ai ci E, Boxed W (s + 1 + 1) 22 (.slice A (List.length L) c) ∧ Own W 5 n₀ A c L ∧ L = Hm.body ((pre.map (·.1)).map (chk l)) ∧ L.length ≤ 20000 * pre.length ∧
    Boxed W (s + 1 + 1 + 1) 56 (.slice Ai pre.length ci) ∧ Oc 3 W 65 n₀ Ai pre.length ci (evs E) ∧ E.map e2 = ((pre.map (·.1)).map (chk l)).map Hm.ew ∧ (∀ x ∈ E, x.2.1 ≤ 20000 ∧ x.2.2 ≤ 5000) ∧ (ob A = none ∨ ob A ≠ ob Ai) ∧
    But s hi n₀ wL W ∧ n₀ ≤ W.heap.size ∧ Boxed W s 22 (.slice none 0 0) ∧ Boxed W (s + 1) 25 (.int .i64 0) ∧ ∀ p ∈ pre, ∀ r ∈ chk l p.1, Fm.May r
def WrX (l : Rcs) (n s hi n₀ : Nat) (wL : World) (j : Code) (pre : List (Bk n)) (W : World) : Prop :=
  j = .ret ∧ (∃ p ∈ pre, ¬ ∀ r ∈ chk l p.1, Fm.May r) ∧ But s hi n₀ wL W ∧ n₀ ≤ W.heap.size ∧ Boxed W s 22 (.slice none 0 0) ∧ Boxed W (s + 1) 25 (.int .i64 10)
theorem wrI_own (l : Rcs) (n s hi n₀ : Nat) (wL : World) (hlo : hi ≤ n₀) (hsb : s + 4 ≤ hi) : OwnFrom n₀ (WrI l n s hi n₀ wL) := by
  rintro pre W W' row ⟨A, c, L, Ai, ci, E, h1, h2, h3, h3l, h4, h4r, h4e, h4b, h4a, h5, h6, h7, h8, h9⟩ hg hr
  have hk : ∀ {b : Nat} {t : TypeId} {v : Value}, Boxed W b t v → b < n₀ → Boxed W' b t v := fun {b} _ _ h hb => h.kept hg (fun e => by have := (hr b e.symm).1; omega)
  exact ⟨A, c, L, Ai, ci, E, hk h1 (by omega), oc_turn' h2 hg (fun r e => (hr r e).2), h3, h3l, hk h4 (by omega), oc_turn h4r hg (fun r e => (hr r e).2), h4e, h4b, h4a, but_turn h5 hg (fun r e => (hr r e).1) h6, Nat.le_trans h6 hg.size, hk h7 (by omega), hk h8 (by omega), h9⟩
theorem wrX_own (l : Rcs) (n s hi n₀ : Nat) (wL : World) (hlo : hi ≤ n₀) (hsb : s + 4 ≤ hi) (j : Code) : OwnFrom n₀ (WrX l n s hi n₀ wL j) := by
  rintro pre W W' row ⟨hj, h1, h5, h6, h7, h8⟩ hg hr
  have hk : ∀ {b : Nat} {t : TypeId} {v : Value}, Boxed W b t v → b < n₀ → Boxed W' b t v := fun {b} _ _ h hb => h.kept hg (fun e => by have := (hr b e.symm).1; omega)
  exact ⟨hj, h1, but_turn h5 hg (fun r e => (hr r e).1) h6, Nat.le_trans h6 hg.size, hk h7 (by omega), hk h8 (by omega)⟩
end Go.Proofs.Ytplkjljhpmldfaa
