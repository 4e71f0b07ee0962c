/-
  Joined: Ka Kc.
-/
import Derived.Test.YtoalncojijmelaaGreatDoorJ2
import Derived.Test.YtoalncojijmelaaGreatDoorJ4
import Derived.Test.YtoalncojijmelaaGreatDoorJ7
import Derived.Test.YtoalncojijmelaaGreatDoorJ3
import Derived.Test.YtoalncojijmelaaGreatDoorProg
import Derived.Lib.Hide
import Derived.Lib.MinMax
import Derived.BigQuiet
import Derived.Deep.QuietTactic
import Derived.Laws.Rows
import Derived.IntWalk
import Derived.Lib.Strings
/-
  Words for values, instructions, programs in memory.
-/
namespace Go.Proofs.YtoalncojijmelaaGreatDoor
open Go.RowKit Vl Cd

abbrev iv (x : Ins) : Value := .agg #[.int .i64 x.op, .int .i64 x.n, st x.s]
theorem em_of {X : ByteArray} {s : List UInt8} (h : X = ⟨s.toArray⟩) : X.toList.isEmpty = (s == []) := by
  rw [Lib.toList_data, h]; cases s <;> rfl
theorem hide_st (s : List UInt8) : ∃ X : ByteArray, X = ⟨s.toArray⟩ ∧ X.size = s.length ∧ X.toList.isEmpty = (s == []) ∧ X.data.toList = s :=
  ⟨_, rfl, rfl, em_of rfl, by simp⟩


/-- The cells of a program. -/
def ics (l : List Ins) : List Value := l.flatMap fun v => [.int .i64 v.op, .int .i64 v.n, st v.s]
theorem ics_len (l : List Ins) : (ics l).length = l.length * 3 := by
  induction l with
  | nil => rfl
  | cons v l ih => unfold ics at ih ⊢; rw [List.flatMap_cons, List.length_append, ih]; simp; omega
theorem ics_app (l r : List Ins) : ics (l ++ r) = ics l ++ ics r := by simp [ics]
theorem ics_one (l : List Ins) : ∀ v ∈ ics l, v.oneCell' = true := by
  intro v hv
  obtain ⟨x, -, h⟩ := List.mem_flatMap.1 hv
  simp at h
  rcases h with rfl | rfl | rfl <;> rfl
theorem ics_get : ∀ (l : List Ins) (k : Nat) (v : Ins), l[k]? = some v → (ics l)[k * 3]? = some (.int .i64 v.op) ∧ (ics l)[k * 3 + 1]? = some (.int .i64 v.n) ∧ (ics l)[k * 3 + 2]? = some (st v.s)
  | [], k, v, h => by simp at h
  | x :: l, 0, v, h => by
    simp at h; subst h
    exact ⟨rfl, rfl, rfl⟩
  | x :: l, k + 1, v, h => by
    have ih := ics_get l k v (by simpa using h)
    have e : ics (x :: l) = [.int .i64 x.op, .int .i64 x.n, st x.s] ++ ics l := rfl
    rw [e, show (k + 1) * 3 = k * 3 + 3 by omega, show k * 3 + 3 + 1 = (k * 3 + 1) + 3 by omega, show k * 3 + 3 + 2 = (k * 3 + 2) + 3 by omega]
    rw [List.getElem?_append_right (by simp), List.getElem?_append_right (by simp), List.getElem?_append_right (by simp)]
    simpa using ih
theorem ics_num {w : World} {B n c : Nat} {A : Option Addr} {l : List Ins} (h : Rc 3 w B A n c (ics l)) : l.length = n := by have := h.1; rw [ics_len] at this; omega
theorem ics_at {w : World} {B n c k : Nat} {A : Option Addr} {l : List Ins} (h : Rc 3 w B A n c (ics l)) (hk : k < n) :
    ∃ b o v, A = some ⟨b, o, none⟩ ∧ b < B ∧ w.cell? ⟨b, o + k * 3, none⟩ = some (.int .i64 v.op) ∧ w.cell? ⟨b, o + k * 3 + 1, none⟩ = some (.int .i64 v.n) ∧ w.cell? ⟨b, o + k * 3 + 2, none⟩ = some (st v.s) ∧ l[k]? = some v := by
  have hl : l.length = n := ics_num h
  obtain ⟨b, o, e, hb, hc⟩ := h.2.2.2 (by omega)
  have hkl : k < l.length := by omega
  have hg := List.getElem?_eq_getElem hkl
  obtain ⟨g1, g2, g3⟩ := ics_get l k _ hg
  exact ⟨b, o, l[k], e, hb, hc _ _ g1, by rw [Nat.add_assoc]; exact hc _ _ g2, by rw [Nat.add_assoc]; exact hc _ _ g3, hg⟩
theorem ity : Sl Tryz.prog 22 44 (.agg #[.int .i64 0, .int .i64 0, .string ⟨#[]⟩]) 3 32 := ⟨Tryz.underlying22, by kernel_rfl, rfl, by omega⟩


theorem Sl.sz {P : Program} {t e : TypeId} {zv : Value} {z y : Nat} (u : Sl P t e zv z y) (W : World) : (sizeOf (P.elem t)).run P W = .ok z W := by
  obtain ⟨i, hi, hz0, hz1, hz2⟩ := info_parts u.inf
  have he : P.elem t = e := by simp [Program.elem, u.sl]
  simp [sizeOf, typeInfo, he, hi, hz1]
theorem Sl.sl' {P : Program} {t e : TypeId} {zv : Value} {z y : Nat} (u : Sl P t e zv z y) : P.underlying t = some (.slice (P.elem t)) := by
  have he : P.elem t = e := by simp [Program.elem, u.sl]
  rw [he]; exact u.sl
/-- 's[k:]' -/
theorem Sl.from_ {P : Program} {t e : TypeId} {zv : Value} {z y : Nat} (u : Sl P t e zv z y) (A : Option Addr) (n c k : Nat) (hk : k ≤ n) (K : Int) (hK : K = (k : Int)) :
    ∀ W kd, (Instr.slice t (.slice A n c) (some (.int kd K)) none none).run P W = .ok (.slice (if c = k then A else A.map (·.add (k * z))) (n - k) (c - k)) W := fun W kd => by
  subst hK
  rw [run_slice_l W t _ _ _ u.sl' kd (k : Int) (by omega) (by omega), u.sz]
  simp [Result.andThen, sliced]
/-- 's[:k]' -/
theorem Sl.upto {P : Program} {t e : TypeId} {zv : Value} {z y : Nat} (u : Sl P t e zv z y) (A : Option Addr) (n c k : Nat) (hk : k ≤ n) (hn : n ≤ c) (K : Int) (hK : K = (k : Int)) :
    ∀ W kd, (Instr.slice t (.slice A n c) none (some (.int kd K)) none).run P W = .ok (.slice A k c) W := fun W kd => by
  subst hK
  rw [run_slice_h W t _ _ _ u.sl' kd (k : Int) (by omega) (by omega), u.sz]
  by_cases h0 : c = 0
  · subst h0
    obtain rfl : k = 0 := by omega
    simp [Result.andThen, sliced]
  · simp [Result.andThen, sliced, h0]
    cases A <;> simp [Addr.add]
theorem Rc.upto {z : Nat} {w : World} {B n c k : Nat} {A : Option Addr} {vs : List Value} (h : Rc z w B A n c vs) (hk : k ≤ n) : Rc z w B A k c (vs.take (k * z)) := by
  obtain ⟨h1, h2, h3, h4⟩ := h
  refine ⟨by rw [List.length_take, h1]; exact Nat.min_eq_left (Nat.mul_le_mul_right z hk), by omega, h3, fun hn => ?_⟩
  obtain ⟨b, off, rfl, hb, hc⟩ := h4 (by omega)
  refine ⟨b, off, rfl, hb, fun j x hx => ?_⟩
  rw [List.getElem?_take] at hx
  split at hx
  · exact hc _ x hx
  · cases hx
theorem Rc.from_ {z : Nat} {w : World} {B n c k : Nat} {A : Option Addr} {vs : List Value} (h : Rc z w B A n c vs) (hk : k ≤ n) : Rc z w B (if c = k then A else A.map (·.add (k * z))) (n - k) (c - k) (vs.drop (k * z)) := by
  obtain ⟨h1, h2, h3, h4⟩ := h
  refine ⟨by rw [List.length_drop, h1, Nat.sub_mul], by omega, by omega, fun hn => ?_⟩
  obtain ⟨b, off, rfl, hb, hc⟩ := h4 (by omega)
  rw [if_neg (by omega)]
  refine ⟨b, off + k * z, ?_, hb, fun j x hx => ?_⟩
  · by_cases h0 : k * z = 0
    · simp [Addr.add, h0]
    · simp [Addr.add, h0]
  · rw [List.getElem?_drop] at hx
    rw [Nat.add_assoc]
    exact hc _ x hx
theorem Sl.opAppAt {P : Program} {t e : TypeId} {zv : Value} {z y : Nat} (u : Sl P t e zv z y) {w : World} {o : Oper} {a : Act} {K : Act → World → Prop} {Q : Exit → Act → World → Prop} (p q : Operand)
    (ho : o.op = .call { callee := .builtin .append, args := #[p, q], argTypes := #[t, t] })
    {base n c B m d N : Nat} {A D : Option Addr} {vs us ws : List Value} (hx : a.eval p = .slice A n c) (hy : a.eval q = .slice D m d) (hown : Oc z w e base A n c vs) (hr : Rc z w B D m d us) (h1 : ∀ v ∈ us, v.oneCell' = true)
    (hN : n + m = N) (hvs : vs ++ us = ws) (hsm : N * y ≤ 140737488355328) (hnm : N ≤ 140737488355328) (hbase : base ≤ w.heap.size)
    (h : ∀ A' c' w', Oc z w' e base A' N c' ws → Grows w w' A A' → K (a.put o.dst (.slice A' N c')) w') : o.wp P a w K Q := by
  subst hN hvs
  obtain ⟨A', c', w', hrun, h2, h3⟩ := u.appendAt o.type hown hr h1 hsm hnm hbase
  unfold Oper.wp execOp
  simp only [ho, resolve, invoke, builtin, Sem.run_bind, Sem.run_pure, Result.andThen_ok, List.map_toArray, List.map_cons, List.map_nil, hx, hy, hrun]
  exact h A' c' w' h2 h3
theorem ics_take : ∀ (l : List Ins) (k : Nat), (ics l).take (k * 3) = ics (l.take k)
  | [], k => by simp [ics]
  | x :: l, 0 => by simp [ics]
  | x :: l, k + 1 => by
    have e : ics (x :: l) = .int .i64 x.op :: .int .i64 x.n :: st x.s :: ics l := rfl
    have e2 : ics ((x :: l).take (k + 1)) = .int .i64 x.op :: .int .i64 x.n :: st x.s :: ics (l.take k) := rfl
    rw [e, e2, show (k + 1) * 3 = k * 3 + 3 by omega, List.take_succ_cons, List.take_succ_cons, List.take_succ_cons, ics_take l k]
theorem ics_drop : ∀ (l : List Ins) (k : Nat), (ics l).drop (k * 3) = ics (l.drop k)
  | [], k => by simp [ics]
  | x :: l, 0 => by simp [ics]
  | x :: l, k + 1 => by
    have e : ics (x :: l) = .int .i64 x.op :: .int .i64 x.n :: st x.s :: ics l := rfl
    rw [e, show (k + 1) * 3 = k * 3 + 3 by omega, List.drop_succ_cons, List.drop_succ_cons, List.drop_succ_cons, ics_drop l k, List.drop_succ_cons]
end Go.Proofs.YtoalncojijmelaaGreatDoor

/-
  The document's May.
-/
namespace Go.Proofs.YtoalncojijmelaaGreatDoor
open Go.RowKit Vl Cd

set_option maxRecDepth 100000 in
set_option maxHeartbeats 4000000 in
theorem rmay_c (x : Ins) (w : World) : Calls Tryz.prog 48 #[iv x] w (RetV w (.bool (may x))) := by
  obtain ⟨op, n, s⟩ := x
  obtain ⟨X, hX, hXs, hXe, -⟩ := hide_st s
  obtain ⟨o, ho⟩ : ∃ o, o = may ⟨op, n, s⟩ := ⟨_, rfl⟩
  have hm := @may_s ⟨op, n, s⟩
  have ho' := @may_op ⟨op, n, s⟩
  have hn' := @may_n ⟨op, n, s⟩
  rw [← ho] at hm ho' hn'
  show Calls Tryz.prog 48 #[.agg #[.int .i64 op, .int .i64 n, .string ⟨s.toArray⟩]] w _
  rw [← ho, ← hX]
  unfold may at ho
  dsimp only at ho hm ho' hn'
  obtain ⟨w0, hw0⟩ : ∃ w0, w0 = w.alloc (.cells #[.int .i64 op, .int .i64 n, .string X] 44) := ⟨_, rfl⟩
  have b0 : Below w.heap.size w w0 := by rw [hw0]; exact (Below.refl _ _).alloc (Nat.le_refl _) _
  have x0 : Bx w0 w.heap.size (.int .i64 op) (.int .i64 n) (.string X) := by rw [hw0]; exact Bx.made _ _ _ _ _
  have W0 := Lib.hid hw0; have B0 := Lib.hid b0; have Hm := Lib.hid hm; have Ho' := Lib.hid ho'; have Hn' := Lib.hid hn'; have Hse := Lib.hid hXe; have Hsz := Lib.hid hXs
  clear hw0 b0 hX hm ho' hn' hXe hXs
  obtain ⟨c0, c1, c2, -, -, -, hlt⟩ := x0
  by_cases h0 : op < 0
  · have d0 : decide (op < 0) = true := decide_eq_true h0
    have HO := Lib.hid (show false = o by cases o with
      | false => rfl
      | true => have := Ho'.out rfl; omega)
    clear ho h0
    go_enter Tryz.func48, Tryz.ntmps48
    go_wp2_with (rw [← W0.out])
    go_ret
    exact ⟨by rw [← HO.out]; rfl, B0.out⟩
  · have d0 : decide (op < 0) = false := decide_eq_false h0
    by_cases h1 : 23 < op
    · have d1 : decide (23 < op) = true := decide_eq_true h1
      have HO := Lib.hid (show false = o by cases o with
        | false => rfl
        | true => have := Ho'.out rfl; omega)
      clear ho h0 h1
      go_enter Tryz.func48, Tryz.ntmps48
      go_wp2_with (rw [← W0.out])
      go_ret
      exact ⟨by rw [← HO.out]; rfl, B0.out⟩
    · have d1 : decide (23 < op) = false := decide_eq_false h1
      by_cases h2 : op = 1
      · subst h2
        by_cases h3 : 1000 < X.size
        · have d3 : decide ((1000 : Int) < (X.size : Int)) = true := decide_eq_true (by omega)
          have HO := Lib.hid (show false = o by cases o with
            | false => rfl
            | true => have := (Hm.out rfl).1; have := Hsz.out; omega)
          clear ho h0 h1 h3
          go_enter Tryz.func48, Tryz.ntmps48
          go_wp2_with (rw [← W0.out])
          go_ret
          exact ⟨by rw [← HO.out]; rfl, B0.out⟩
        · have d3 : decide ((1000 : Int) < (X.size : Int)) = false := decide_eq_false (by omega)
          have HO := Lib.hid (show (n == 0) = o by
            rw [ho, if_neg (by omega), if_pos rfl, decide_eq_true (by have := Hsz.out; omega), Bool.and_true])
          clear ho h0 h1 h3
          go_enter Tryz.func48, Tryz.ntmps48
          go_wp2_with (rw [← W0.out])
          go_ret
          exact ⟨by rw [← HO.out]; rfl, B0.out⟩
      · have d2 : (op == 1) = false := beq_eq_false_iff_ne.2 h2
        have d2' : (op != 1) = true := by rw [bne, d2]; rfl
        by_cases he : s = []
        · have e1 : X.toList.isEmpty = true := by rw [Hse.out]; exact beq_iff_eq.2 he
          have e3 : decide ((1000 : Int) < (X.size : Int)) = false := decide_eq_false (by have := Hsz.out; rw [he, List.length_nil] at this; omega)
          have hz : (s == []) = true := beq_iff_eq.2 he
          rw [hz] at ho
          by_cases h3 : op = 0
          · subst h3
            have HO := Lib.hid (show true = o by rw [ho, if_pos rfl])
            clear ho h0 h1 h2
            go_enter Tryz.func48, Tryz.ntmps48
            go_wp2_with (rw [← W0.out])
            go_ret
            exact ⟨by rw [← HO.out]; rfl, B0.out⟩
          · have d3 : (op == 0) = false := beq_eq_false_iff_ne.2 h3
            by_cases h4 : op = 2
            · subst h4
              by_cases hn : 0 ≤ n
              · have f1 : decide (0 ≤ n) = true := decide_eq_true hn
                by_cases hnn : n ≤ 49
                · have f2 : decide (n ≤ 49) = true := decide_eq_true hnn
                  have HO := Lib.hid (show true = o by rw [ho, if_neg (by omega), if_neg (by omega), if_pos rfl, f1, decide_eq_true (by omega)]; rfl)
                  clear ho h0 h1 h2 h3 hn hnn
                  go_enter Tryz.func48, Tryz.ntmps48
                  go_wp2_with (rw [← W0.out])
                  go_ret
                  exact ⟨by rw [← HO.out]; rfl, B0.out⟩
                · have f2 : decide (n ≤ 49) = false := decide_eq_false hnn
                  have HO := Lib.hid (show false = o by rw [ho, if_neg (by omega), if_neg (by omega), if_pos rfl, decide_eq_false (show ¬ n < 50 by omega)]; simp)
                  clear ho h0 h1 h2 h3 hn hnn
                  go_enter Tryz.func48, Tryz.ntmps48
                  go_wp2_with (rw [← W0.out])
                  go_ret
                  exact ⟨by rw [← HO.out]; rfl, B0.out⟩
              · have f1 : decide (0 ≤ n) = false := decide_eq_false hn
                have HO := Lib.hid (show false = o by rw [ho, if_neg (by omega), if_neg (by omega), if_pos rfl, f1]; rfl)
                clear ho h0 h1 h2 h3 hn
                go_enter Tryz.func48, Tryz.ntmps48
                go_wp2_with (rw [← W0.out])
                go_ret
                exact ⟨by rw [← HO.out]; rfl, B0.out⟩
            · have d4 : (op == 2) = false := beq_eq_false_iff_ne.2 h4
              have d4' : (op != 2) = true := by rw [bne, d4]; rfl
              have HO := Lib.hid (show (n == 0) = o by
                rw [ho, if_neg h3, if_neg h2, if_neg h4, decide_eq_true (by omega), decide_eq_true (by omega)]; simp)
              clear ho h0 h1 h2 h3 h4
              go_enter Tryz.func48, Tryz.ntmps48
              go_wp2_with (rw [← W0.out])
              go_ret
              exact ⟨by rw [← HO.out]; rfl, B0.out⟩
        · have e1 : X.toList.isEmpty = false := by rw [Hse.out]; exact beq_eq_false_iff_ne.2 he
          have HO := Lib.hid (show false = o by cases o with
            | false => rfl
            | true => exact absurd ((Hm.out rfl).2 h2) he)
          clear ho h0 h1 h2 he
          go_enter Tryz.func48, Tryz.ntmps48
          go_wp2_with (rw [← W0.out])
          go_ret
          exact ⟨by rw [← HO.out]; rfl, B0.out⟩
end Go.Proofs.YtoalncojijmelaaGreatDoor
