/-
  The program's table of operations.
-/
import Derived.Test.YthkjhenaicbepaaDoorKa
import Derived.Laws.Tables
import Derived.Deep.WholeRow
import Derived.Laws.EntriesVeiled
namespace Go.Proofs.YthkjhenaicbepaaDoor
open Go.RowKit Vl Cd
theorem kindOf_c (b : Bool) (w : World) : Calls Tryd.prog 56 #[.bool b] w fun e w' => e = .returned (.int .u8 (if b then 2 else 1)) ∧ w' = w := by
  cases b
  all_goals
    go_enter Tryd.func56, Tryd.ntmps56
    go_wp2
    go_ret
    exact ⟨rfl, rfl⟩


def tbl : Array Value := #[
  .int .u8 0, .int .u8 0, .int .u8 0, .int .u8 0, .nilFunc,
  .int .u8 0, .int .u8 0, .int .u8 0, .int .u8 0, .nilFunc,
  .int .u8 0, .int .u8 0, .int .u8 0, .int .u8 0, .nilFunc,
  .int .u8 0, .int .u8 0, .int .u8 0, .int .u8 0, .nilFunc,
  .int .u8 1, .int .u8 1, .int .u8 0, .int .u8 1, .func (.func 38) #[] #[],
  .int .u8 1, .int .u8 1, .int .u8 0, .int .u8 1, .func (.func 39) #[] #[],
  .int .u8 1, .int .u8 1, .int .u8 0, .int .u8 1, .func (.func 40) #[] #[],
  .int .u8 1, .int .u8 1, .int .u8 0, .int .u8 1, .func (.func 41) #[] #[],
  .int .u8 1, .int .u8 1, .int .u8 0, .int .u8 1, .func (.func 42) #[] #[],
  .int .u8 2, .int .u8 2, .int .u8 0, .int .u8 2, .func (.func 43) #[] #[],
  .int .u8 2, .int .u8 0, .int .u8 0, .int .u8 1, .func (.func 44) #[] #[],
  .int .u8 2, .int .u8 1, .int .u8 1, .int .u8 2, .func (.func 45) #[] #[],
  .int .u8 2, .int .u8 0, .int .u8 0, .int .u8 2, .func (.func 46) #[] #[],
  .int .u8 2, .int .u8 0, .int .u8 0, .int .u8 2, .func (.func 47) #[] #[],
  .int .u8 3, .int .u8 3, .int .u8 0, .int .u8 1, .func (.func 48) #[] #[],
  .int .u8 3, .int .u8 3, .int .u8 0, .int .u8 1, .func (.func 49) #[] #[],
  .int .u8 1, .int .u8 0, .int .u8 0, .int .u8 1, .func (.func 50) #[] #[],
  .int .u8 1, .int .u8 3, .int .u8 3, .int .u8 3, .func (.func 51) #[] #[],
  .int .u8 2, .int .u8 0, .int .u8 0, .int .u8 1, .func (.func 52) #[] #[],
  .int .u8 1, .int .u8 0, .int .u8 0, .int .u8 2, .func (.func 53) #[] #[],
  .int .u8 2, .int .u8 0, .int .u8 0, .int .u8 1, .func (.func 54) #[] #[],
  .int .u8 2, .int .u8 2, .int .u8 0, .int .u8 1, .func (.func 55) #[] #[]]
def k0 (m : Nat) : Nat := match m with
  | 4 => 1
  | 5 => 1
  | 6 => 1
  | 7 => 1
  | 8 => 1
  | 9 => 2
  | 10 => 2
  | 11 => 2
  | 12 => 2
  | 13 => 2
  | 14 => 3
  | 15 => 3
  | 16 => 1
  | 17 => 1
  | 18 => 2
  | 19 => 1
  | 20 => 2
  | 21 => 2
  | _ => 0
def k1 (m : Nat) : Nat := match m with
  | 4 => 1
  | 5 => 1
  | 6 => 1
  | 7 => 1
  | 8 => 1
  | 9 => 2
  | 10 => 0
  | 11 => 1
  | 12 => 0
  | 13 => 0
  | 14 => 3
  | 15 => 3
  | 16 => 0
  | 17 => 3
  | 18 => 0
  | 19 => 0
  | 20 => 0
  | 21 => 2
  | _ => 0
def k2 (m : Nat) : Nat := match m with
  | 4 => 0
  | 5 => 0
  | 6 => 0
  | 7 => 0
  | 8 => 0
  | 9 => 0
  | 10 => 0
  | 11 => 1
  | 12 => 0
  | 13 => 0
  | 14 => 0
  | 15 => 0
  | 16 => 0
  | 17 => 3
  | 18 => 0
  | 19 => 0
  | 20 => 0
  | 21 => 0
  | _ => 0
def kr (m : Nat) : Nat := match m with
  | 4 => 1
  | 5 => 1
  | 6 => 1
  | 7 => 1
  | 8 => 1
  | 9 => 2
  | 10 => 1
  | 11 => 2
  | 12 => 2
  | 13 => 2
  | 14 => 1
  | 15 => 1
  | 16 => 1
  | 17 => 3
  | 18 => 1
  | 19 => 2
  | 20 => 1
  | 21 => 1
  | _ => 0
def kf (m : Nat) : Nat := match m with
  | 4 => 38
  | 5 => 39
  | 6 => 40
  | 7 => 41
  | 8 => 42
  | 9 => 43
  | 10 => 44
  | 11 => 45
  | 12 => 46
  | 13 => 47
  | 14 => 48
  | 15 => 49
  | 16 => 50
  | 17 => 51
  | 18 => 52
  | 19 => 53
  | 20 => 54
  | 21 => 55
  | _ => 0

abbrev fu (f : Nat) : Value := .func (.func f) #[] #[]
abbrev ov (a b c r : Nat) (f : Value) : Value := .agg #[.int .u8 (a : Int), .int .u8 (b : Int), .int .u8 (c : Int), .int .u8 (r : Int), f]
theorem tbl_at (m : Nat) (h1 : 4 ≤ m) (h2 : m ≤ 21) : tbl[m * 5]? = some (.int .u8 (k0 m : Int)) ∧ tbl[m * 5 + 1]? = some (.int .u8 (k1 m : Int)) ∧ tbl[m * 5 + 2]? = some (.int .u8 (k2 m : Int)) ∧ tbl[m * 5 + 3]? = some (.int .u8 (kr m : Int)) ∧ tbl[m * 5 + 4]? = some (fu (kf m)) := by
  rcases (show m = 4 ∨ m = 5 ∨ m = 6 ∨ m = 7 ∨ m = 8 ∨ m = 9 ∨ m = 10 ∨ m = 11 ∨ m = 12 ∨ m = 13 ∨ m = 14 ∨ m = 15 ∨ m = 16 ∨ m = 17 ∨ m = 18 ∨ m = 19 ∨ m = 20 ∨ m = 21 by omega) with rfl | rfl | rfl | rfl | rfl | rfl | rfl | rfl | rfl | rfl | rfl | rfl | rfl | rfl | rfl | rfl | rfl | rfl
  all_goals exact ⟨rfl, rfl, rfl, rfl, rfl⟩
theorem tbl_size : tbl.size = 110 := rfl
theorem tbl_one : tbl.all (·.oneCell') = true := by kernel_rfl
theorem info64 : (Tryd.prog.info? 77).map (·.size) = some tbl.size := by kernel_rfl
theorem zero64 : Tryd.zeroCells77.size = tbl.size := by kernel_rfl


theorem below5 (w : World) (g : Nat) (v0 v1 v2 v3 v4 : Value) : Below g w (((((w.setCell ⟨g, 0, none⟩ v0).setCell ⟨g, 1, none⟩ v1).setCell ⟨g, 2, none⟩ v2).setCell ⟨g, 3, none⟩ v3).setCell ⟨g, 4, none⟩ v4) :=
  (((((Below.refl g w).setCell (Nat.le_refl _) _).setCell (Nat.le_refl _) _).setCell (Nat.le_refl _) _).setCell (Nat.le_refl _) _).setCell (Nat.le_refl _) _
theorem box5 (w : World) (g : Nat) (v0 v1 v2 v3 v4 : Value) {u0 u1 u2 u3 u4 : Value} (e0 : w.cell? ⟨g, 0, none⟩ = some u0) (e1 : w.cell? ⟨g, 1, none⟩ = some u1) (e2 : w.cell? ⟨g, 2, none⟩ = some u2) (e3 : w.cell? ⟨g, 3, none⟩ = some u3) (e4 : w.cell? ⟨g, 4, none⟩ = some u4) :
    let W := ((((w.setCell ⟨g, 0, none⟩ v0).setCell ⟨g, 1, none⟩ v1).setCell ⟨g, 2, none⟩ v2).setCell ⟨g, 3, none⟩ v3).setCell ⟨g, 4, none⟩ v4
    W.cell? ⟨g, 0, none⟩ = some v0 ∧ W.cell? ⟨g, 1, none⟩ = some v1 ∧ W.cell? ⟨g, 2, none⟩ = some v2 ∧ W.cell? ⟨g, 3, none⟩ = some v3 ∧ W.cell? ⟨g, 4, none⟩ = some v4 := by
  have o : ∀ (W : World) (i j : Nat) (v : Value), j ≠ i → (W.setCell ⟨g, i, none⟩ v).cell? ⟨g, j, none⟩ = W.cell? ⟨g, j, none⟩ := fun W i j v h => World.cell?_setCell_other W _ _ _ (by simp only [ne_eq, Addr.mk.injEq, true_and, and_true]; omega)
  have s : ∀ (W : World) (i : Nat) (v : Value) {u : Value}, W.cell? ⟨g, i, none⟩ = some u → (W.setCell ⟨g, i, none⟩ v).cell? ⟨g, i, none⟩ = some v := fun W i v u h => World.cell?_setCell_same W _ _ h
  refine ⟨?_, ?_, ?_, ?_, ?_⟩
  · rw [o _ 4 0 _ (by omega), o _ 3 0 _ (by omega), o _ 2 0 _ (by omega), o _ 1 0 _ (by omega)]; exact s _ _ _ e0
  · rw [o _ 4 1 _ (by omega), o _ 3 1 _ (by omega), o _ 2 1 _ (by omega)]; exact s _ _ _ ((o _ 0 1 _ (by omega)).trans e1)
  · rw [o _ 4 2 _ (by omega), o _ 3 2 _ (by omega)]; refine s _ _ _ (u := u2) ?_; rw [o _ 1 2 _ (by omega), o _ 0 2 _ (by omega)]; exact e2
  · rw [o _ 4 3 _ (by omega)]; refine s _ _ _ (u := u3) ?_; rw [o _ 2 3 _ (by omega), o _ 1 3 _ (by omega), o _ 0 3 _ (by omega)]; exact e3
  · refine s _ _ _ (u := u4) ?_; rw [o _ 3 4 _ (by omega), o _ 2 4 _ (by omega), o _ 1 4 _ (by omega), o _ 0 4 _ (by omega)]; exact e4
set_option maxRecDepth 100000 in
set_option maxHeartbeats 2000000 in
theorem opOf_in (m : Nat) (h1 : 4 ≤ m) (h2 : m ≤ 21) (w : World) : Calls Tryd.prog 34 #[.int .i64 (m : Int)] w (RetV w (.tuple #[ov (k0 m) (k1 m) (k2 m) (kr m) (fu (kf m)), .bool true])) := by
  have d1 : decide ((m : Int) < 4) = false := decide_eq_false (by omega)
  have d2 : decide (21 < (m : Int)) = false := decide_eq_false (by omega)
  obtain ⟨a0, ha0⟩ : ∃ a, a = k0 m := ⟨_, rfl⟩
  obtain ⟨a1, ha1⟩ : ∃ a, a = k1 m := ⟨_, rfl⟩
  obtain ⟨a2, ha2⟩ : ∃ a, a = k2 m := ⟨_, rfl⟩
  obtain ⟨a3, ha3⟩ : ∃ a, a = kr m := ⟨_, rfl⟩
  obtain ⟨a4, ha4⟩ : ∃ a, a = kf m := ⟨_, rfl⟩
  have hat := tbl_at m h1 h2
  rw [← ha0, ← ha1, ← ha2, ← ha3, ← ha4] at hat
  rw [← ha0, ← ha1, ← ha2, ← ha3, ← ha4]
  have Hat := Lib.hid hat
  clear hat ha0 ha1 ha2 ha3 ha4 h1
  obtain ⟨w1, hw1⟩ : ∃ w1, w1 = w.alloc (.cells #[.int .u8 0, .int .u8 0, .int .u8 0, .int .u8 0, .nilFunc] 66) := ⟨_, rfl⟩
  have z1 : w1.heap.size = w.heap.size + 1 := by rw [hw1]; simp
  have b1 : Below w.heap.size w w1 := by rw [hw1]; exact (Below.refl _ _).alloc (Nat.le_refl _) _
  obtain ⟨w2, hw2⟩ : ∃ w2, w2 = w1.alloc (.cells tbl 77) := ⟨_, rfl⟩
  have b2 : Below w1.heap.size w1 w2 := by rw [hw2]; exact (Below.refl _ _).alloc (Nat.le_refl _) _
  have W1 := Lib.hid hw1; have W2 := Lib.hid hw2; have B1 := Lib.hid b1; have B2 := Lib.hid b2; have Z1 := Lib.hid z1
  have hc : ∀ j v, tbl[m * 5 + j]? = some v → w2.cell? ⟨w.heap.size + 1, m * 5 + j, none⟩ = some v := fun j v h => by
    rw [hw2, ← z1]; simp; exact h
  have c0 : w2.cell? ⟨w.heap.size + 1, m * 5, none⟩ = some (.int .u8 (a0 : Int)) := hc 0 _ Hat.out.1
  have c1 := hc 1 _ Hat.out.2.1
  have c2 := hc 2 _ Hat.out.2.2.1
  have c3 := hc 3 _ Hat.out.2.2.2.1
  have c4 := hc 4 _ Hat.out.2.2.2.2
  have hs : ((w.alloc (.cells #[.int .u8 0, .int .u8 0, .int .u8 0, .int .u8 0, .nilFunc] 66)).alloc (.cells Tryd.zeroCells77 77)).setRow (w.heap.size + 1) tbl = w2 := by
    rw [← hw1, ← z1, World.setRow_alloc_new, ← hw2]
  have hg : ((w.alloc (.cells #[.int .u8 0, .int .u8 0, .int .u8 0, .int .u8 0, .nilFunc] 66)).alloc (.cells Tryd.zeroCells77 77)).heap[w.heap.size + 1]? = some (.cells Tryd.zeroCells77 77 (0, 0)) := by
    rw [← hw1, ← z1]; exact heap_alloc_last _ _
  have f : ∀ k, w2.frozen? ⟨w.heap.size, k, none⟩ = false := fun k => by
    rw [hw2, hw1]; simp
  have f0 := f 0; have f1 := f 1; have f2 := f 2; have f3 := f 3; have f4 := f 4
  have e : ∀ k, w2.cell? ⟨w.heap.size, k, none⟩ = w1.cell? ⟨w.heap.size, k, none⟩ := fun k => by rw [hw2, hw1]; simp
  have e0 : w2.cell? ⟨w.heap.size, 0, none⟩ = some (.int .u8 0) := by rw [e, hw1]; simp
  have e1 : w2.cell? ⟨w.heap.size, 1, none⟩ = some (.int .u8 0) := by rw [e, hw1]; simp
  have e2 : w2.cell? ⟨w.heap.size, 2, none⟩ = some (.int .u8 0) := by rw [e, hw1]; simp
  have e3 : w2.cell? ⟨w.heap.size, 3, none⟩ = some (.int .u8 0) := by rw [e, hw1]; simp
  have e4 : w2.cell? ⟨w.heap.size, 4, none⟩ = some .nilFunc := by rw [e, hw1]; simp
  have BB := Lib.hid (B1.out.trans (B2.out.mono B1.out.size))
  have HS := Lib.hid hs; have HG := Lib.hid hg
  clear hw1 hw2 b1 b2 z1 hc hs hg f e
  go_enter Tryd.func34, Tryd.ntmps34
  go_wp2_with (refine wpList_store_row rfl 77 (.tmp 4) (.tmp 48) rfl (w.heap.size + 1) tbl ?hx ?hy 77 Tryd.zeroCells77 ?hg info64 zero64 tbl_one ?_; (case hx => rfl); (case hy => exact congrArg Value.agg (by kernel_rfl)); (case hg => exact HG.out); rw [HS.out])
  refine bodyPost_ret (v := .tuple #[ov a0 a1 a2 a3 (fu a4), .bool true]) ?_ rfl ⟨rfl, BB.out.trans (below5 _ _ _ _ _ _ _)⟩
  obtain ⟨q0, q1, q2, q3, q4⟩ := box5 w2 w.heap.size (.int .u8 a0) (.int .u8 a1) (.int .u8 a2) (.int .u8 a3) (fu a4) e0 e1 e2 e3 e4
  simp [results, Tryd.results34, go_sem, q0, q1, q2, q3, q4]
end Go.Proofs.YthkjhenaicbepaaDoor
