/-
  Joined: PB PC PM PD PE.
-/
import Derived.Test.YtoalncojijmelaaGreatDoorJ4
import Derived.Laws.Tables
import Derived.Deep.WholeRow
import Derived.Laws.EntriesVeiled
/-
  The program's table of operations: operationOf, arity.
-/
namespace Go.Proofs.YtoalncojijmelaaGreatDoor
open Go.RowKit Vl

def tbl : Array Value := #[
  .int .u8 0, .int .u8 0, .int .u8 0, .int .u8 0, .nilFunc,
  .int .u8 0, .int .u8 0, .int .u8 0, .int .u8 0, .nilFunc,
  .int .u8 0, .int .u8 0, .int .u8 0, .int .u8 0, .nilFunc,
  .int .u8 0, .int .u8 0, .int .u8 0, .int .u8 0, .nilFunc,
  .int .u8 1, .int .u8 1, .int .u8 0, .int .u8 1, .func (.func 71) #[] #[],
  .int .u8 1, .int .u8 1, .int .u8 0, .int .u8 1, .func (.func 72) #[] #[],
  .int .u8 1, .int .u8 1, .int .u8 0, .int .u8 1, .func (.func 73) #[] #[],
  .int .u8 1, .int .u8 1, .int .u8 0, .int .u8 1, .func (.func 74) #[] #[],
  .int .u8 1, .int .u8 1, .int .u8 0, .int .u8 1, .func (.func 75) #[] #[],
  .int .u8 2, .int .u8 2, .int .u8 0, .int .u8 2, .func (.func 76) #[] #[],
  .int .u8 2, .int .u8 0, .int .u8 0, .int .u8 1, .func (.func 77) #[] #[],
  .int .u8 2, .int .u8 1, .int .u8 1, .int .u8 2, .func (.func 78) #[] #[],
  .int .u8 2, .int .u8 0, .int .u8 0, .int .u8 2, .func (.func 79) #[] #[],
  .int .u8 2, .int .u8 0, .int .u8 0, .int .u8 2, .func (.func 80) #[] #[],
  .int .u8 3, .int .u8 3, .int .u8 0, .int .u8 1, .func (.func 81) #[] #[],
  .int .u8 3, .int .u8 3, .int .u8 0, .int .u8 1, .func (.func 82) #[] #[],
  .int .u8 1, .int .u8 0, .int .u8 0, .int .u8 1, .func (.func 83) #[] #[],
  .int .u8 1, .int .u8 3, .int .u8 3, .int .u8 3, .func (.func 84) #[] #[],
  .int .u8 2, .int .u8 0, .int .u8 0, .int .u8 1, .func (.func 85) #[] #[],
  .int .u8 1, .int .u8 0, .int .u8 0, .int .u8 2, .func (.func 86) #[] #[],
  .int .u8 2, .int .u8 0, .int .u8 0, .int .u8 1, .func (.func 87) #[] #[],
  .int .u8 2, .int .u8 2, .int .u8 0, .int .u8 1, .func (.func 88) #[] #[]]
def k0 (m : Nat) : Nat := match m with
  | 4 => 1
  | 5 => 1
  | 6 => 1
  | 7 => 1
  | 8 => 1
  | 9 => 2
  | 10 => 2
  | 11 => 2
  | 12 => 2
  | 13 => 2
  | 14 => 3
  | 15 => 3
  | 16 => 1
  | 17 => 1
  | 18 => 2
  | 19 => 1
  | 20 => 2
  | 21 => 2
  | _ => 0
def k1 (m : Nat) : Nat := match m with
  | 4 => 1
  | 5 => 1
  | 6 => 1
  | 7 => 1
  | 8 => 1
  | 9 => 2
  | 10 => 0
  | 11 => 1
  | 12 => 0
  | 13 => 0
  | 14 => 3
  | 15 => 3
  | 16 => 0
  | 17 => 3
  | 18 => 0
  | 19 => 0
  | 20 => 0
  | 21 => 2
  | _ => 0
def k2 (m : Nat) : Nat := match m with
  | 4 => 0
  | 5 => 0
  | 6 => 0
  | 7 => 0
  | 8 => 0
  | 9 => 0
  | 10 => 0
  | 11 => 1
  | 12 => 0
  | 13 => 0
  | 14 => 0
  | 15 => 0
  | 16 => 0
  | 17 => 3
  | 18 => 0
  | 19 => 0
  | 20 => 0
  | 21 => 0
  | _ => 0
def kr (m : Nat) : Nat := match m with
  | 4 => 1
  | 5 => 1
  | 6 => 1
  | 7 => 1
  | 8 => 1
  | 9 => 2
  | 10 => 1
  | 11 => 2
  | 12 => 2
  | 13 => 2
  | 14 => 1
  | 15 => 1
  | 16 => 1
  | 17 => 3
  | 18 => 1
  | 19 => 2
  | 20 => 1
  | 21 => 1
  | _ => 0
def kf (m : Nat) : Nat := match m with
  | 4 => 71
  | 5 => 72
  | 6 => 73
  | 7 => 74
  | 8 => 75
  | 9 => 76
  | 10 => 77
  | 11 => 78
  | 12 => 79
  | 13 => 80
  | 14 => 81
  | 15 => 82
  | 16 => 83
  | 17 => 84
  | 18 => 85
  | 19 => 86
  | 20 => 87
  | 21 => 88
  | _ => 0

abbrev fu (f : Nat) : Value := .func (.func f) #[] #[]
abbrev ov (a b c r : Nat) (f : Value) : Value := .agg #[.int .u8 (a : Int), .int .u8 (b : Int), .int .u8 (c : Int), .int .u8 (r : Int), f]
theorem tbl_at (m : Nat) (h1 : 4 ≤ m) (h2 : m ≤ 21) : tbl[m * 5]? = some (.int .u8 (k0 m : Int)) ∧ tbl[m * 5 + 1]? = some (.int .u8 (k1 m : Int)) ∧ tbl[m * 5 + 2]? = some (.int .u8 (k2 m : Int)) ∧ tbl[m * 5 + 3]? = some (.int .u8 (kr m : Int)) ∧ tbl[m * 5 + 4]? = some (fu (kf m)) := by
  rcases (show m = 4 ∨ m = 5 ∨ m = 6 ∨ m = 7 ∨ m = 8 ∨ m = 9 ∨ m = 10 ∨ m = 11 ∨ m = 12 ∨ m = 13 ∨ m = 14 ∨ m = 15 ∨ m = 16 ∨ m = 17 ∨ m = 18 ∨ m = 19 ∨ m = 20 ∨ m = 21 by omega) with rfl | rfl | rfl | rfl | rfl | rfl | rfl | rfl | rfl | rfl | rfl | rfl | rfl | rfl | rfl | rfl | rfl | rfl
  all_goals exact ⟨rfl, rfl, rfl, rfl, rfl⟩
theorem tbl_size : tbl.size = 110 := rfl
theorem tbl_one : tbl.all (·.oneCell') = true := by kernel_rfl
theorem info64 : (Tryz.prog.info? 113).map (·.size) = some tbl.size := by kernel_rfl
theorem zero64 : Tryz.zeroCells113.size = tbl.size := by kernel_rfl


theorem below5 (w : World) (g : Nat) (v0 v1 v2 v3 v4 : Value) : Below g w (((((w.setCell ⟨g, 0, none⟩ v0).setCell ⟨g, 1, none⟩ v1).setCell ⟨g, 2, none⟩ v2).setCell ⟨g, 3, none⟩ v3).setCell ⟨g, 4, none⟩ v4) :=
  (((((Below.refl g w).setCell (Nat.le_refl _) _).setCell (Nat.le_refl _) _).setCell (Nat.le_refl _) _).setCell (Nat.le_refl _) _).setCell (Nat.le_refl _) _
theorem box5 (w : World) (g : Nat) (v0 v1 v2 v3 v4 : Value) {u0 u1 u2 u3 u4 : Value} (e0 : w.cell? ⟨g, 0, none⟩ = some u0) (e1 : w.cell? ⟨g, 1, none⟩ = some u1) (e2 : w.cell? ⟨g, 2, none⟩ = some u2) (e3 : w.cell? ⟨g, 3, none⟩ = some u3) (e4 : w.cell? ⟨g, 4, none⟩ = some u4) :
    let W := ((((w.setCell ⟨g, 0, none⟩ v0).setCell ⟨g, 1, none⟩ v1).setCell ⟨g, 2, none⟩ v2).setCell ⟨g, 3, none⟩ v3).setCell ⟨g, 4, none⟩ v4
    W.cell? ⟨g, 0, none⟩ = some v0 ∧ W.cell? ⟨g, 1, none⟩ = some v1 ∧ W.cell? ⟨g, 2, none⟩ = some v2 ∧ W.cell? ⟨g, 3, none⟩ = some v3 ∧ W.cell? ⟨g, 4, none⟩ = some v4 := by
  have o : ∀ (W : World) (i j : Nat) (v : Value), j ≠ i → (W.setCell ⟨g, i, none⟩ v).cell? ⟨g, j, none⟩ = W.cell? ⟨g, j, none⟩ := fun W i j v h => World.cell?_setCell_other W _ _ _ (by simp only [ne_eq, Addr.mk.injEq, true_and, and_true]; omega)
  have s : ∀ (W : World) (i : Nat) (v : Value) {u : Value}, W.cell? ⟨g, i, none⟩ = some u → (W.setCell ⟨g, i, none⟩ v).cell? ⟨g, i, none⟩ = some v := fun W i v u h => World.cell?_setCell_same W _ _ h
  refine ⟨?_, ?_, ?_, ?_, ?_⟩
  · rw [o _ 4 0 _ (by omega), o _ 3 0 _ (by omega), o _ 2 0 _ (by omega), o _ 1 0 _ (by omega)]; exact s _ _ _ e0
  · rw [o _ 4 1 _ (by omega), o _ 3 1 _ (by omega), o _ 2 1 _ (by omega)]; exact s _ _ _ ((o _ 0 1 _ (by omega)).trans e1)
  · rw [o _ 4 2 _ (by omega), o _ 3 2 _ (by omega)]; refine s _ _ _ (u := u2) ?_; rw [o _ 1 2 _ (by omega), o _ 0 2 _ (by omega)]; exact e2
  · rw [o _ 4 3 _ (by omega)]; refine s _ _ _ (u := u3) ?_; rw [o _ 2 3 _ (by omega), o _ 1 3 _ (by omega), o _ 0 3 _ (by omega)]; exact e3
  · refine s _ _ _ (u := u4) ?_; rw [o _ 3 4 _ (by omega), o _ 2 4 _ (by omega), o _ 1 4 _ (by omega), o _ 0 4 _ (by omega)]; exact e4
set_option maxRecDepth 100000 in
set_option maxHeartbeats 2000000 in
theorem opOf_in (m : Nat) (h1 : 4 ≤ m) (h2 : m ≤ 21) (w : World) : Calls Tryz.prog 55 #[.int .i64 (m : Int)] w (RetV w (.tuple #[ov (k0 m) (k1 m) (k2 m) (kr m) (fu (kf m)), .bool true])) := by
  have d1 : decide ((m : Int) < 4) = false := decide_eq_false (by omega)
  have d2 : decide (21 < (m : Int)) = false := decide_eq_false (by omega)
  obtain ⟨a0, ha0⟩ : ∃ a, a = k0 m := ⟨_, rfl⟩
  obtain ⟨a1, ha1⟩ : ∃ a, a = k1 m := ⟨_, rfl⟩
  obtain ⟨a2, ha2⟩ : ∃ a, a = k2 m := ⟨_, rfl⟩
  obtain ⟨a3, ha3⟩ : ∃ a, a = kr m := ⟨_, rfl⟩
  obtain ⟨a4, ha4⟩ : ∃ a, a = kf m := ⟨_, rfl⟩
  have hat := tbl_at m h1 h2
  rw [← ha0, ← ha1, ← ha2, ← ha3, ← ha4] at hat
  rw [← ha0, ← ha1, ← ha2, ← ha3, ← ha4]
  have Hat := Lib.hid hat
  clear hat ha0 ha1 ha2 ha3 ha4 h1
  obtain ⟨w1, hw1⟩ : ∃ w1, w1 = w.alloc (.cells #[.int .u8 0, .int .u8 0, .int .u8 0, .int .u8 0, .nilFunc] 94) := ⟨_, rfl⟩
  have z1 : w1.heap.size = w.heap.size + 1 := by rw [hw1]; simp
  have b1 : Below w.heap.size w w1 := by rw [hw1]; exact (Below.refl _ _).alloc (Nat.le_refl _) _
  obtain ⟨w2, hw2⟩ : ∃ w2, w2 = w1.alloc (.cells tbl 113) := ⟨_, rfl⟩
  have b2 : Below w1.heap.size w1 w2 := by rw [hw2]; exact (Below.refl _ _).alloc (Nat.le_refl _) _
  have W1 := Lib.hid hw1; have W2 := Lib.hid hw2; have B1 := Lib.hid b1; have B2 := Lib.hid b2; have Z1 := Lib.hid z1
  have hc : ∀ j v, tbl[m * 5 + j]? = some v → w2.cell? ⟨w.heap.size + 1, m * 5 + j, none⟩ = some v := fun j v h => by
    rw [hw2, ← z1]; simp; exact h
  have c0 : w2.cell? ⟨w.heap.size + 1, m * 5, none⟩ = some (.int .u8 (a0 : Int)) := hc 0 _ Hat.out.1
  have c1 := hc 1 _ Hat.out.2.1
  have c2 := hc 2 _ Hat.out.2.2.1
  have c3 := hc 3 _ Hat.out.2.2.2.1
  have c4 := hc 4 _ Hat.out.2.2.2.2
  have hs : ((w.alloc (.cells #[.int .u8 0, .int .u8 0, .int .u8 0, .int .u8 0, .nilFunc] 94)).alloc (.cells Tryz.zeroCells113 113)).setRow (w.heap.size + 1) tbl = w2 := by
    rw [← hw1, ← z1, World.setRow_alloc_new, ← hw2]
  have hg : ((w.alloc (.cells #[.int .u8 0, .int .u8 0, .int .u8 0, .int .u8 0, .nilFunc] 94)).alloc (.cells Tryz.zeroCells113 113)).heap[w.heap.size + 1]? = some (.cells Tryz.zeroCells113 113 (0, 0)) := by
    rw [← hw1, ← z1]; exact heap_alloc_last _ _
  have f : ∀ k, w2.frozen? ⟨w.heap.size, k, none⟩ = false := fun k => by
    rw [hw2, hw1]; simp
  have f0 := f 0; have f1 := f 1; have f2 := f 2; have f3 := f 3; have f4 := f 4
  have e : ∀ k, w2.cell? ⟨w.heap.size, k, none⟩ = w1.cell? ⟨w.heap.size, k, none⟩ := fun k => by rw [hw2, hw1]; simp
  have e0 : w2.cell? ⟨w.heap.size, 0, none⟩ = some (.int .u8 0) := by rw [e, hw1]; simp
  have e1 : w2.cell? ⟨w.heap.size, 1, none⟩ = some (.int .u8 0) := by rw [e, hw1]; simp
  have e2 : w2.cell? ⟨w.heap.size, 2, none⟩ = some (.int .u8 0) := by rw [e, hw1]; simp
  have e3 : w2.cell? ⟨w.heap.size, 3, none⟩ = some (.int .u8 0) := by rw [e, hw1]; simp
  have e4 : w2.cell? ⟨w.heap.size, 4, none⟩ = some .nilFunc := by rw [e, hw1]; simp
  have BB := Lib.hid (B1.out.trans (B2.out.mono B1.out.size))
  have HS := Lib.hid hs; have HG := Lib.hid hg
  clear hw1 hw2 b1 b2 z1 hc hs hg f e
  go_enter Tryz.func55, Tryz.ntmps55
  go_wp2_with (refine wpList_store_row rfl 113 (.tmp 4) (.tmp 48) rfl (w.heap.size + 1) tbl ?hx ?hy 113 Tryz.zeroCells113 ?hg info64 zero64 tbl_one ?_; (case hx => rfl); (case hy => exact congrArg Value.agg (by kernel_rfl)); (case hg => exact HG.out); rw [HS.out])
  refine bodyPost_ret (v := .tuple #[ov a0 a1 a2 a3 (fu a4), .bool true]) ?_ rfl ⟨rfl, BB.out.trans (below5 _ _ _ _ _ _ _)⟩
  obtain ⟨q0, q1, q2, q3, q4⟩ := box5 w2 w.heap.size (.int .u8 a0) (.int .u8 a1) (.int .u8 a2) (.int .u8 a3) (fu a4) e0 e1 e2 e3 e4
  simp [results, Tryz.results55, go_sem, q0, q1, q2, q3, q4]
end Go.Proofs.YtoalncojijmelaaGreatDoor

/-
  The program's arity, decided, mayTake, resultOf; what they come to is what the document's Result is.
-/
namespace Go.Proofs.YtoalncojijmelaaGreatDoor
open Go.RowKit Vl

def nz (a b c : Nat) : Nat := (if a = 0 then 0 else 1) + (if b = 0 then 0 else 1) + (if c = 0 then 0 else 1)
/-- The kind k, decided by the flags. -/
def dk (k : Nat) (L : List Bool) : Nat := if k = 3 then (if L.getLastD false then 2 else 1) else k
def kb (b : Bool) : Nat := if b then 2 else 1
def mt (a b c : Nat) (L : List Bool) : Bool := decide (L.length = nz a b c) && (List.range L.length).all fun i => kb (L.getD i false) == dk ([a, b, c].getD i 0) L

def ArRel (n0 n1 n2 : Nat) (c i : Value) : Prop :=
  (i = .int .i64 0 ∧ c = .int .i64 0) ∨ (i = .int .i64 1 ∧ c = .int .i64 (n0 : Int)) ∨ (i = .int .i64 2 ∧ c = .int .i64 ((n0 + n1 : Nat) : Int)) ∨ (i = .int .i64 3 ∧ c = .int .i64 ((n0 + n1 + n2 : Nat) : Int))
set_option maxRecDepth 100000 in
set_option maxHeartbeats 1000000 in
theorem parity_c (a b c r : Nat) (f : Value) (w : World) : Calls Tryz.prog 56 #[ov a b c r f] w (RetV w (.int .i64 (nz a b c : Int))) := by
  obtain ⟨w0, hw0⟩ : ∃ w0, w0 = w.alloc (.cells #[.int .u8 (a : Int), .int .u8 (b : Int), .int .u8 (c : Int), .int .u8 (r : Int), f] 94) := ⟨_, rfl⟩
  have b0 : Below w.heap.size w w0 := by rw [hw0]; exact (Below.refl _ _).alloc (Nat.le_refl _) _
  have c0 : w0.cell? ⟨w.heap.size, 0, none⟩ = some (.int .u8 (a : Int)) := by rw [hw0]; simp
  have c1 : w0.cell? ⟨w.heap.size, 1, none⟩ = some (.int .u8 (b : Int)) := by rw [hw0]; simp
  have c2 : w0.cell? ⟨w.heap.size, 2, none⟩ = some (.int .u8 (c : Int)) := by rw [hw0]; simp
  obtain ⟨n, hn⟩ : ∃ n, n = nz a b c := ⟨_, rfl⟩
  rw [← hn]
  unfold nz at hn
  obtain ⟨n0, h0⟩ : ∃ n0, n0 = if a = 0 then 0 else 1 := ⟨_, rfl⟩
  obtain ⟨n1, h1⟩ : ∃ n1, n1 = if b = 0 then 0 else 1 := ⟨_, rfl⟩
  obtain ⟨n2, h2⟩ : ∃ n2, n2 = if c = 0 then 0 else 1 := ⟨_, rfl⟩
  rw [← h0, ← h1, ← h2] at hn
  have k0 : n0 ≤ 1 := by rw [h0]; split <;> omega
  have k1 : n1 ≤ 1 := by rw [h1]; split <;> omega
  have k2 : n2 ≤ 1 := by rw [h2]; split <;> omega
  have x0 : ∀ W, (Instr.index 91 (.agg #[.int .u8 (a : Int), .int .u8 (b : Int), .int .u8 (c : Int)]) (.int .i64 0)).run Tryz.prog W = .ok (.int .u8 (a : Int)) W := fun W => by kernel_rfl
  have x1 : ∀ W, (Instr.index 91 (.agg #[.int .u8 (a : Int), .int .u8 (b : Int), .int .u8 (c : Int)]) (.int .i64 1)).run Tryz.prog W = .ok (.int .u8 (b : Int)) W := fun W => by kernel_rfl
  have x2 : ∀ W, (Instr.index 91 (.agg #[.int .u8 (a : Int), .int .u8 (b : Int), .int .u8 (c : Int)]) (.int .i64 2)).run Tryz.prog W = .ok (.int .u8 (c : Int)) W := fun W => by kernel_rfl
  have H0 := Lib.hid h0; have H1 := Lib.hid h1; have H2 := Lib.hid h2
  have W0 := Lib.hid hw0; have B0 := Lib.hid b0; have Hn := Lib.hid hn
  clear hw0 b0 hn h0 h1 h2
  go_enter Tryz.func56, Tryz.ntmps56
  go_wp2_with (rw [← W0.out])
  go_loop [3, 5, 8] (fun c _ i => ArRel n0 n1 n2 c i) (fun _ _ i => 3 - (intOf i).toNat)
  case atStart => exact .inl ⟨rfl, rfl⟩
  case round =>
    rcases hrel with ⟨rfl, rfl⟩ | ⟨rfl, rfl⟩ | ⟨rfl, rfl⟩ | ⟨rfl, rfl⟩
    · by_cases ha : a = 0
      · have d : ((a : Int) != 0) = false := by simp [ha]
        have hx := Lib.hid (H0.out.trans (if_pos ha))
        clear ha
        go_wp2
        go_round
        case rel => exact .inr (.inl ⟨rfl, by rw [hx.out]; simp <;> first | done | omega⟩)
        case measure => simp [intOf]
      · have d : ((a : Int) != 0) = true := by simp; omega
        have hx := Lib.hid (H0.out.trans (if_neg ha))
        clear ha
        go_wp2
        go_round
        case rel => exact .inr (.inl ⟨rfl, by rw [hx.out]; simp <;> first | done | omega⟩)
        case measure => simp [intOf]
    · have e0 : RowKit.wrap64 ((n0 : Int) + 1) = ((n0 + 1 : Nat) : Int) := by rw [← IntWalk.i64_left, IntWalk.i64_in _ (by omega)]; omega
      by_cases hb : b = 0
      · have d : ((b : Int) != 0) = false := by simp [hb]
        have hx := Lib.hid (H1.out.trans (if_pos hb))
        clear hb
        go_wp2
        go_round
        case rel => exact .inr (.inr (.inl ⟨rfl, by rw [hx.out]; simp <;> first | done | omega⟩))
        case measure => simp [intOf]
      · have d : ((b : Int) != 0) = true := by simp; omega
        have hx := Lib.hid (H1.out.trans (if_neg hb))
        clear hb
        go_wp2
        go_round
        case rel => exact .inr (.inr (.inl ⟨rfl, by rw [hx.out]; simp <;> first | done | omega⟩))
        case measure => simp [intOf]
    · have e0 : RowKit.wrap64 (((n0 + n1 : Nat) : Int) + 1) = ((n0 + n1 + 1 : Nat) : Int) := by rw [← IntWalk.i64_left, IntWalk.i64_in _ (by omega)]; omega
      by_cases hc : c = 0
      · have d : ((c : Int) != 0) = false := by simp [hc]
        have hx := Lib.hid (H2.out.trans (if_pos hc))
        clear hc
        go_wp2
        go_round
        case rel => exact .inr (.inr (.inr ⟨rfl, by rw [hx.out]; simp <;> first | done | omega⟩))
        case measure => simp [intOf]
      · have d : ((c : Int) != 0) = true := by simp; omega
        have hx := Lib.hid (H2.out.trans (if_neg hc))
        clear hc
        go_wp2
        go_round
        case rel => exact .inr (.inr (.inr ⟨rfl, by rw [hx.out]; simp <;> first | done | omega⟩))
        case measure => simp [intOf]
    · go_wp2
      go_ret
      exact ⟨by rw [Hn.out]; simp, B0.out⟩

theorem lvb_bit {w : World} {B n c : Nat} {A : Option Addr} {L : List Bool} (h : Rc 1 w B A n c (lvb L)) : L.length = n := lvb_len1 h
set_option maxRecDepth 100000 in
set_option maxHeartbeats 1000000 in
theorem decided_c (k : Nat) (A : Option Addr) (n c B : Nat) (L : List Bool) (w : World) (hr : Rc 1 w B A n c (lvb L)) (hn : n ≤ 1000000) (h0 : 0 < n) :
    Calls Tryz.prog 109 #[.int .u8 (k : Int), .slice A n c] w fun e w' => e = .returned (.int .u8 (dk k L : Int)) ∧ w' = w := by
  obtain ⟨D, hD⟩ : ∃ D, D = dk k L := ⟨_, rfl⟩
  rw [← hD]
  unfold dk at hD
  by_cases h3 : k = 3
  · subst h3
    rw [if_pos rfl] at hD
    have hl := lvb_len1 hr
    obtain ⟨b, o, q, rfl, hb, hc, hq⟩ := lvb_at hr (k := n - 1) (by omega)
    have hlast : L.getLastD false = q := by
      rw [List.getLastD_eq_getLast?, List.getLast?_eq_getElem?, hl, hq]; rfl
    rw [hlast] at hD
    have hk := fun W => kindOf_c q W
    rw [show ((if q then 2 else 1 : Int)) = (D : Int) by rw [hD]; cases q <;> rfl] at hk
    have Hk := Lib.hid hk
    have e2 : n - 1 < n := by omega
    clear hq hlast hD hl hr hk
    go_enter Tryz.func109, Tryz.ntmps109
    go_wp2_with fail
    refine (Hk.out _).mono ?_
    rintro e w2 ⟨rfl, rfl⟩
    go_wp2
    go_ret
    exact ⟨rfl, rfl⟩
  · rw [if_neg h3] at hD
    subst hD
    have d : ((D : Int) == 3) = false := by simp; omega
    clear h3
    go_enter Tryz.func109, Tryz.ntmps109
    go_wp2
    go_ret
    exact ⟨rfl, rfl⟩
end Go.Proofs.YtoalncojijmelaaGreatDoor

/-
  What the program's table says of an operation's kinds is what the document says (plain mathematics).
-/
namespace Go.Proofs.YtoalncojijmelaaGreatDoor
open Go.RowKit Vl

theorem op_cases {m : Nat} (h1 : 4 ≤ m) (h2 : m ≤ 21) : m = 4 ∨ m = 5 ∨ m = 6 ∨ m = 7 ∨ m = 8 ∨ m = 9 ∨ m = 10 ∨ m = 11 ∨ m = 12 ∨ m = 13 ∨ m = 14 ∨ m = 15 ∨ m = 16 ∨ m = 17 ∨ m = 18 ∨ m = 19 ∨ m = 20 ∨ m = 21 := by omega
/-- How many of each operation. -/
theorem ar_nz (m : Nat) (h1 : 4 ≤ m) (h2 : m ≤ 21) : ar (m : Int) = nz (k0 m) (k1 m) (k2 m) := by
  rcases op_cases h1 h2 with rfl | rfl | rfl | rfl | rfl | rfl | rfl | rfl | rfl | rfl | rfl | rfl | rfl | rfl | rfl | rfl | rfl | rfl
  all_goals rfl
theorem kd_out {op : Int} (h : ¬ (4 ≤ op ∧ op ≤ 21)) : kd op = ([], []) := by
  unfold kd
  rw [if_neg (by omega), if_neg (by omega), if_neg (by omega), if_neg (by omega), if_neg (by omega), if_neg (by omega), if_neg (by omega), if_neg (by omega), if_neg (by omega), if_neg (by omega)]
theorem ar_out {op : Int} (h : ¬ (4 ≤ op ∧ op ≤ 21)) : ar op = 0 := by unfold ar; rw [kd_out h]; rfl
theorem res_out {op : Int} (h : ¬ (4 ≤ op ∧ op ≤ 21)) (L : List Bool) : res op L = (false, 1) := by unfold res; rw [kd_out h]; rfl
theorem res_long {op : Int} {L : List Bool} (h1 : (kd op).1 ≠ []) (h2 : L.length ≠ ar op) : res op L = (false, 11) := by unfold res; rw [if_neg h1, if_pos (show L.length ≠ (kd op).1.length from h2)]
theorem mt_long {a b c : Nat} {L : List Bool} (h : L.length ≠ nz a b c) : mt a b c L = false := by unfold mt; rw [decide_eq_false h]; rfl
theorem nz_le (a b c : Nat) : nz a b c ≤ 3 := by unfold nz; split <;> split <;> split <;> omega
/-- Result of each operation. -/
theorem res_mt (m : Nat) (h1 : 4 ≤ m) (h2 : m ≤ 21) (L : List Bool) : res (m : Int) L = if mt (k0 m) (k1 m) (k2 m) L = true then (dk (kr m) L == 2, 0) else (false, 11) := by
  have hk : (kd (m : Int)).1 ≠ [] := by
    rcases op_cases h1 h2 with rfl | rfl | rfl | rfl | rfl | rfl | rfl | rfl | rfl | rfl | rfl | rfl | rfl | rfl | rfl | rfl | rfl | rfl
    all_goals (intro q; cases q)
  have ha := ar_nz m h1 h2
  by_cases hl : L.length = ar (m : Int)
  · have h3 := nz_le (k0 m) (k1 m) (k2 m)
    rcases L with _ | ⟨x, _ | ⟨y, _ | ⟨z, _ | ⟨u, r⟩⟩⟩⟩
    · rcases op_cases h1 h2 with rfl | rfl | rfl | rfl | rfl | rfl | rfl | rfl | rfl | rfl | rfl | rfl | rfl | rfl | rfl | rfl | rfl | rfl
      all_goals first | (exact absurd hl (by decide)) | decide
    · clear hl ha h3 hk
      rcases op_cases h1 h2 with rfl | rfl | rfl | rfl | rfl | rfl | rfl | rfl | rfl | rfl | rfl | rfl | rfl | rfl | rfl | rfl | rfl | rfl
      all_goals (cases x <;> decide)
    · clear hl ha h3 hk
      rcases op_cases h1 h2 with rfl | rfl | rfl | rfl | rfl | rfl | rfl | rfl | rfl | rfl | rfl | rfl | rfl | rfl | rfl | rfl | rfl | rfl
      all_goals (cases x <;> cases y <;> decide)
    · clear hl ha h3 hk
      rcases op_cases h1 h2 with rfl | rfl | rfl | rfl | rfl | rfl | rfl | rfl | rfl | rfl | rfl | rfl | rfl | rfl | rfl | rfl | rfl | rfl
      all_goals (cases x <;> cases y <;> cases z <;> decide)
    · rw [List.length_cons, List.length_cons, List.length_cons, List.length_cons] at hl
      omega
  · rw [res_long hk hl, mt_long (by rw [← ha]; exact hl), if_neg (by decide)]
end Go.Proofs.YtoalncojijmelaaGreatDoor

/-
  The program's mayTake, resultOf, Arity, Result.
-/
namespace Go.Proofs.YtoalncojijmelaaGreatDoor
open Go.RowKit Vl

def okAt (a b c : Nat) (L : List Bool) (i : Nat) : Bool := kb (L.getD i false) == dk ([a, b, c].getD i 0) L
theorem mt_no {a b c : Nat} {L : List Bool} {k : Nat} (hk : k < L.length) (h : okAt a b c L k = false) : mt a b c L = false := by
  cases hm : mt a b c L with
  | false => rfl
  | true =>
    unfold mt at hm
    rw [Bool.and_eq_true] at hm
    have := List.all_eq_true.1 hm.2 k (List.mem_range.2 hk)
    have h2 : okAt a b c L k = true := this
    rw [h] at h2; cases h2
theorem mt_yes {a b c : Nat} {L : List Bool} (hl : L.length = nz a b c) (h : ∀ i, i < L.length → okAt a b c L i = true) : mt a b c L = true := by
  unfold mt
  rw [Bool.and_eq_true]
  exact ⟨decide_eq_true hl, List.all_eq_true.2 fun i hi => h i (List.mem_range.1 hi)⟩
def MtRel (a b c : Nat) (L : List Bool) (n : Nat) (w : World) (i : Value) (wr : World) : Prop :=
  ∃ k : Nat, k ≤ n ∧ i = .int .i64 (k : Int) ∧ Hid (∀ j, j < k → okAt a b c L j = true) ∧ ∃ q, wr = w.drewN q

set_option maxRecDepth 100000 in
set_option maxHeartbeats 2000000 in
theorem mayTake_c (a b c r : Nat) (f : Value) (A : Option Addr) (n cp : Nat) (L : List Bool) (w : World) (hr : Rc 1 w w.heap.size A n cp (lvb L)) (hn : n ≤ 1000000) :
    Calls Tryz.prog 100 #[ov a b c r f, .slice A n cp] w (RetV w (.bool (mt a b c L))) := by
  have hl := lvb_len1 hr
  have h3 := nz_le a b c
  obtain ⟨M, hM⟩ : ∃ M, M = mt a b c L := ⟨_, rfl⟩
  rw [← hM]
  obtain ⟨w0, hw0⟩ : ∃ w0, w0 = w.alloc (.cells #[.int .u8 (a : Int), .int .u8 (b : Int), .int .u8 (c : Int), .int .u8 (r : Int), f] 94) := ⟨_, rfl⟩
  have b0 : Below w.heap.size w w0 := by rw [hw0]; exact (Below.refl _ _).alloc (Nat.le_refl _) _
  have lt0 : w.heap.size < w0.heap.size := by rw [hw0]; simp
  have c0 : w0.cell? ⟨w.heap.size, 0, none⟩ = some (.int .u8 (a : Int)) := by rw [hw0]; simp
  have c1 : w0.cell? ⟨w.heap.size, 1, none⟩ = some (.int .u8 (b : Int)) := by rw [hw0]; simp
  have c2 : w0.cell? ⟨w.heap.size, 2, none⟩ = some (.int .u8 (c : Int)) := by rw [hw0]; simp
  have c3 : w0.cell? ⟨w.heap.size, 3, none⟩ = some (.int .u8 (r : Int)) := by rw [hw0]; simp
  have c4 : w0.cell? ⟨w.heap.size, 4, none⟩ = some f := by rw [hw0]; simp
  have har := fun W => parity_c a b c r f W
  obtain ⟨N, hN⟩ : ∃ N, N = nz a b c := ⟨_, rfl⟩
  rw [← hN] at har h3
  have Har := Lib.hid har; have HN := Lib.hid hN; have HM := Lib.hid hM; have Hl := Lib.hid hl
  have W0 := Lib.hid hw0; have B0 := Lib.hid b0; have Hr0 := Lib.hid (hr.below b0)
  clear hw0 b0 har hN hM hl hr
  go_enter Tryz.func100, Tryz.ntmps100
  go_wp2_with (rw [← W0.out])
  refine (Har.out _).mono ?_
  rintro e w1 ⟨rfl, b1⟩
  have hr1 := Hr0.out.below (b1.mono (Nat.le_of_lt lt0))
  have B1 := Lib.hid (B0.out.trans (b1.mono B0.out.size))
  have k0 := (b1.cell (p := ⟨w.heap.size, 0, none⟩) lt0).trans c0
  have k1 := (b1.cell (p := ⟨w.heap.size, 1, none⟩) lt0).trans c1
  have k2 := (b1.cell (p := ⟨w.heap.size, 2, none⟩) lt0).trans c2
  have Hr1 := Lib.hid hr1
  clear c0 c1 c2 c3 c4 b1 hr1 lt0 Hr0
  by_cases hnN : n = N
  · subst hnN
    have hK : ∀ k, k < n → w1.cell? ⟨w.heap.size, k, none⟩ = some (.int .u8 (([a, b, c].getD k 0 : Nat) : Int)) := fun k hk => by
      rcases (show k = 0 ∨ k = 1 ∨ k = 2 by omega) with rfl | rfl | rfl
      · exact k0
      · exact k1
      · exact k2
    have HK := Lib.hid hK
    clear k0 k1 k2 hK
    go_wp2_with fail
    go_loopw [5, 6, 14] (fun _ _ i wr => MtRel a b c L n w1 i wr) (fun _ _ i _ => n - (intOf i).toNat)
    case atStart => exact ⟨0, Nat.zero_le _, rfl, Lib.hid (fun j hj => absurd hj (by omega)), 0, rfl⟩
    case round =>
      obtain ⟨k, hk, rfl, Hall, q, rfl⟩ := hrel
      by_cases hlt : k < n
      · have hrW : Rc 1 (w1.drewN q) w.heap.size A n cp (lvb L) := Hr1.out
        obtain ⟨b2, o2, x, rfl, hb2, hc2, hx⟩ := lvb_at hrW hlt
        obtain ⟨kk, hkk⟩ : ∃ kk, kk = [a, b, c].getD k 0 := ⟨_, rfl⟩
        have hck : w1.cell? ⟨w.heap.size, k, none⟩ = some (.int .u8 (kk : Int)) := by rw [hkk]; exact HK.out k hlt
        have hko := fun W => kindOf_c x W
        rw [show ((if x then 2 else 1 : Int)) = (kb x : Int) by cases x <;> rfl] at hko
        obtain ⟨D, hD⟩ : ∃ D, D = dk kk L := ⟨_, rfl⟩
        have hde := fun qq => decided_c kk (some ⟨b2, o2, none⟩) n cp w.heap.size L (w1.drewN qq) Hr1.out hn (by omega)
        rw [← hD] at hde
        obtain ⟨E, hE⟩ : ∃ E, E = kb x := ⟨_, rfl⟩
        rw [← hE] at hko
        have hok : okAt a b c L k = (E == D) := by
          unfold okAt
          rw [← hkk, ← hD, hE, List.getD_eq_getElem?_getD, hx]; rfl
        have hb3 : k < 3 := by omega
        have hb3i : (k : Int) < 3 := by omega
        have Hok := Lib.hid hok; have Hko := Lib.hid hko; have Hde := Lib.hid hde
        clear hok hko hde hE hD hkk hx hrW h3
        by_cases hED : E = D
        · subst hED
          go_wp2_with fail
          go_quiet (first | (go_at_call 108; exact (Hko.out _).mono fun _ _ h => ⟨h.1, _, h.2⟩) | (go_at_call 109; exact (Hde.out _).mono fun _ _ h => ⟨h.1, _, h.2⟩))
          go_wp2
          go_roundw
          case rel => exact ⟨k + 1, hlt, by go_num, Lib.hid (fun j hj => by
            by_cases hjk : j = k
            · subst hjk; rw [Hok.out]; simp
            · exact Hall.out j (by omega)), _, rfl⟩
          case measure => simp [intOf]; omega
        · have hm : M = false := by rw [HM.out]; exact mt_no (k := k) (by rw [Hl.out]; exact hlt) (by rw [Hok.out]; simp [hED])
          subst hm
          have d1 : ((E : Int) != (D : Int)) = true := by simp; omega
          clear hED
          go_wp2_with fail
          go_quiet (first | (go_at_call 108; exact (Hko.out _).mono fun _ _ h => ⟨h.1, _, h.2⟩) | (go_at_call 109; exact (Hde.out _).mono fun _ _ h => ⟨h.1, _, h.2⟩))
          go_wp2
          go_ret
          exact ⟨rfl, below_drewN (below_drewN B1.out _) _⟩
      · obtain rfl : k = n := by omega
        have hm : M = true := by rw [HM.out]; exact mt_yes (by rw [Hl.out, ← HN.out]) (fun i hi => Hall.out i (by rw [Hl.out] at hi; exact hi))
        subst hm
        go_wp2
        go_ret
        exact ⟨rfl, below_drewN B1.out q⟩
  · have hm : M = false := by rw [HM.out]; exact mt_long (by rw [Hl.out, ← HN.out]; exact hnN)
    subst hm
    have d1 : ((n : Int) != (N : Int)) = true := by simp; omega
    clear hnN
    go_wp2
    go_ret
    exact ⟨rfl, B1.out⟩

set_option maxRecDepth 100000 in
theorem resultOf_c (a b c r : Nat) (f : Value) (A : Option Addr) (n cp : Nat) (L : List Bool) (w : World) (hr : Rc 1 w w.heap.size A n cp (lvb L)) (hn : n ≤ 1000000) (h0 : 0 < n) :
    Calls Tryz.prog 101 #[ov a b c r f, .slice A n cp] w (RetV w (.int .u8 (dk r L : Int))) := by
  obtain ⟨w0, hw0⟩ : ∃ w0, w0 = w.alloc (.cells #[.int .u8 (a : Int), .int .u8 (b : Int), .int .u8 (c : Int), .int .u8 (r : Int), f] 94) := ⟨_, rfl⟩
  have b0 : Below w.heap.size w w0 := by rw [hw0]; exact (Below.refl _ _).alloc (Nat.le_refl _) _
  have c3 : w0.cell? ⟨w.heap.size, 3, none⟩ = some (.int .u8 (r : Int)) := by rw [hw0]; simp
  have hde := decided_c r A n cp w.heap.size L w0 (hr.below b0) hn h0
  have W0 := Lib.hid hw0; have B0 := Lib.hid b0; have Hde := Lib.hid hde
  clear hw0 b0 hde hr
  go_enter Tryz.func101, Tryz.ntmps101
  go_wp2_with (rw [← W0.out])
  refine Hde.out.mono ?_
  rintro e w1 ⟨rfl, rfl⟩
  go_wp2
  go_ret
  exact ⟨rfl, B0.out⟩

abbrev ov0 : Value := .agg #[.int .u8 0, .int .u8 0, .int .u8 0, .int .u8 0, .nilFunc]
set_option maxRecDepth 100000 in
theorem opOf_out (op : Int) (h : ¬ (4 ≤ op ∧ op ≤ 21)) (w : World) : Calls Tryz.prog 55 #[.int .i64 op] w (RetV w (.tuple #[ov0, .bool false])) := by
  obtain ⟨w1, hw1⟩ : ∃ w1, w1 = w.alloc (.cells #[.int .u8 0, .int .u8 0, .int .u8 0, .int .u8 0, .nilFunc] 94) := ⟨_, rfl⟩
  have b1 : Below w.heap.size w w1 := by rw [hw1]; exact (Below.refl _ _).alloc (Nat.le_refl _) _
  have f : ∀ k, w1.frozen? ⟨w.heap.size, k, none⟩ = false := fun k => by rw [hw1]; simp
  have f0 := f 0; have f1 := f 1; have f2 := f 2; have f3 := f 3; have f4 := f 4
  have e0 : w1.cell? ⟨w.heap.size, 0, none⟩ = some (.int .u8 0) := by rw [hw1]; simp
  have e1 : w1.cell? ⟨w.heap.size, 1, none⟩ = some (.int .u8 0) := by rw [hw1]; simp
  have e2 : w1.cell? ⟨w.heap.size, 2, none⟩ = some (.int .u8 0) := by rw [hw1]; simp
  have e3 : w1.cell? ⟨w.heap.size, 3, none⟩ = some (.int .u8 0) := by rw [hw1]; simp
  have e4 : w1.cell? ⟨w.heap.size, 4, none⟩ = some .nilFunc := by rw [hw1]; simp
  have W1 := Lib.hid hw1; have B1 := Lib.hid b1
  clear hw1 b1 f
  obtain ⟨q0, q1, q2, q3, q4⟩ := box5 w1 w.heap.size (.int .u8 0) (.int .u8 0) (.int .u8 0) (.int .u8 0) .nilFunc e0 e1 e2 e3 e4
  have Q0 := Lib.hid q0; have Q1 := Lib.hid q1; have Q2 := Lib.hid q2; have Q3 := Lib.hid q3; have Q4 := Lib.hid q4
  clear q0 q1 q2 q3 q4
  by_cases h1 : op < 4
  · have d1 : decide (op < 4) = true := decide_eq_true h1
    clear h1 h
    go_enter Tryz.func55, Tryz.ntmps55
    go_wp2_with (rw [← W1.out])
    refine bodyPost_ret (v := .tuple #[ov0, .bool false]) ?_ rfl ⟨rfl, B1.out.trans (below5 _ _ _ _ _ _ _)⟩
    simp [results, Tryz.results55, go_sem, Q0.out, Q1.out, Q2.out, Q3.out, Q4.out]
  · have d1 : decide (op < 4) = false := decide_eq_false h1
    have d2 : decide (21 < op) = true := decide_eq_true (by omega)
    clear h1 h
    go_enter Tryz.func55, Tryz.ntmps55
    go_wp2_with (rw [← W1.out])
    refine bodyPost_ret (v := .tuple #[ov0, .bool false]) ?_ rfl ⟨rfl, B1.out.trans (below5 _ _ _ _ _ _ _)⟩
    simp [results, Tryz.results55, go_sem, Q0.out, Q1.out, Q2.out, Q3.out, Q4.out]

set_option maxRecDepth 100000 in
theorem pArity_c (op : Int) (w : World) : Calls Tryz.prog 40 #[.int .i64 op] w (RetV w (.int .i64 (ar op : Int))) := by
  by_cases h : 4 ≤ op ∧ op ≤ 21
  · obtain ⟨m, rfl⟩ : ∃ m : Nat, op = m := ⟨op.toNat, by omega⟩
    rw [ar_nz m (by omega) (by omega)]
    have hop := opOf_in m (by omega) (by omega) w
    obtain ⟨a0, ha0⟩ : ∃ a, a = k0 m := ⟨_, rfl⟩
    obtain ⟨a1, ha1⟩ : ∃ a, a = k1 m := ⟨_, rfl⟩
    obtain ⟨a2, ha2⟩ : ∃ a, a = k2 m := ⟨_, rfl⟩
    obtain ⟨a3, ha3⟩ : ∃ a, a = kr m := ⟨_, rfl⟩
    obtain ⟨a4, ha4⟩ : ∃ a, a = kf m := ⟨_, rfl⟩
    rw [← ha0, ← ha1, ← ha2, ← ha3, ← ha4] at hop
    rw [← ha0, ← ha1, ← ha2]
    have Hop := Lib.hid hop
    clear hop ha0 ha1 ha2 ha3 ha4 h
    go_enter Tryz.func40, Tryz.ntmps40
    go_wp2_with fail
    refine Hop.out.mono ?_
    rintro e w1 ⟨rfl, b1⟩
    obtain ⟨w2, hw2⟩ : ∃ w2, w2 = w1.alloc (.cells #[.int .u8 (a0 : Int), .int .u8 (a1 : Int), .int .u8 (a2 : Int), .int .u8 (a3 : Int), fu a4] 94) := ⟨_, rfl⟩
    have b2 : Below w1.heap.size w1 w2 := by rw [hw2]; exact (Below.refl _ _).alloc (Nat.le_refl _) _
    have c0 : w2.cell? ⟨w1.heap.size, 0, none⟩ = some (.int .u8 (a0 : Int)) := by rw [hw2]; simp
    have c1 : w2.cell? ⟨w1.heap.size, 1, none⟩ = some (.int .u8 (a1 : Int)) := by rw [hw2]; simp
    have c2 : w2.cell? ⟨w1.heap.size, 2, none⟩ = some (.int .u8 (a2 : Int)) := by rw [hw2]; simp
    have c3 : w2.cell? ⟨w1.heap.size, 3, none⟩ = some (.int .u8 (a3 : Int)) := by rw [hw2]; simp
    have c4 : w2.cell? ⟨w1.heap.size, 4, none⟩ = some (fu a4) := by rw [hw2]; simp
    have W2 := Lib.hid hw2; have BB := Lib.hid (b1.trans (b2.mono b1.size))
    clear hw2 b1 b2
    go_wp2_with (rw [← W2.out])
    refine (parity_c a0 a1 a2 a3 (fu a4) _).mono ?_
    rintro e w3 ⟨rfl, b3⟩
    have B3 := Lib.hid (BB.out.trans (b3.mono BB.out.size))
    clear b3
    go_wp2
    go_ret
    exact ⟨rfl, B3.out⟩
  · rw [ar_out h]
    have Hop := Lib.hid (opOf_out op h w)
    clear h
    go_enter Tryz.func40, Tryz.ntmps40
    go_wp2_with fail
    refine Hop.out.mono ?_
    rintro e w1 ⟨rfl, b1⟩
    have BB := Lib.hid (b1.trans ((show Below w1.heap.size w1 (w1.alloc (.cells #[.int .u8 0, .int .u8 0, .int .u8 0, .int .u8 0, .nilFunc] 94)) from (Below.refl _ _).alloc (Nat.le_refl _) _).mono b1.size))
    clear b1
    go_wp2_with fail
    refine (show Calls Tryz.prog 56 #[ov0] _ _ from parity_c 0 0 0 0 .nilFunc _).mono ?_
    rintro e w3 ⟨rfl, b3⟩
    have B3 := Lib.hid (BB.out.trans (b3.mono BB.out.size))
    clear b3
    go_wp2
    go_ret
    exact ⟨rfl, B3.out⟩

set_option maxRecDepth 100000 in
set_option maxHeartbeats 1000000 in
theorem pResult_c (op : Int) (A : Option Addr) (n cp : Nat) (L : List Bool) (w : World) (hr : Rc 1 w w.heap.size A n cp (lvb L)) (hn : n ≤ 1000000) :
    Calls Tryz.prog 90 #[.int .i64 op, .slice A n cp] w (RetV w (.tuple #[.bool (res op L).1, .int .i64 ((res op L).2 : Int)])) := by
  by_cases h : 4 ≤ op ∧ op ≤ 21
  · obtain ⟨m, rfl⟩ : ∃ m : Nat, op = m := ⟨op.toNat, by omega⟩
    have hop := opOf_in m (by omega) (by omega) w
    have hres := res_mt m (by omega) (by omega) L
    have hnz : 0 < nz (k0 m) (k1 m) (k2 m) := by
      rcases op_cases (m := m) (by omega) (by omega) with rfl | rfl | rfl | rfl | rfl | rfl | rfl | rfl | rfl | rfl | rfl | rfl | rfl | rfl | rfl | rfl | rfl | rfl
      all_goals decide
    obtain ⟨R, hR⟩ : ∃ R, R = res (m : Int) L := ⟨_, rfl⟩
    rw [← hR] at hres ⊢
    obtain ⟨a0, ha0⟩ : ∃ a, a = k0 m := ⟨_, rfl⟩
    obtain ⟨a1, ha1⟩ : ∃ a, a = k1 m := ⟨_, rfl⟩
    obtain ⟨a2, ha2⟩ : ∃ a, a = k2 m := ⟨_, rfl⟩
    obtain ⟨a3, ha3⟩ : ∃ a, a = kr m := ⟨_, rfl⟩
    obtain ⟨a4, ha4⟩ : ∃ a, a = kf m := ⟨_, rfl⟩
    rw [← ha0, ← ha1, ← ha2, ← ha3, ← ha4] at hop
    rw [← ha0, ← ha1, ← ha2, ← ha3] at hres
    rw [← ha0, ← ha1, ← ha2] at hnz
    have hlm : mt a0 a1 a2 L = true → 0 < n := fun hm => by
      have hl := lvb_len1 hr
      by_cases hq : L.length = nz a0 a1 a2
      · omega
      · rw [mt_long hq] at hm; cases hm
    have hmt := fun W W' (hb : Below w.heap.size w W) (_ : W' = W) => mayTake_c a0 a1 a2 a3 (fu a4) A n cp L W ((hr.below hb).more hb.size) hn
    have hro := fun W (hb : Below w.heap.size w W) (h0 : 0 < n) => resultOf_c a0 a1 a2 a3 (fu a4) A n cp L W ((hr.below hb).more hb.size) hn h0
    obtain ⟨M, hM⟩ : ∃ M, M = mt a0 a1 a2 L := ⟨_, rfl⟩
    rw [← hM] at hmt hres hlm
    have Hop := Lib.hid hop; have Hmt := Lib.hid hmt; have Hro := Lib.hid hro; have Hres := Lib.hid hres; have Hlm := Lib.hid hlm
    clear hop ha0 ha1 ha2 ha3 ha4 h hR hM hmt hro hres hr hnz hlm
    go_enter Tryz.func90, Tryz.ntmps90
    go_wp2_with fail
    refine Hop.out.mono ?_
    rintro e w1 ⟨rfl, b1⟩
    obtain ⟨w2, hw2⟩ : ∃ w2, w2 = w1.alloc (.cells #[.int .u8 (a0 : Int), .int .u8 (a1 : Int), .int .u8 (a2 : Int), .int .u8 (a3 : Int), fu a4] 94) := ⟨_, rfl⟩
    have b2 : Below w1.heap.size w1 w2 := by rw [hw2]; exact (Below.refl _ _).alloc (Nat.le_refl _) _
    have c0 : w2.cell? ⟨w1.heap.size, 0, none⟩ = some (.int .u8 (a0 : Int)) := by rw [hw2]; simp
    have c1 : w2.cell? ⟨w1.heap.size, 1, none⟩ = some (.int .u8 (a1 : Int)) := by rw [hw2]; simp
    have c2 : w2.cell? ⟨w1.heap.size, 2, none⟩ = some (.int .u8 (a2 : Int)) := by rw [hw2]; simp
    have c3 : w2.cell? ⟨w1.heap.size, 3, none⟩ = some (.int .u8 (a3 : Int)) := by rw [hw2]; simp
    have c4 : w2.cell? ⟨w1.heap.size, 4, none⟩ = some (fu a4) := by rw [hw2]; simp
    have lt2 : w1.heap.size < w2.heap.size := by rw [hw2]; simp
    have bb := b1.trans (b2.mono b1.size)
    have W2 := Lib.hid hw2; have BB := Lib.hid bb; have Hmt2 := Lib.hid (Hmt.out w2 w2 bb rfl); have Lt2 := Lib.hid lt2
    clear hw2 b1 b2 bb lt2
    go_wp2_with (rw [← W2.out])
    refine Hmt2.out.mono ?_
    rintro e w3 ⟨rfl, b3⟩
    have bb3 := BB.out.trans (b3.mono BB.out.size)
    have e0 := (b3.cell (p := ⟨w1.heap.size, 0, none⟩) Lt2.out).trans c0
    have e1 := (b3.cell (p := ⟨w1.heap.size, 1, none⟩) Lt2.out).trans c1
    have e2 := (b3.cell (p := ⟨w1.heap.size, 2, none⟩) Lt2.out).trans c2
    have e3 := (b3.cell (p := ⟨w1.heap.size, 3, none⟩) Lt2.out).trans c3
    have e4 := (b3.cell (p := ⟨w1.heap.size, 4, none⟩) Lt2.out).trans c4
    have B3 := Lib.hid bb3
    clear b3 bb3 c0 c1 c2 c3 c4
    cases M with
    | false =>
      have hR := Hres.out
      rw [if_neg (by decide)] at hR
      subst hR
      go_wp2
      go_ret2
      exact ⟨rfl, B3.out⟩
    | true =>
      have hR := Hres.out
      rw [if_pos rfl] at hR
      have Hro3 := Lib.hid (Hro.out w3 B3.out (Hlm.out rfl))
      obtain ⟨D, hD⟩ : ∃ D, D = dk a3 L := ⟨_, rfl⟩
      rw [← hD] at Hro3 hR
      subst hR
      clear hD Hres
      go_wp2_with fail
      refine Hro3.out.mono ?_
      rintro e w4 ⟨rfl, b4⟩
      have B4 := Lib.hid (B3.out.trans (b4.mono B3.out.size))
      have hd : ((D : Int) == 2) = (D == 2) := by
        by_cases hq : D = 2
        · subst hq; rfl
        · rw [beq_eq_false_iff_ne.2 hq]; simp; omega
      clear b4
      go_wp2
      go_ret2
      exact ⟨rfl, B4.out⟩
  · rw [res_out h]
    have Hop := Lib.hid (opOf_out op h w)
    clear h
    go_enter Tryz.func90, Tryz.ntmps90
    go_wp2_with fail
    refine Hop.out.mono ?_
    rintro e w1 ⟨rfl, b1⟩
    have B1 := Lib.hid (b1.trans ((show Below w1.heap.size w1 (w1.alloc (.cells #[.int .u8 0, .int .u8 0, .int .u8 0, .int .u8 0, .nilFunc] 94)) from (Below.refl _ _).alloc (Nat.le_refl _) _).mono b1.size))
    clear b1
    go_wp2
    go_ret2
    exact ⟨rfl, B1.out⟩
end Go.Proofs.YtoalncojijmelaaGreatDoor

/-
  The program's methods of arguments: add to mod, join, length, eq, less, not, choose, hash.
-/
namespace Go.Proofs.YtoalncojijmelaaGreatDoor
open Go.RowKit Vl

/-- Three values as one flat array. -/
abbrev ar9 (x y z : V) : Value := .agg #[.bool x.t, .int .i64 x.n, st x.s, .bool y.t, .int .i64 y.n, st y.s, .bool z.t, .int .i64 z.n, st z.s]
/-- A block of nine cells. -/
structure Ar9 (w : World) (g : Nat) (x y z : V) : Prop where
  lt : g < w.heap.size
  c0 : w.cell? ⟨g, 0, none⟩ = some (.bool x.t)
  c1 : w.cell? ⟨g, 1, none⟩ = some (.int .i64 x.n)
  c2 : w.cell? ⟨g, 2, none⟩ = some (.string ⟨x.s.toArray⟩)
  c3 : w.cell? ⟨g, 3, none⟩ = some (.bool y.t)
  c4 : w.cell? ⟨g, 4, none⟩ = some (.int .i64 y.n)
  c5 : w.cell? ⟨g, 5, none⟩ = some (.string ⟨y.s.toArray⟩)
  c6 : w.cell? ⟨g, 6, none⟩ = some (.bool z.t)
  c7 : w.cell? ⟨g, 7, none⟩ = some (.int .i64 z.n)
  c8 : w.cell? ⟨g, 8, none⟩ = some (.string ⟨z.s.toArray⟩)
theorem Ar9.made (w : World) (T : TypeId) (x y z : V) : Ar9 (w.alloc (.cells #[.bool x.t, .int .i64 x.n, st x.s, .bool y.t, .int .i64 y.n, st y.s, .bool z.t, .int .i64 z.n, st z.s] T)) w.heap.size x y z := ⟨by simp, by simp, by simp, by simp, by simp, by simp, by simp, by simp, by simp, by simp⟩
theorem Ar9.below {w w' : World} {g B : Nat} {x y z : V} (h : Ar9 w g x y z) (hb : Below B w w') (hg : g < B) : Ar9 w' g x y z := by
  have hq := hb.block g hg
  have c : ∀ k, w'.cell? ⟨g, k, none⟩ = w.cell? ⟨g, k, none⟩ := fun k => by unfold World.cell?; rw [hq]
  exact ⟨Nat.lt_of_lt_of_le h.lt hb.size, (c 0).trans h.c0, (c 1).trans h.c1, (c 2).trans h.c2, (c 3).trans h.c3, (c 4).trans h.c4, (c 5).trans h.c5, (c 6).trans h.c6, (c 7).trans h.c7, (c 8).trans h.c8⟩
/-- How a method begins: its arguments in a block, a box for the result. -/
theorem open9 (w : World) (x y z : V) : ∃ w1 w2, Hid (w1 = w.alloc (.cells #[.bool x.t, .int .i64 x.n, st x.s, .bool y.t, .int .i64 y.n, st y.s, .bool z.t, .int .i64 z.n, st z.s] 112)) ∧ Hid (w2 = w1.alloc (.cells #[.bool false, .int .i64 0, .string ⟨#[]⟩] 32)) ∧ Hid (w1.heap.size = w.heap.size + 1) ∧ Hid (Below w.heap.size w w2) ∧ Ar9 w2 w.heap.size x y z ∧ Bx w2 (w.heap.size + 1) (.bool false) (.int .i64 0) (.string ⟨#[]⟩) := by
  refine ⟨_, _, rfl, rfl, by show _ = _; simp, ?_, ?_, ?_⟩
  · exact ((Below.refl _ _).alloc (Nat.le_refl _) _).alloc (by simp) _
  · exact (Ar9.made w 112 x y z).below ((Below.refl _ _).alloc (Nat.le_refl _) _) (by simp)
  · have h := Bx.made (w.alloc (.cells #[.bool x.t, .int .i64 x.n, st x.s, .bool y.t, .int .i64 y.n, st y.s, .bool z.t, .int .i64 z.n, st z.s] 112)) 32 (.bool false) (.int .i64 0) (.string ⟨#[]⟩)
    rw [show (w.alloc (.cells #[.bool x.t, .int .i64 x.n, st x.s, .bool y.t, .int .i64 y.n, st y.s, .bool z.t, .int .i64 z.n, st z.s] 112)).heap.size = w.heap.size + 1 by simp] at h
    exact h

set_option maxRecDepth 100000 in
set_option maxHeartbeats 1000000 in
theorem p_add (x y z : V) (w : World) : Calls Tryz.prog 71 #[ar9 x y z] w (RetV w (vv (num (w64 (x.n + y.n))))) := by
  obtain ⟨w1, w2, W1, W2, Z1, BB, A2, X2⟩ := open9 w x y z
  have XX := Lib.hid X2
  have AA := Lib.hid A2
  obtain ⟨-, c0, c1, c2, c3, c4, c5, c6, c7, c8⟩ := A2
  obtain ⟨e0, e1, e2, f0, f1, f2, hlt⟩ := X2
  obtain ⟨N, hN⟩ : ∃ N, N = w64 (x.n + y.n) := ⟨_, rfl⟩
  rw [← hN]
  have eN : IntKind.i64.wrap (x.n + y.n) = N := hN.symm
  rw [IntWalk.i64_left] at eN
  clear hN
  go_enter Tryz.func71, Tryz.ntmps71
  go_wp2_with (first | rw [← W1.out, ← W2.out, Z1.out] | rw [← W1.out, ← W2.out])
  refine (pnum_c N _).mono ?_
  rintro e w3 ⟨rfl, bq⟩
  have xq := XX.out.below bq XX.out.lt
  have BB := Lib.hid (BB.out.trans (bq.mono BB.out.size))
  have XX := Lib.hid xq
  clear e0 e1 e2 f0 f1 f2 hlt bq c0 c1 c2 c3 c4 c5 c6 c7 c8
  obtain ⟨e0, e1, e2, f0, f1, f2, hlt⟩ := xq
  go_wp2
  change bodyPost _ _ _ _ _ (put3 w3 (w.heap.size + 1) _ _ _)
  have s0 := fun v0 v1 v2 => (put3_box XX.out v0 v1 v2).c0
  have s1 := fun v0 v1 v2 => (put3_box XX.out v0 v1 v2).c1
  have s2 := fun v0 v1 v2 => (put3_box XX.out v0 v1 v2).c2
  refine bodyPost_ret (v := .agg #[.bool false, .int .i64 N, .string ⟨#[]⟩]) ?_ rfl ⟨rfl, BB.out.trans ((put3_below _ _ _ _ _).mono (by omega))⟩
  simp [results, Tryz.results71, go_sem, s0, s1, s2]

set_option maxRecDepth 100000 in
set_option maxHeartbeats 1000000 in
theorem p_sub (x y z : V) (w : World) : Calls Tryz.prog 72 #[ar9 x y z] w (RetV w (vv (num (w64 (x.n - y.n))))) := by
  obtain ⟨w1, w2, W1, W2, Z1, BB, A2, X2⟩ := open9 w x y z
  have XX := Lib.hid X2
  have AA := Lib.hid A2
  obtain ⟨-, c0, c1, c2, c3, c4, c5, c6, c7, c8⟩ := A2
  obtain ⟨e0, e1, e2, f0, f1, f2, hlt⟩ := X2
  obtain ⟨N, hN⟩ : ∃ N, N = w64 (x.n - y.n) := ⟨_, rfl⟩
  rw [← hN]
  have eN : IntKind.i64.wrap (x.n - y.n) = N := hN.symm
  rw [IntWalk.i64_left] at eN
  clear hN
  go_enter Tryz.func72, Tryz.ntmps72
  go_wp2_with (first | rw [← W1.out, ← W2.out, Z1.out] | rw [← W1.out, ← W2.out])
  refine (pnum_c N _).mono ?_
  rintro e w3 ⟨rfl, bq⟩
  have xq := XX.out.below bq XX.out.lt
  have BB := Lib.hid (BB.out.trans (bq.mono BB.out.size))
  have XX := Lib.hid xq
  clear e0 e1 e2 f0 f1 f2 hlt bq c0 c1 c2 c3 c4 c5 c6 c7 c8
  obtain ⟨e0, e1, e2, f0, f1, f2, hlt⟩ := xq
  go_wp2
  change bodyPost _ _ _ _ _ (put3 w3 (w.heap.size + 1) _ _ _)
  have s0 := fun v0 v1 v2 => (put3_box XX.out v0 v1 v2).c0
  have s1 := fun v0 v1 v2 => (put3_box XX.out v0 v1 v2).c1
  have s2 := fun v0 v1 v2 => (put3_box XX.out v0 v1 v2).c2
  refine bodyPost_ret (v := .agg #[.bool false, .int .i64 N, .string ⟨#[]⟩]) ?_ rfl ⟨rfl, BB.out.trans ((put3_below _ _ _ _ _).mono (by omega))⟩
  simp [results, Tryz.results72, go_sem, s0, s1, s2]

set_option maxRecDepth 100000 in
set_option maxHeartbeats 1000000 in
theorem p_mul (x y z : V) (w : World) : Calls Tryz.prog 73 #[ar9 x y z] w (RetV w (vv (num (w64 (x.n * y.n))))) := by
  obtain ⟨w1, w2, W1, W2, Z1, BB, A2, X2⟩ := open9 w x y z
  have XX := Lib.hid X2
  have AA := Lib.hid A2
  obtain ⟨-, c0, c1, c2, c3, c4, c5, c6, c7, c8⟩ := A2
  obtain ⟨e0, e1, e2, f0, f1, f2, hlt⟩ := X2
  obtain ⟨N, hN⟩ : ∃ N, N = w64 (x.n * y.n) := ⟨_, rfl⟩
  rw [← hN]
  have eN : IntKind.i64.wrap (x.n * y.n) = N := hN.symm
  rw [IntWalk.i64_left] at eN
  clear hN
  go_enter Tryz.func73, Tryz.ntmps73
  go_wp2_with (first | rw [← W1.out, ← W2.out, Z1.out] | rw [← W1.out, ← W2.out])
  refine (pnum_c N _).mono ?_
  rintro e w3 ⟨rfl, bq⟩
  have xq := XX.out.below bq XX.out.lt
  have BB := Lib.hid (BB.out.trans (bq.mono BB.out.size))
  have XX := Lib.hid xq
  clear e0 e1 e2 f0 f1 f2 hlt bq c0 c1 c2 c3 c4 c5 c6 c7 c8
  obtain ⟨e0, e1, e2, f0, f1, f2, hlt⟩ := xq
  go_wp2
  change bodyPost _ _ _ _ _ (put3 w3 (w.heap.size + 1) _ _ _)
  have s0 := fun v0 v1 v2 => (put3_box XX.out v0 v1 v2).c0
  have s1 := fun v0 v1 v2 => (put3_box XX.out v0 v1 v2).c1
  have s2 := fun v0 v1 v2 => (put3_box XX.out v0 v1 v2).c2
  refine bodyPost_ret (v := .agg #[.bool false, .int .i64 N, .string ⟨#[]⟩]) ?_ rfl ⟨rfl, BB.out.trans ((put3_below _ _ _ _ _).mono (by omega))⟩
  simp [results, Tryz.results73, go_sem, s0, s1, s2]

theorem quo_dv {a b : Int} (ha : I a) (h0 : b ≠ 0) : IntKind.i64.wrap (a.tdiv b) = (dv a b).1 := by
  unfold dv
  rw [if_neg h0]
  by_cases h1 : b = -1
  · subst h1
    rw [if_pos rfl, Int.tdiv_neg, Int.tdiv_one]
    rfl
  · rw [if_neg h1]
    refine w64_in ?_
    by_cases hb1 : b = 1
    · subst hb1; rw [Int.tdiv_one]; exact ha
    have h2 : (a.tdiv b).natAbs ≤ a.natAbs := by rw [Int.natAbs_tdiv]; exact Nat.div_le_self _ _
    have h3 : a = -9223372036854775808 → (a.tdiv b).natAbs ≤ 4611686018427387904 := fun e => by
      rw [Int.natAbs_tdiv, e]
      have h4 : 2 ≤ b.natAbs := by omega
      exact Nat.le_trans (Nat.div_le_div_left h4 (by omega)) (by decide)
    by_cases h5 : a = -9223372036854775808
    · have h6 := h3 h5
      unfold I
      omega
    · unfold I at ha ⊢
      omega
theorem rem_dv {a b : Int} (hb : I b) (h0 : b ≠ 0) : IntKind.i64.wrap (a.tmod b) = (dv a b).2 := by
  unfold dv
  rw [if_neg h0]
  by_cases h1 : b = -1
  · subst h1
    rw [if_pos rfl, Int.tmod_neg, Int.tmod_one]
    rfl
  · rw [if_neg h1]
    refine w64_in ?_
    have h3 : (a.tmod b).natAbs < b.natAbs := by rw [Int.natAbs_tmod]; exact Nat.mod_lt _ (by omega)
    unfold I at hb ⊢
    omega
theorem rem_dv2 (a : Int) {b : Int} (h0 : b ≠ 0) : a.tmod b = (dv a b).2 := by
  unfold dv
  rw [if_neg h0]
  by_cases h1 : b = -1
  · subst h1
    rw [if_pos rfl, Int.tmod_neg, Int.tmod_one]
  · rw [if_neg h1]
theorem dv_zero (a : Int) : dv a 0 = (0, 0) := by unfold dv; rw [if_pos rfl]
set_option maxRecDepth 100000 in
set_option maxHeartbeats 1000000 in
theorem p_div (x y z : V) (hx : I x.n) (w : World) : Calls Tryz.prog 74 #[ar9 x y z] w (RetV w (vv (num (dv x.n y.n).1))) := by
  obtain ⟨w1, w2, W1, W2, Z1, BB, A2, X2⟩ := open9 w x y z
  have XX := Lib.hid X2
  have AA := Lib.hid A2
  obtain ⟨-, c0, c1, c2, c3, c4, c5, c6, c7, c8⟩ := A2
  obtain ⟨e0, e1, e2, f0, f1, f2, hlt⟩ := X2
  by_cases h0 : y.n = 0
  · rw [h0, dv_zero]
    have d0 : (y.n == 0) = true := beq_iff_eq.2 h0
    clear h0
    go_enter Tryz.func74, Tryz.ntmps74
    go_wp2_with (first | rw [← W1.out, ← W2.out, Z1.out] | rw [← W1.out, ← W2.out])
    refine (pnum_c 0 _).mono ?_
    rintro e w3 ⟨rfl, bq⟩
    have xq := XX.out.below bq XX.out.lt
    have BB := Lib.hid (BB.out.trans (bq.mono BB.out.size))
    have XX := Lib.hid xq
    clear e0 e1 e2 f0 f1 f2 hlt bq c0 c1 c2 c3 c4 c5 c6 c7 c8
    obtain ⟨e0, e1, e2, f0, f1, f2, hlt⟩ := xq
    go_wp2
    change bodyPost _ _ _ _ _ (put3 w3 (w.heap.size + 1) _ _ _)
    have s0 := fun v0 v1 v2 => (put3_box XX.out v0 v1 v2).c0
    have s1 := fun v0 v1 v2 => (put3_box XX.out v0 v1 v2).c1
    have s2 := fun v0 v1 v2 => (put3_box XX.out v0 v1 v2).c2
    refine bodyPost_ret (v := .agg #[.bool false, .int .i64 0, .string ⟨#[]⟩]) ?_ rfl ⟨rfl, BB.out.trans ((put3_below _ _ _ _ _).mono (by omega))⟩
    simp [results, Tryz.results74, go_sem, s0, s1, s2]
  · obtain ⟨N, hN⟩ : ∃ N, N = (dv x.n y.n).1 := ⟨_, rfl⟩
    rw [← hN]
    have d0 : (y.n == 0) = false := beq_eq_false_iff_ne.2 h0
    have eN := quo_dv hx h0
    rw [← hN, IntWalk.i64_left] at eN
    clear hN
    go_enter Tryz.func74, Tryz.ntmps74
    go_wp2_with (first | rw [← W1.out, ← W2.out, Z1.out] | rw [← W1.out, ← W2.out])
    refine (pnum_c N _).mono ?_
    rintro e w3 ⟨rfl, bq⟩
    have xq := XX.out.below bq XX.out.lt
    have BB := Lib.hid (BB.out.trans (bq.mono BB.out.size))
    have XX := Lib.hid xq
    clear e0 e1 e2 f0 f1 f2 hlt bq c0 c1 c2 c3 c4 c5 c6 c7 c8
    obtain ⟨e0, e1, e2, f0, f1, f2, hlt⟩ := xq
    go_wp2
    change bodyPost _ _ _ _ _ (put3 w3 (w.heap.size + 1) _ _ _)
    have s0 := fun v0 v1 v2 => (put3_box XX.out v0 v1 v2).c0
    have s1 := fun v0 v1 v2 => (put3_box XX.out v0 v1 v2).c1
    have s2 := fun v0 v1 v2 => (put3_box XX.out v0 v1 v2).c2
    refine bodyPost_ret (v := .agg #[.bool false, .int .i64 N, .string ⟨#[]⟩]) ?_ rfl ⟨rfl, BB.out.trans ((put3_below _ _ _ _ _).mono (by omega))⟩
    simp [results, Tryz.results74, go_sem, s0, s1, s2]

set_option maxRecDepth 100000 in
set_option maxHeartbeats 1000000 in
theorem p_mod (x y z : V) (hy : I y.n) (w : World) : Calls Tryz.prog 75 #[ar9 x y z] w (RetV w (vv (num (dv x.n y.n).2))) := by
  obtain ⟨w1, w2, W1, W2, Z1, BB, A2, X2⟩ := open9 w x y z
  have XX := Lib.hid X2
  have AA := Lib.hid A2
  obtain ⟨-, c0, c1, c2, c3, c4, c5, c6, c7, c8⟩ := A2
  obtain ⟨e0, e1, e2, f0, f1, f2, hlt⟩ := X2
  by_cases h0 : y.n = 0
  · rw [h0, dv_zero]
    have d0 : (y.n == 0) = true := beq_iff_eq.2 h0
    clear h0
    go_enter Tryz.func75, Tryz.ntmps75
    go_wp2_with (first | rw [← W1.out, ← W2.out, Z1.out] | rw [← W1.out, ← W2.out])
    refine (pnum_c 0 _).mono ?_
    rintro e w3 ⟨rfl, bq⟩
    have xq := XX.out.below bq XX.out.lt
    have BB := Lib.hid (BB.out.trans (bq.mono BB.out.size))
    have XX := Lib.hid xq
    clear e0 e1 e2 f0 f1 f2 hlt bq c0 c1 c2 c3 c4 c5 c6 c7 c8
    obtain ⟨e0, e1, e2, f0, f1, f2, hlt⟩ := xq
    go_wp2
    change bodyPost _ _ _ _ _ (put3 w3 (w.heap.size + 1) _ _ _)
    have s0 := fun v0 v1 v2 => (put3_box XX.out v0 v1 v2).c0
    have s1 := fun v0 v1 v2 => (put3_box XX.out v0 v1 v2).c1
    have s2 := fun v0 v1 v2 => (put3_box XX.out v0 v1 v2).c2
    refine bodyPost_ret (v := .agg #[.bool false, .int .i64 0, .string ⟨#[]⟩]) ?_ rfl ⟨rfl, BB.out.trans ((put3_below _ _ _ _ _).mono (by omega))⟩
    simp [results, Tryz.results75, go_sem, s0, s1, s2]
  · obtain ⟨N, hN⟩ : ∃ N, N = (dv x.n y.n).2 := ⟨_, rfl⟩
    rw [← hN]
    have d0 : (y.n == 0) = false := beq_eq_false_iff_ne.2 h0
    have eN := rem_dv (a := x.n) hy h0
    rw [← hN, IntWalk.i64_left] at eN
    have eM : x.n.tmod y.n = N := by rw [hN]; exact rem_dv2 _ h0
    rw [eM] at eN
    clear hN
    go_enter Tryz.func75, Tryz.ntmps75
    go_wp2_with (first | rw [← W1.out, ← W2.out, Z1.out] | rw [← W1.out, ← W2.out])
    refine (pnum_c N _).mono ?_
    rintro e w3 ⟨rfl, bq⟩
    have xq := XX.out.below bq XX.out.lt
    have BB := Lib.hid (BB.out.trans (bq.mono BB.out.size))
    have XX := Lib.hid xq
    clear e0 e1 e2 f0 f1 f2 hlt bq c0 c1 c2 c3 c4 c5 c6 c7 c8
    obtain ⟨e0, e1, e2, f0, f1, f2, hlt⟩ := xq
    go_wp2
    change bodyPost _ _ _ _ _ (put3 w3 (w.heap.size + 1) _ _ _)
    have s0 := fun v0 v1 v2 => (put3_box XX.out v0 v1 v2).c0
    have s1 := fun v0 v1 v2 => (put3_box XX.out v0 v1 v2).c1
    have s2 := fun v0 v1 v2 => (put3_box XX.out v0 v1 v2).c2
    refine bodyPost_ret (v := .agg #[.bool false, .int .i64 N, .string ⟨#[]⟩]) ?_ rfl ⟨rfl, BB.out.trans ((put3_below _ _ _ _ _).mono (by omega))⟩
    simp [results, Tryz.results75, go_sem, s0, s1, s2]

set_option maxRecDepth 100000 in
set_option maxHeartbeats 1000000 in
theorem p_join (x y z : V) (hx : x.s.length + y.s.length ≤ 1000000) (w : World) : Calls Tryz.prog 76 #[ar9 x y z] w (RetV w (vv (txt (x.s ++ y.s)))) := by
  obtain ⟨w1, w2, W1, W2, Z1, BB, A2, X2⟩ := open9 w x y z
  have XX := Lib.hid X2
  have AA := Lib.hid A2
  obtain ⟨-, c0, c1, c2, c3, c4, c5, c6, c7, c8⟩ := A2
  obtain ⟨e0, e1, e2, f0, f1, f2, hlt⟩ := X2
  go_enter Tryz.func76, Tryz.ntmps76
  go_wp2_with (first | rw [← W1.out, ← W2.out, Z1.out] | rw [← W1.out, ← W2.out])
  refine (ptext_c (x.s ++ y.s) (by rw [List.length_append]; exact hx) _).mono ?_
  rintro e w3 ⟨rfl, bq⟩
  have xq := XX.out.below bq XX.out.lt
  have BB := Lib.hid (BB.out.trans (bq.mono BB.out.size))
  have XX := Lib.hid xq
  clear e0 e1 e2 f0 f1 f2 hlt bq c0 c1 c2 c3 c4 c5 c6 c7 c8
  obtain ⟨e0, e1, e2, f0, f1, f2, hlt⟩ := xq
  go_wp2
  change bodyPost _ _ _ _ _ (put3 w3 (w.heap.size + 1) _ _ _)
  have s0 := fun v0 v1 v2 => (put3_box XX.out v0 v1 v2).c0
  have s1 := fun v0 v1 v2 => (put3_box XX.out v0 v1 v2).c1
  have s2 := fun v0 v1 v2 => (put3_box XX.out v0 v1 v2).c2
  refine bodyPost_ret (v := .agg #[.bool true, .int .i64 0, .string ⟨((x.s ++ y.s).take 1000).toArray⟩]) ?_ rfl ⟨rfl, BB.out.trans ((put3_below _ _ _ _ _).mono (by omega))⟩
  simp [results, Tryz.results76, go_sem, s0, s1, s2]

set_option maxRecDepth 100000 in
set_option maxHeartbeats 1000000 in
theorem p_length (x y z : V) (w : World) : Calls Tryz.prog 77 #[ar9 x y z] w (RetV w (vv (num x.s.length))) := by
  obtain ⟨w1, w2, W1, W2, Z1, BB, A2, X2⟩ := open9 w x y z
  have XX := Lib.hid X2
  have AA := Lib.hid A2
  obtain ⟨-, c0, c1, c2, c3, c4, c5, c6, c7, c8⟩ := A2
  obtain ⟨e0, e1, e2, f0, f1, f2, hlt⟩ := X2
  go_enter Tryz.func77, Tryz.ntmps77
  go_wp2_with (first | rw [← W1.out, ← W2.out, Z1.out] | rw [← W1.out, ← W2.out])
  refine (pnum_c (x.s.length : Int) _).mono ?_
  rintro e w3 ⟨rfl, bq⟩
  have xq := XX.out.below bq XX.out.lt
  have BB := Lib.hid (BB.out.trans (bq.mono BB.out.size))
  have XX := Lib.hid xq
  clear e0 e1 e2 f0 f1 f2 hlt bq c0 c1 c2 c3 c4 c5 c6 c7 c8
  obtain ⟨e0, e1, e2, f0, f1, f2, hlt⟩ := xq
  go_wp2
  change bodyPost _ _ _ _ _ (put3 w3 (w.heap.size + 1) _ _ _)
  have s0 := fun v0 v1 v2 => (put3_box XX.out v0 v1 v2).c0
  have s1 := fun v0 v1 v2 => (put3_box XX.out v0 v1 v2).c1
  have s2 := fun v0 v1 v2 => (put3_box XX.out v0 v1 v2).c2
  refine bodyPost_ret (v := .agg #[.bool false, .int .i64 (x.s.length : Int), .string ⟨#[]⟩]) ?_ rfl ⟨rfl, BB.out.trans ((put3_below _ _ _ _ _).mono (by omega))⟩
  simp [results, Tryz.results77, go_sem, s0, s1, s2]

set_option maxRecDepth 100000 in
set_option maxHeartbeats 1000000 in
theorem p_eq (x y z : V) (hx : isV x = true) (hy : isV y = true) (w : World) : Calls Tryz.prog 81 #[ar9 x y z] w (RetV w (vv (yes (cmp x y == 0)))) := by
  obtain ⟨w1, w2, W1, W2, Z1, BB, A2, X2⟩ := open9 w x y z
  have XX := Lib.hid X2
  have AA := Lib.hid A2
  obtain ⟨-, c0, c1, c2, c3, c4, c5, c6, c7, c8⟩ := A2
  obtain ⟨e0, e1, e2, f0, f1, f2, hlt⟩ := X2
  obtain ⟨C, hC⟩ : ∃ C, C = cmp x y := ⟨_, rfl⟩
  have hc := fun W => pcompare_c x y W hx hy
  rw [← hC] at hc
  rw [← hC]
  have Hc := Lib.hid hc
  obtain ⟨Q, hQ⟩ : ∃ Q, Q = (C == 0) := ⟨_, rfl⟩
  rw [← hQ]
  have d := hQ.symm
  clear hc hC hQ
  go_enter Tryz.func81, Tryz.ntmps81
  go_wp2_with (first | rw [← W1.out, ← W2.out, Z1.out] | rw [← W1.out, ← W2.out])
  refine (Hc.out _).mono ?_
  rintro e w3 ⟨rfl, bq⟩
  have xq := XX.out.below bq XX.out.lt
  have BB := Lib.hid (BB.out.trans (bq.mono BB.out.size))
  have XX := Lib.hid xq
  have AA := Lib.hid (AA.out.below bq AA.out.lt)
  clear c0 c1 c2 c3 c4 c5 c6 c7 c8 e0 e1 e2 f0 f1 f2 hlt bq
  obtain ⟨-, c0, c1, c2, c3, c4, c5, c6, c7, c8⟩ := AA.out
  obtain ⟨e0, e1, e2, f0, f1, f2, hlt⟩ := xq
  go_wp2_with (fail)
  refine (truth_c Q _).mono ?_
  rintro e w4 ⟨rfl, bq⟩
  have xq := XX.out.below bq XX.out.lt
  have BB := Lib.hid (BB.out.trans (bq.mono BB.out.size))
  have XX := Lib.hid xq
  clear e0 e1 e2 f0 f1 f2 hlt bq c0 c1 c2 c3 c4 c5 c6 c7 c8
  obtain ⟨e0, e1, e2, f0, f1, f2, hlt⟩ := xq
  go_wp2
  change bodyPost _ _ _ _ _ (put3 w4 (w.heap.size + 1) _ _ _)
  have s0 := fun v0 v1 v2 => (put3_box XX.out v0 v1 v2).c0
  have s1 := fun v0 v1 v2 => (put3_box XX.out v0 v1 v2).c1
  have s2 := fun v0 v1 v2 => (put3_box XX.out v0 v1 v2).c2
  refine bodyPost_ret (v := vv (yes Q)) ?_ rfl ⟨rfl, BB.out.trans ((put3_below _ _ _ _ _).mono (by omega))⟩
  simp [results, Tryz.results81, go_sem, s0, s1, s2]

set_option maxRecDepth 100000 in
set_option maxHeartbeats 1000000 in
theorem p_less (x y z : V) (hx : isV x = true) (hy : isV y = true) (w : World) : Calls Tryz.prog 82 #[ar9 x y z] w (RetV w (vv (yes (decide (cmp x y < 0))))) := by
  obtain ⟨w1, w2, W1, W2, Z1, BB, A2, X2⟩ := open9 w x y z
  have XX := Lib.hid X2
  have AA := Lib.hid A2
  obtain ⟨-, c0, c1, c2, c3, c4, c5, c6, c7, c8⟩ := A2
  obtain ⟨e0, e1, e2, f0, f1, f2, hlt⟩ := X2
  obtain ⟨C, hC⟩ : ∃ C, C = cmp x y := ⟨_, rfl⟩
  have hc := fun W => pcompare_c x y W hx hy
  rw [← hC] at hc
  rw [← hC]
  have Hc := Lib.hid hc
  obtain ⟨Q, hQ⟩ : ∃ Q, Q = (decide (C < 0)) := ⟨_, rfl⟩
  rw [← hQ]
  have d := hQ.symm
  clear hc hC hQ
  go_enter Tryz.func82, Tryz.ntmps82
  go_wp2_with (first | rw [← W1.out, ← W2.out, Z1.out] | rw [← W1.out, ← W2.out])
  refine (Hc.out _).mono ?_
  rintro e w3 ⟨rfl, bq⟩
  have xq := XX.out.below bq XX.out.lt
  have BB := Lib.hid (BB.out.trans (bq.mono BB.out.size))
  have XX := Lib.hid xq
  have AA := Lib.hid (AA.out.below bq AA.out.lt)
  clear c0 c1 c2 c3 c4 c5 c6 c7 c8 e0 e1 e2 f0 f1 f2 hlt bq
  obtain ⟨-, c0, c1, c2, c3, c4, c5, c6, c7, c8⟩ := AA.out
  obtain ⟨e0, e1, e2, f0, f1, f2, hlt⟩ := xq
  go_wp2_with (fail)
  refine (truth_c Q _).mono ?_
  rintro e w4 ⟨rfl, bq⟩
  have xq := XX.out.below bq XX.out.lt
  have BB := Lib.hid (BB.out.trans (bq.mono BB.out.size))
  have XX := Lib.hid xq
  clear e0 e1 e2 f0 f1 f2 hlt bq c0 c1 c2 c3 c4 c5 c6 c7 c8
  obtain ⟨e0, e1, e2, f0, f1, f2, hlt⟩ := xq
  go_wp2
  change bodyPost _ _ _ _ _ (put3 w4 (w.heap.size + 1) _ _ _)
  have s0 := fun v0 v1 v2 => (put3_box XX.out v0 v1 v2).c0
  have s1 := fun v0 v1 v2 => (put3_box XX.out v0 v1 v2).c1
  have s2 := fun v0 v1 v2 => (put3_box XX.out v0 v1 v2).c2
  refine bodyPost_ret (v := vv (yes Q)) ?_ rfl ⟨rfl, BB.out.trans ((put3_below _ _ _ _ _).mono (by omega))⟩
  simp [results, Tryz.results82, go_sem, s0, s1, s2]

set_option maxRecDepth 100000 in
set_option maxHeartbeats 1000000 in
theorem p_not (x y z : V) (w : World) : Calls Tryz.prog 83 #[ar9 x y z] w (RetV w (vv (yes (x.n == 0)))) := by
  obtain ⟨w1, w2, W1, W2, Z1, BB, A2, X2⟩ := open9 w x y z
  have XX := Lib.hid X2
  have AA := Lib.hid A2
  obtain ⟨-, c0, c1, c2, c3, c4, c5, c6, c7, c8⟩ := A2
  obtain ⟨e0, e1, e2, f0, f1, f2, hlt⟩ := X2
  obtain ⟨Q, hQ⟩ : ∃ Q, Q = (x.n == 0) := ⟨_, rfl⟩
  rw [← hQ]
  have d := hQ.symm
  clear hQ
  go_enter Tryz.func83, Tryz.ntmps83
  go_wp2_with (first | rw [← W1.out, ← W2.out, Z1.out] | rw [← W1.out, ← W2.out])
  refine (truth_c Q _).mono ?_
  rintro e w3 ⟨rfl, bq⟩
  have xq := XX.out.below bq XX.out.lt
  have BB := Lib.hid (BB.out.trans (bq.mono BB.out.size))
  have XX := Lib.hid xq
  clear e0 e1 e2 f0 f1 f2 hlt bq c0 c1 c2 c3 c4 c5 c6 c7 c8
  obtain ⟨e0, e1, e2, f0, f1, f2, hlt⟩ := xq
  go_wp2
  change bodyPost _ _ _ _ _ (put3 w3 (w.heap.size + 1) _ _ _)
  have s0 := fun v0 v1 v2 => (put3_box XX.out v0 v1 v2).c0
  have s1 := fun v0 v1 v2 => (put3_box XX.out v0 v1 v2).c1
  have s2 := fun v0 v1 v2 => (put3_box XX.out v0 v1 v2).c2
  refine bodyPost_ret (v := vv (yes Q)) ?_ rfl ⟨rfl, BB.out.trans ((put3_below _ _ _ _ _).mono (by omega))⟩
  simp [results, Tryz.results83, go_sem, s0, s1, s2]

set_option maxRecDepth 100000 in
set_option maxHeartbeats 1000000 in
theorem p_choose (x y z : V) (w : World) : Calls Tryz.prog 84 #[ar9 x y z] w (RetV w (vv (if x.n ≠ 0 then y else z))) := by
  obtain ⟨w1, w2, W1, W2, Z1, BB, A2, X2⟩ := open9 w x y z
  have XX := Lib.hid X2
  have AA := Lib.hid A2
  obtain ⟨-, c0, c1, c2, c3, c4, c5, c6, c7, c8⟩ := A2
  obtain ⟨e0, e1, e2, f0, f1, f2, hlt⟩ := X2
  by_cases h0 : x.n = 0
  · rw [if_neg (by simpa using h0)]
    have d0 : (x.n == 0) = true := beq_iff_eq.2 h0
    have d1 : (x.n != 0) = false := by simp [h0]
    clear h0
    go_enter Tryz.func84, Tryz.ntmps84
    go_wp2_with (first | rw [← W1.out, ← W2.out, Z1.out] | rw [← W1.out, ← W2.out])
    change bodyPost _ _ _ _ _ (put3 w2 (w.heap.size + 1) _ _ _)
    have s0 := fun v0 v1 v2 => (put3_box XX.out v0 v1 v2).c0
    have s1 := fun v0 v1 v2 => (put3_box XX.out v0 v1 v2).c1
    have s2 := fun v0 v1 v2 => (put3_box XX.out v0 v1 v2).c2
    refine bodyPost_ret (v := vv z) ?_ rfl ⟨rfl, BB.out.trans ((put3_below _ _ _ _ _).mono (by omega))⟩
    simp [results, Tryz.results84, go_sem, s0, s1, s2]
  · rw [if_pos h0]
    have d0 : (x.n == 0) = false := beq_eq_false_iff_ne.2 h0
    have d1 : (x.n != 0) = true := by simp [h0]
    clear h0
    go_enter Tryz.func84, Tryz.ntmps84
    go_wp2_with (first | rw [← W1.out, ← W2.out, Z1.out] | rw [← W1.out, ← W2.out])
    change bodyPost _ _ _ _ _ (put3 w2 (w.heap.size + 1) _ _ _)
    have s0 := fun v0 v1 v2 => (put3_box XX.out v0 v1 v2).c0
    have s1 := fun v0 v1 v2 => (put3_box XX.out v0 v1 v2).c1
    have s2 := fun v0 v1 v2 => (put3_box XX.out v0 v1 v2).c2
    refine bodyPost_ret (v := vv y) ?_ rfl ⟨rfl, BB.out.trans ((put3_below _ _ _ _ _).mono (by omega))⟩
    simp [results, Tryz.results84, go_sem, s0, s1, s2]

end Go.Proofs.YtoalncojijmelaaGreatDoor
