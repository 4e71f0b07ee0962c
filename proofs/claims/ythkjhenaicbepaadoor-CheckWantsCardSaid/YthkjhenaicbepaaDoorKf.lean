/-
  The program's arity, decided, mayTake, resultOf; what they come to is what the document's Result is.
-/
import Derived.Test.YthkjhenaicbepaaDoorKe
import Derived.Test.YthkjhenaicbepaaDoorKd
namespace Go.Proofs.YthkjhenaicbepaaDoor
open Go.RowKit Vl Cd

def nz (a b c : Nat) : Nat := (if a = 0 then 0 else 1) + (if b = 0 then 0 else 1) + (if c = 0 then 0 else 1)
/-- The kind k, decided by the flags. -/
def dk (k : Nat) (L : List Bool) : Nat := if k = 3 then (if L.getLastD false then 2 else 1) else k
def kb (b : Bool) : Nat := if b then 2 else 1
def mt (a b c : Nat) (L : List Bool) : Bool := decide (L.length = nz a b c) && (List.range L.length).all fun i => kb (L.getD i false) == dk ([a, b, c].getD i 0) L

def ArRel (n0 n1 n2 : Nat) (c i : Value) : Prop :=
  (i = .int .i64 0 ∧ c = .int .i64 0) ∨ (i = .int .i64 1 ∧ c = .int .i64 (n0 : Int)) ∨ (i = .int .i64 2 ∧ c = .int .i64 ((n0 + n1 : Nat) : Int)) ∨ (i = .int .i64 3 ∧ c = .int .i64 ((n0 + n1 + n2 : Nat) : Int))
set_option maxRecDepth 100000 in
set_option maxHeartbeats 1000000 in
theorem parity_c (a b c r : Nat) (f : Value) (w : World) : Calls Tryd.prog 35 #[ov a b c r f] w (RetV w (.int .i64 (nz a b c : Int))) := by
  obtain ⟨w0, hw0⟩ : ∃ w0, w0 = w.alloc (.cells #[.int .u8 (a : Int), .int .u8 (b : Int), .int .u8 (c : Int), .int .u8 (r : Int), f] 66) := ⟨_, rfl⟩
  have b0 : Below w.heap.size w w0 := by rw [hw0]; exact (Below.refl _ _).alloc (Nat.le_refl _) _
  have c0 : w0.cell? ⟨w.heap.size, 0, none⟩ = some (.int .u8 (a : Int)) := by rw [hw0]; simp
  have c1 : w0.cell? ⟨w.heap.size, 1, none⟩ = some (.int .u8 (b : Int)) := by rw [hw0]; simp
  have c2 : w0.cell? ⟨w.heap.size, 2, none⟩ = some (.int .u8 (c : Int)) := by rw [hw0]; simp
  obtain ⟨n, hn⟩ : ∃ n, n = nz a b c := ⟨_, rfl⟩
  rw [← hn]
  unfold nz at hn
  obtain ⟨n0, h0⟩ : ∃ n0, n0 = if a = 0 then 0 else 1 := ⟨_, rfl⟩
  obtain ⟨n1, h1⟩ : ∃ n1, n1 = if b = 0 then 0 else 1 := ⟨_, rfl⟩
  obtain ⟨n2, h2⟩ : ∃ n2, n2 = if c = 0 then 0 else 1 := ⟨_, rfl⟩
  rw [← h0, ← h1, ← h2] at hn
  have k0 : n0 ≤ 1 := by rw [h0]; split <;> omega
  have k1 : n1 ≤ 1 := by rw [h1]; split <;> omega
  have k2 : n2 ≤ 1 := by rw [h2]; split <;> omega
  have x0 : ∀ W, (Instr.index 63 (.agg #[.int .u8 (a : Int), .int .u8 (b : Int), .int .u8 (c : Int)]) (.int .i64 0)).run Tryd.prog W = .ok (.int .u8 (a : Int)) W := fun W => by kernel_rfl
  have x1 : ∀ W, (Instr.index 63 (.agg #[.int .u8 (a : Int), .int .u8 (b : Int), .int .u8 (c : Int)]) (.int .i64 1)).run Tryd.prog W = .ok (.int .u8 (b : Int)) W := fun W => by kernel_rfl
  have x2 : ∀ W, (Instr.index 63 (.agg #[.int .u8 (a : Int), .int .u8 (b : Int), .int .u8 (c : Int)]) (.int .i64 2)).run Tryd.prog W = .ok (.int .u8 (c : Int)) W := fun W => by kernel_rfl
  have H0 := Lib.hid h0; have H1 := Lib.hid h1; have H2 := Lib.hid h2
  have W0 := Lib.hid hw0; have B0 := Lib.hid b0; have Hn := Lib.hid hn
  clear hw0 b0 hn h0 h1 h2
  go_enter Tryd.func35, Tryd.ntmps35
  go_wp2_with (rw [← W0.out])
  go_loop [3, 5, 8] (fun c _ i => ArRel n0 n1 n2 c i) (fun _ _ i => 3 - (intOf i).toNat)
  case atStart => exact .inl ⟨rfl, rfl⟩
  case round =>
    rcases hrel with ⟨rfl, rfl⟩ | ⟨rfl, rfl⟩ | ⟨rfl, rfl⟩ | ⟨rfl, rfl⟩
    · by_cases ha : a = 0
      · have d : ((a : Int) != 0) = false := by simp [ha]
        have hx := Lib.hid (H0.out.trans (if_pos ha))
        clear ha
        go_wp2
        go_round
        case rel => exact .inr (.inl ⟨rfl, by rw [hx.out]; simp <;> first | done | omega⟩)
        case measure => simp [intOf]
      · have d : ((a : Int) != 0) = true := by simp; omega
        have hx := Lib.hid (H0.out.trans (if_neg ha))
        clear ha
        go_wp2
        go_round
        case rel => exact .inr (.inl ⟨rfl, by rw [hx.out]; simp <;> first | done | omega⟩)
        case measure => simp [intOf]
    · have e0 : RowKit.wrap64 ((n0 : Int) + 1) = ((n0 + 1 : Nat) : Int) := by rw [← IntWalk.i64_left, IntWalk.i64_in _ (by omega)]; omega
      by_cases hb : b = 0
      · have d : ((b : Int) != 0) = false := by simp [hb]
        have hx := Lib.hid (H1.out.trans (if_pos hb))
        clear hb
        go_wp2
        go_round
        case rel => exact .inr (.inr (.inl ⟨rfl, by rw [hx.out]; simp <;> first | done | omega⟩))
        case measure => simp [intOf]
      · have d : ((b : Int) != 0) = true := by simp; omega
        have hx := Lib.hid (H1.out.trans (if_neg hb))
        clear hb
        go_wp2
        go_round
        case rel => exact .inr (.inr (.inl ⟨rfl, by rw [hx.out]; simp <;> first | done | omega⟩))
        case measure => simp [intOf]
    · have e0 : RowKit.wrap64 (((n0 + n1 : Nat) : Int) + 1) = ((n0 + n1 + 1 : Nat) : Int) := by rw [← IntWalk.i64_left, IntWalk.i64_in _ (by omega)]; omega
      by_cases hc : c = 0
      · have d : ((c : Int) != 0) = false := by simp [hc]
        have hx := Lib.hid (H2.out.trans (if_pos hc))
        clear hc
        go_wp2
        go_round
        case rel => exact .inr (.inr (.inr ⟨rfl, by rw [hx.out]; simp <;> first | done | omega⟩))
        case measure => simp [intOf]
      · have d : ((c : Int) != 0) = true := by simp; omega
        have hx := Lib.hid (H2.out.trans (if_neg hc))
        clear hc
        go_wp2
        go_round
        case rel => exact .inr (.inr (.inr ⟨rfl, by rw [hx.out]; simp <;> first | done | omega⟩))
        case measure => simp [intOf]
    · go_wp2
      go_ret
      exact ⟨by rw [Hn.out]; simp, B0.out⟩

theorem lvb_bit {w : World} {B n c : Nat} {A : Option Addr} {L : List Bool} (h : Rc 1 w B A n c (lvb L)) : L.length = n := lvb_len1 h
set_option maxRecDepth 100000 in
set_option maxHeartbeats 1000000 in
theorem decided_c (k : Nat) (A : Option Addr) (n c B : Nat) (L : List Bool) (w : World) (hr : Rc 1 w B A n c (lvb L)) (hn : n ≤ 1000000) (h0 : 0 < n) :
    Calls Tryd.prog 57 #[.int .u8 (k : Int), .slice A n c] w fun e w' => e = .returned (.int .u8 (dk k L : Int)) ∧ w' = w := by
  obtain ⟨D, hD⟩ : ∃ D, D = dk k L := ⟨_, rfl⟩
  rw [← hD]
  unfold dk at hD
  by_cases h3 : k = 3
  · subst h3
    rw [if_pos rfl] at hD
    have hl := lvb_len1 hr
    obtain ⟨b, o, q, rfl, hb, hc, hq⟩ := lvb_at hr (k := n - 1) (by omega)
    have hlast : L.getLastD false = q := by
      rw [List.getLastD_eq_getLast?, List.getLast?_eq_getElem?, hl, hq]; rfl
    rw [hlast] at hD
    have hk := fun W => kindOf_c q W
    rw [show ((if q then 2 else 1 : Int)) = (D : Int) by rw [hD]; cases q <;> rfl] at hk
    have Hk := Lib.hid hk
    have e2 : n - 1 < n := by omega
    clear hq hlast hD hl hr hk
    go_enter Tryd.func57, Tryd.ntmps57
    go_wp2_with fail
    refine (Hk.out _).mono ?_
    rintro e w2 ⟨rfl, rfl⟩
    go_wp2
    go_ret
    exact ⟨rfl, rfl⟩
  · rw [if_neg h3] at hD
    subst hD
    have d : ((D : Int) == 3) = false := by simp; omega
    clear h3
    go_enter Tryd.func57, Tryd.ntmps57
    go_wp2
    go_ret
    exact ⟨rfl, rfl⟩
end Go.Proofs.YthkjhenaicbepaaDoor
