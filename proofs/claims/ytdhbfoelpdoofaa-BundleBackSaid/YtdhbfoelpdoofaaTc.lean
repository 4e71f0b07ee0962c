/-
  varint.Take: what the call returns and leaves.
-/
import Derived.Test.YtdhbfoelpdoofaaTb
namespace Go.Proofs.Ytdhbfoelpdoofaa
open Go.RowKit

theorem number_ok (A : Option Addr) (n c B : Nat) (l : List UInt8) (w : World) (hr : Rb w B A n c l) (hn : n ≤ 1000000) (a s : Nat) (h : Vm.tk l = (a, s, 0)) :
    Calls Try.prog 51 #[.slice A n c] w fun e w' => e = .returned (.tuple #[.int .u64 (a : Int), .int .i64 (s : Int), .int .i64 0]) ∧ w = w' :=
  (number_c A n c B l w hr hn).mono fun e w' ⟨he, hw⟩ => ⟨by rw [he, h]; rfl, hw⟩
theorem number_err (A : Option Addr) (n c B : Nat) (l : List UInt8) (w : World) (hr : Rb w B A n c l) (hn : n ≤ 1000000) (x : Nat) (h : Vm.tk l = (0, 0, x)) :
    Calls Try.prog 51 #[.slice A n c] w fun e w' => e = .returned (.tuple #[.int .u64 0, .int .i64 0, .int .i64 (x : Int)]) ∧ w = w' :=
  (number_c A n c B l w hr hn).mono fun e w' ⟨he, hw⟩ => ⟨by rw [he, h]; rfl, hw⟩

theorem ret3_len {u v : Value} {A : Option Addr} {c n m : Nat} (h : n = m) : Ending.returned (.tuple #[u, .slice A n c, v]) = .returned (.tuple #[u, .slice A m c, v]) := by rw [h]

/-- A number is there, or an error. -/
theorem tk_cases (l : List UInt8) : (∃ a s, Vm.tk l = (a, s, 0) ∧ a < 18446744073709551616 ∧ s ≤ l.length ∧ s ≤ 10) ∨ (∃ x, Vm.tk l = (0, 0, x) ∧ (x = 2 ∨ x = 3)) := by
  have hs := Vm.tk_size l
  rcases h : Vm.tk l with ⟨a, s, x⟩
  rw [h] at hs
  by_cases h0 : x = 0
  · subst h0
    exact .inl ⟨a, s, rfl, hs.2.2, hs.1, hs.2.1⟩
  · have h1 := Vm.tk_err l (by rw [h]; exact h0)
    have h2 := Vm.tk_kinds l
    rw [h] at h1 h2
    obtain ⟨rfl, rfl⟩ : a = 0 ∧ s = 0 := h1
    exact .inr ⟨x, rfl, by simpa [h0] using h2⟩

/-- What Take comes to: number, rest, error. -/
def takeS (l : List UInt8) : Nat × List UInt8 × Nat := if (Vm.tk l).2.2 = 0 then ((Vm.tk l).1, l.drop (Vm.tk l).2.1, 0) else (0, [], (Vm.tk l).2.2)
theorem takeS_ok (l : List UInt8) (a s : Nat) (h : Vm.tk l = (a, s, 0)) : takeS l = (a, l.drop s, 0) := by unfold takeS; rw [h]; simp
theorem takeS_err (l : List UInt8) (x : Nat) (h : Vm.tk l = (0, 0, x)) (hx : x = 2 ∨ x = 3) : takeS l = (0, [], x) := by unfold takeS; rw [h]; simp; omega

/-- The three results: a number, new bytes, an error. -/
def RetT (base : Nat) (w : World) (t : Nat × List UInt8 × Nat) (e : Ending) (w' : World) : Prop :=
  ∃ A c, e = .returned (.tuple #[.int .u64 (t.1 : Int), .slice A t.2.1.length c, .int .i64 (t.2.2 : Int)]) ∧ Own w' 5 base A c t.2.1 ∧ Below base w w'

set_option maxRecDepth 100000 in
/-- varint.Take -/
theorem take_c (A : Option Addr) (n c : Nat) (l : List UInt8) (w : World) (hr : Rb w w.heap.size A n c l) (hn : n ≤ 1000000) :
    Calls Try.prog 48 #[.slice A n c] w (RetT w.heap.size w (takeS l)) := by
  have hl := hr.len
  rcases tk_cases l with ⟨a, s, htk, ha, hs, hs10⟩ | ⟨x, htk, hx⟩
  · obtain ⟨D, hD, hrD⟩ := bty.from_ hr (k := s) (by omega) (s : Int) rfl
    rw [takeS_ok l a s htk]
    have Hr := Lib.hid hr; have Htk := Lib.hid htk; have HrD := Lib.hid hrD; have Hl := Lib.hid hl; clear hr htk hrD hl
    go_enter Try.func48, Try.ntmps48
    go_wp2_with fail
    refine (number_ok A n c _ l _ Hr.out hn a s Htk.out).mono ?_
    rintro e w' ⟨rfl, rfl⟩
    go_wp2_with fail
    refine (grown_c D (n - s) (c - s) _ 0 _ HrD.out (by omega) (by omega)).mono ?_
    rintro e w1 ⟨A1, c1, rfl, hown1, hb1⟩
    go_wp2
    go_ret3
    exact ⟨A1, c1, ret3_len (by simp), hown1, hb1⟩
  · rw [takeS_err l x htk hx]
    have Hr := Lib.hid hr; have Htk := Lib.hid htk; clear hr htk hl
    have hx1 : 2 ≤ x := by omega
    clear hx
    go_enter Try.func48, Try.ntmps48
    go_wp2_with fail
    refine (number_err A n c _ l _ Hr.out hn x Htk.out).mono ?_
    rintro e w' ⟨rfl, rfl⟩
    go_wp2
    go_ret3
    exact ⟨none, 0, rfl, Own.nil _ _ _, Below.refl _ _⟩

end Go.Proofs.Ytdhbfoelpdoofaa
