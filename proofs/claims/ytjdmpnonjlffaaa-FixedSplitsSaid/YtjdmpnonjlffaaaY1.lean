/-
  fixed's small functions; the document's: what each call returns and leaves.
-/
import Derived.Test.YtjdmpnonjlffaaaPw
import Derived.Test.YtjdmpnonjlffaaaFx
import Derived.Lib.MinMax
namespace Go.Proofs.Ytjdmpnonjlffaaa
open Go.RowKit Go.Maps

theorem isw_c (k : Int) (o : Bool) (ho : o = decide (1 ≤ k ∧ k ≤ 1000)) (w : World) : Calls Try.prog 28 #[.int .i64 k] w fun e w' => e = .returned (.bool o) ∧ w = w' := by
  by_cases h1 : 1 ≤ k
  · by_cases h2 : k ≤ 1000
    · obtain rfl : o = true := by rw [ho]; simp; omega
      clear ho
      go_enter Try.func28, Try.ntmps28
      go_wp2
      go_ret
      exact ⟨rfl, rfl⟩
    · obtain rfl : o = false := by rw [ho]; simp; omega
      clear ho
      go_enter Try.func28, Try.ntmps28
      go_wp2
      go_ret
      exact ⟨rfl, rfl⟩
  · obtain rfl : o = false := by rw [ho]; simp; omega
    clear ho
    go_enter Try.func28, Try.ntmps28
    go_wp2
    go_ret
    exact ⟨rfl, rfl⟩
theorem is_c (k : Int) (o : Bool) (ho : o = decide (1 ≤ k ∧ k ≤ 1000)) (w : World) : Calls Try.prog 31 #[.int .i64 k] w fun e w' => e = .returned (.bool o) ∧ w = w' := by
  by_cases h1 : 1 ≤ k
  · by_cases h2 : k ≤ 1000
    · obtain rfl : o = true := by rw [ho]; simp; omega
      clear ho
      go_enter Try.func31, Try.ntmps31
      go_wp2
      go_ret
      exact ⟨rfl, rfl⟩
    · obtain rfl : o = false := by rw [ho]; simp; omega
      clear ho
      go_enter Try.func31, Try.ntmps31
      go_wp2
      go_ret
      exact ⟨rfl, rfl⟩
  · obtain rfl : o = false := by rw [ho]; simp; omega
    clear ho
    go_enter Try.func31, Try.ntmps31
    go_wp2
    go_ret
    exact ⟨rfl, rfl⟩

theorem tmod_nat (n k : Nat) : (n : Int).tmod (k : Int) = ((n % k : Nat) : Int) := by rw [Int.tmod_eq_emod_of_nonneg (by omega)]; rfl
theorem tdiv_nat (n k : Nat) : (n : Int).tdiv (k : Int) = ((n / k : Nat) : Int) := by rw [Int.tdiv_eq_ediv_of_nonneg (by omega)]; rfl
set_option maxRecDepth 100000 in
theorem vsize_c (A : Option Addr) (n c k : Nat) (w : World) (hn : n ≤ 1000000) (hk : 1 ≤ k) (hk2 : k ≤ 1000) : Calls Try.prog 29 #[.slice A n c, .int .i64 (k : Int)] w fun e w' => e = .returned (.int .i64 ((n / k * k : Nat) : Int)) ∧ w = w' := by
  have h0 : (k : Int) ≠ 0 := by omega
  have hm := tmod_nat n k
  have hv := Fx.vs_eq n k
  have hml := Nat.mod_le n k
  have hle := Fx.vs_le n k
  obtain ⟨m, hmm⟩ : ∃ m, m = n % k := ⟨_, rfl⟩
  obtain ⟨v, hvv⟩ : ∃ v, v = n / k * k := ⟨_, rfl⟩
  rw [← hmm] at hm hv hml
  rw [← hvv] at hv hle
  rw [← hvv]
  have hw : IntKind.i64.wrap ((m : Nat) : Int) = (m : Int) := IntWalk.i64_in _ (by omega)
  have hw2 : IntKind.i64.wrap ((n : Int) - (m : Int)) = (v : Int) := by rw [IntWalk.i64_in _ (by omega)]; omega
  have Hv := Lib.hid hv; clear hv hmm hvv
  go_enter Try.func29, Try.ntmps29
  go_wp2
  go_ret
  refine ⟨?_, rfl⟩
  have := Hv.out
  first | rfl | (congr 2; omega)
end Go.Proofs.Ytjdmpnonjlffaaa
