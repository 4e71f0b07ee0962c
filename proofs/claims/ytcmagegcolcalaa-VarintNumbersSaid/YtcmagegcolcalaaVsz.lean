/-
  The walk of the law VarintSizes.
-/
import Derived.Test.YtcmagegcolcalaaVa
namespace Go.Proofs.Ytcmagegcolcalaa
open Go.RowKit

theorem takePairLit (w : World) (A : Option Addr) (n c : Nat) (l : List UInt8) (most : Int) (k v y : List UInt8) (x : Nat) (hr : Rb w w.heap.size A n c l) (hn : n ≤ 1000000) (hm : I64 most) (h : tpairS l most = ((k, v), y, x)) :
    Calls Try.prog 21 #[.slice A n c, .int .i64 most] w (RetP w.heap.size w ((k, v), y, x)) := by
  have h' := takePair_c A n c l most w hr hn hm
  rw [h] at h'
  exact h'

theorem putNil (n : Nat) (w : World) (hN : n < 18446744073709551616) : Calls Try.prog 10 #[.slice none 0 0, .int .u64 (n : Int)] w (RetB w.heap.size w (Vm.vb n)) :=
  put_c none 0 0 [] n w (Rb.nil _ _) (by omega) hN

set_option maxRecDepth 100000 in
set_option maxHeartbeats 1600000 in
theorem varintSizes_walk (a b k : Int) (w : World) (ha : U64 a) (hb : U64 b) (hk : I64 k) :
    Calls Try.prog 8 #[.int .u64 a, .int .u64 b, .int .i64 k] w fun e w' => e = .returned (.bool true) ∧ Below w.heap.size w w' := by
  obtain ⟨n, rfl⟩ := Int.eq_ofNat_of_zero_le ha.1
  obtain ⟨m, rfl⟩ := Int.eq_ofNat_of_zero_le hb.1
  have hn : n < 18446744073709551616 := by have := ha.2; omega
  have hm : m < 18446744073709551616 := by have := hb.2; omega
  have e128 : (128 : Nat) ^ (9 + 1) = 1180591620717411303424 := by decide +kernel
  have hnl := Vm.vb_len_le 9 n (by omega)
  have hn1 := Vm.vb_pos n
  have hml := Vm.vb_len_le 9 m (by omega)
  have hmono : m ≤ n → (Vm.vb m).length ≤ (Vm.vb n).length := Vm.vb_len_mono n n m (Nat.le_refl _)
  have Hn := Lib.hid hn; have Hm := Lib.hid hm; have Hk := Lib.hid hk
  clear hn hm hk ha hb e128
  obtain ⟨x, hx⟩ : ∃ x, x = (Vm.vb n).length := ⟨_, rfl⟩
  obtain ⟨y, hy⟩ : ∃ y, y = (Vm.vb m).length := ⟨_, rfl⟩
  have size1 : ∀ W : World, Calls Try.prog 12 #[.int .u64 (n : Int)] W fun e w' => e = .returned (.int .i64 (x : Int)) ∧ W = w' := fun W => by rw [hx]; exact size_c n W Hn.out
  have size2 : ∀ W : World, Calls Try.prog 12 #[.int .u64 (m : Int)] W fun e w' => e = .returned (.int .i64 (y : Int)) ∧ W = w' := fun W => by rw [hy]; exact size_c m W Hm.out
  rw [← hx] at hnl hn1 hmono
  rw [← hy] at hml hmono
  have Hx := Lib.hid hx; clear hx hy
  have S1 := Lib.hid size1; have S2 := Lib.hid size2; clear size1 size2
  have tests : (x < y ∧ n < m) ∨ y ≤ x := by omega
  clear hmono
  have tail : ∀ W : World, Calls Try.prog 10 #[.slice none 0 0, .int .u64 (n : Int)] W fun e w' => (∃ A c, e = .returned (.slice A x c)) ∧ Below W.heap.size W w' := fun W =>
    (putNil n W Hn.out).mono fun e w' ⟨A, c, he, _, hb⟩ => ⟨⟨A, c, by rw [he, Hx.out]⟩, hb⟩
  have T := Lib.hid tail; clear tail
  have hfo : -1000 ≤ k → k ≤ 1000 → Vm.fo k ≤ 2000 := fun h3 h4 => by unfold Vm.fo; split <;> omega
  rcases tests with ⟨h1, h2⟩ | h1
  all_goals
    rcases (show k < -1000 ∨ 1000 < k ∨ (-1000 ≤ k ∧ k ≤ 1000) by omega) with h3 | h3 | ⟨h3, h4⟩
    · clear hfo
      go_enter Try.func8, Try.ntmps8
      go_wp2_with fail
      refine (S1.out _).mono ?_
      rintro e w' ⟨rfl, rfl⟩
      go_wp2_with fail
      refine (S2.out _).mono ?_
      rintro e w' ⟨rfl, rfl⟩
      go_wp2_with fail
      refine (T.out _).mono ?_
      rintro e w1 ⟨⟨A, c, rfl⟩, hb1⟩
      have hz1 := hb1.size
      go_wp2_with fail
      refine (alive_c _).mono ?_
      rintro e w2 ⟨rfl, hb2⟩
      go_wp2
      go_ret
      refine ⟨?_, hb1.trans (hb2.mono hz1)⟩
      simp
    · clear hfo
      go_enter Try.func8, Try.ntmps8
      go_wp2_with fail
      refine (S1.out _).mono ?_
      rintro e w' ⟨rfl, rfl⟩
      go_wp2_with fail
      refine (S2.out _).mono ?_
      rintro e w' ⟨rfl, rfl⟩
      go_wp2_with fail
      refine (T.out _).mono ?_
      rintro e w1 ⟨⟨A, c, rfl⟩, hb1⟩
      have hz1 := hb1.size
      go_wp2_with fail
      refine (alive_c _).mono ?_
      rintro e w2 ⟨rfl, hb2⟩
      go_wp2
      go_ret
      refine ⟨?_, hb1.trans (hb2.mono hz1)⟩
      simp
    · have h5 := hfo h3 h4
      clear hfo
      go_enter Try.func8, Try.ntmps8
      go_wp2_with fail
      refine (S1.out _).mono ?_
      rintro e w' ⟨rfl, rfl⟩
      go_wp2_with fail
      refine (S2.out _).mono ?_
      rintro e w' ⟨rfl, rfl⟩
      go_wp2_with fail
      refine (T.out _).mono ?_
      rintro e w1 ⟨⟨A, c, rfl⟩, hb1⟩
      have hz1 := hb1.size
      go_wp2_with fail
      refine (alive_c _).mono ?_
      rintro e w2 ⟨rfl, hb2⟩
      go_wp2_with fail
      refine (fold_c k _ Hk.out).mono ?_
      rintro e w' ⟨rfl, rfl⟩
      go_wp2
      go_ret
      refine ⟨?_, hb1.trans (hb2.mono hz1)⟩
      simp
end Go.Proofs.Ytcmagegcolcalaa
