/-
  The document's figures, Figures.
-/
import Derived.Test.YtkkjgiejnblopaaDoorV5
namespace Go.Proofs.YtkkjgiejnblopaaDoor
open Go.RowKit Vl

theorem bty : U8 Tryd.prog 77 5 9 := ⟨Tryd.underlying77, Tryd.underlying5, Tryd.underlying9, by kernel_rfl⟩

set_option maxRecDepth 100000 in
set_option maxHeartbeats 1000000 in
theorem figures_c : ∀ (k n : Nat), n < 10 ^ (k + 1) → k ≤ 20 → n < 18446744073709551616 → ∀ w : World, Calls Tryd.prog 70 #[.int .u64 (n : Int)] w (RetV w (st (figs n))) := by
  intro k
  induction k with
  | zero =>
    intro n hn _ _ w
    have hn : n < 10 := by simpa using hn
    have hf := figs_small hn
    obtain ⟨x, hx⟩ : ∃ x, x = UInt8.ofNat (48 + n) := ⟨_, rfl⟩
    have hxn : x.toNat = 48 + n := by rw [hx]; exact dig_ok n hn
    rw [hf, ← hx]
    obtain ⟨w1, hw1⟩ : ∃ w1, w1 = w.alloc (.cells #[.int .u8 (48 + (n : Int))] 5) := ⟨_, rfl⟩
    have b1 : Below w.heap.size w w1 := by rw [hw1]; exact (Below.refl _ _).alloc (Nat.le_refl _) _
    have hr : Rb w1 (w.heap.size + 1) (some ⟨w.heap.size, 0, none⟩) 1 1 [x] := by rw [hw1]; exact Rb.oneI w _ _ x (by omega)
    have hc := bty.conv hr
    have W1 := Lib.hid hw1; have B1 := Lib.hid b1
    have e1 : (n : Int) % 10 = (n : Int) := by omega
    have e2 : IntKind.u64.wrap (48 + (n : Int)) = 48 + (n : Int) := IntWalk.u64_in _ (by omega)
    have e3 : IntKind.u8.wrap (48 + (n : Int)) = 48 + (n : Int) := IntWalk.u8_in _ (by omega)
    have d1 : decide ((n : Int) < 10) = true := by simp; omega
    have d2 : decide (n < 10) = true := decide_eq_true hn
    clear hf hx hxn hw1 b1 hr
    go_enter Tryd.func70, Tryd.ntmps70
    go_wp2_with (rw [← W1.out])
    go_ret
    exact ⟨rfl, B1.out⟩
  | succ k ih =>
    intro n hn hk hn64 w
    by_cases h10 : n < 10
    · exact ih n (Nat.lt_of_lt_of_le h10 (by rw [Nat.pow_succ]; have h := Nat.pow_pos (n := k) (show 0 < 10 by omega); omega)) (by omega) hn64 w
    · have hd : n / 10 < 10 ^ (k + 1) := by
        rw [Nat.pow_succ] at hn
        exact Nat.div_lt_of_lt_mul (by rw [Nat.mul_comm]; exact hn)
      have hf := figs_big h10
      have hDl := (digs_figs k (n / 10) hd).2.1
      obtain ⟨m, hm⟩ : ∃ m, m = n / 10 := ⟨_, rfl⟩
      rw [← hm] at hd hf hDl
      obtain ⟨x, hx⟩ : ∃ x, x = UInt8.ofNat (48 + n % 10) := ⟨_, rfl⟩
      have hxn : x.toNat = 48 + n % 10 := by rw [hx]; exact dig_ok _ (by omega)
      obtain ⟨D, hD⟩ : ∃ D, D = figs m := ⟨_, rfl⟩
      have hrec := fun W => ih m hd (by omega) (by omega) W
      rw [← hD] at hf hDl
      simp only [← hD] at hrec
      rw [hf, ← hx]
      obtain ⟨w1, hw1⟩ : ∃ w1, w1 = w.alloc (.cells #[.int .u8 (48 + (n : Int) % 10)] 5) := ⟨_, rfl⟩
      have b1 : Below w.heap.size w w1 := by rw [hw1]; exact (Below.refl _ _).alloc (Nat.le_refl _) _
      have hr : Rb w1 (w.heap.size + 1) (some ⟨w.heap.size, 0, none⟩) 1 1 [x] := by rw [hw1]; exact Rb.oneI w _ _ x (by omega)
      have hc := bty.conv hr
      have W1 := Lib.hid hw1; have B1 := Lib.hid b1; have Hrec := Lib.hid hrec
      have e2 : IntKind.u64.wrap (48 + (n : Int) % 10) = 48 + (n : Int) % 10 := IntWalk.u64_in _ (by omega)
      have e3 : IntKind.u8.wrap (48 + (n : Int) % 10) = 48 + (n : Int) % 10 := IntWalk.u8_in _ (by omega)
      have e4 : (n : Int) / 10 = (m : Int) := by omega
      have d1 : decide ((n : Int) < 10) = false := by simp; omega
      have d2 : decide (n < 10) = false := decide_eq_false h10
      have k1 : ¬ 9223372036854775807 < D.length + 1 := by omega
      clear hf hx hxn hw1 b1 hr hrec hD hm hd ih hn hDl
      go_enter Tryd.func70, Tryd.ntmps70
      go_wp2_with (rw [← W1.out])
      refine (Hrec.out w1).mono ?_
      rintro e w2 ⟨rfl, b2⟩
      have bb := B1.out.trans (b2.mono B1.out.size)
      clear b2 hc
      go_wp2
      go_ret
      refine ⟨?_, bb⟩
      first | rfl | simp
theorem pow20 : (10 : Nat) ^ (19 + 1) = 100000000000000000000 := by decide +kernel

set_option maxRecDepth 100000 in
set_option maxHeartbeats 1000000 in
theorem figuresI_c (n : Int) (hn : I n) (w : World) : Calls Tryd.prog 57 #[.int .i64 n] w (RetV w (st (figures n))) := by
  unfold I at hn
  by_cases h0 : n < 0
  · obtain ⟨m, hm⟩ : ∃ m, m = (-n).toNat := ⟨_, rfl⟩
    have hf : figures n = 45 :: figs m := by unfold figures; rw [if_pos h0, ← hm]
    have hrec := figures_c 19 m (by rw [pow20]; omega) (by omega) (by omega) w
    have hl := (digs_figs 19 m (by rw [pow20]; omega)).2.1
    obtain ⟨D, hD⟩ : ∃ D, D = figs m := ⟨_, rfl⟩
    rw [← hD] at hrec hf hl
    rw [hf]
    have d1 : decide (n < 0) = true := decide_eq_true h0
    have e1 : IntKind.u64.wrap n = 18446744073709551616 + n := by rw [IntKind.wrap_u64]; omega
    have e2 : IntKind.u64.wrap (0 - (18446744073709551616 + n)) = (m : Int) := by rw [IntKind.wrap_u64]; omega
    have e3 : IntKind.u64.wrap (-(18446744073709551616 + n)) = (m : Int) := by rw [IntKind.wrap_u64]; omega
    have k1 : ¬ 9223372036854775807 < 1 + D.length := by omega
    have k2 : ¬ 9223372036854775807 < D.length + 1 := by omega
    have Hrec := Lib.hid hrec
    clear hrec hf hl hD hm
    go_enter Tryd.func57, Tryd.ntmps57
    go_wp2_with fail
    refine Hrec.out.mono ?_
    rintro e w2 ⟨rfl, b2⟩
    go_wp2
    go_ret
    refine ⟨?_, b2⟩
    first | rfl | simp
  · obtain ⟨m, hm⟩ : ∃ m, m = n.toNat := ⟨_, rfl⟩
    have hf : figures n = figs m := by unfold figures; rw [if_neg h0, ← hm]
    have hrec := figures_c 19 m (by rw [pow20]; omega) (by omega) (by omega) w
    rw [hf]
    have d1 : decide (n < 0) = false := decide_eq_false h0
    have e1 : IntKind.u64.wrap n = (m : Int) := by rw [IntKind.wrap_u64]; omega
    have Hrec := Lib.hid hrec
    clear hrec hf hm
    go_enter Tryd.func57, Tryd.ntmps57
    go_wp2_with fail
    refine Hrec.out.mono ?_
    rintro e w2 ⟨rfl, b2⟩
    go_wp2
    go_ret
    exact ⟨rfl, b2⟩
end Go.Proofs.YtkkjgiejnblopaaDoor
