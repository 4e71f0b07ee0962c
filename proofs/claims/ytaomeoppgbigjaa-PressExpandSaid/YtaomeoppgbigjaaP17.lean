/-
  The live question of the statements of layer 3.
-/
import Derived.Test.YtaomeoppgbigjaaP15
import Derived.Test.YtaomeoppgbigjaaP7
import Derived.Lib.SlBytesConst
namespace Go.Proofs.Ytaomeoppgbigjaa
open Go.RowKit

/-- A constant's row of bytes. -/
theorem Rb.lit (w : World) (e : TypeId) (fz : Nat × Nat) (cs : Array Value) (l : List UInt8) (n : Nat) (h : cs.toList = bvs l) (hn : l.length = n) (hl : n ≤ 1000000) : Rb (w.alloc (.cells cs e fz)) (w.heap.size + 1) (some ⟨w.heap.size, 0, none⟩) n n l := by
  refine ⟨hn, Nat.le_refl _, by simp only [maxLen]; omega, fun _ => ⟨_, _, rfl, by omega, fun j x hx => ?_⟩⟩
  rw [cell_of_row (w.alloc (.cells cs e fz)) w.heap.size (0 + j) cs e fz (by show (w.heap.push _)[w.heap.size]? = _; simp), Nat.zero_add, ← Array.getElem?_toList, h]
  simp [bvs, hx]

def seven : List UInt8 := List.replicate 20 7
theorem best0 : (Pm.best seven 0).1 = 0 := by decide +kernel
theorem best1 : Pm.best seven 1 = (19, 1) := by decide +kernel
theorem press20 : Pm.pressS seven = [20, 0, 7, 31, 1] := by
  have h1 : Pm.pressGo seven 0 0 = Pm.pressGo seven 0 1 := Pm.pressGo_lit seven 0 0 (by decide +kernel) best0
  have h2 := Pm.pressGo_match seven 0 1 (by decide +kernel) (by rw [best1]; decide)
  rw [best1] at h2
  have h3 : Pm.pressGo seven (1 + 19) (1 + 19) = Pm.asB (seven.drop 20) := Pm.pressGo_at seven 20 20 (by decide +kernel)
  have h4 : seven.drop 20 = [] := by decide +kernel
  have h5 : (seven.take 1).drop 0 = [7] := by decide +kernel
  have h6 : Pm.asB [7] = [0, 7] := by
    rw [Pm.asB_ne [7] (by simp)]
    show Vm.vb 0 ++ ([7] ++ Pm.asB []) = _
    rw [Vm.vb_lt 0 (by omega), Pm.asB_nil]
    rfl
  unfold Pm.pressS
  rw [h1, h2]
  dsimp only
  rw [h3, h4, h5, h6, Pm.asB_nil]
  show Vm.vb 20 ++ ([0, 7] ++ (Vm.vb 31 ++ (Vm.vb 1 ++ []))) = _
  rw [Vm.vb_lt 20 (by omega), Vm.vb_lt 31 (by omega), Vm.vb_lt 1 (by omega)]
  rfl
theorem exp_nil : Pm.expS [] 9 = ([], 0, 0, 2) := by simp [Pm.expS, Vm.tk, Vm.dn_nil]

set_option maxRecDepth 100000 in
/-- the live question -/
theorem alive_c (w : World) : Calls Try.prog 8 #[] w fun e w' => e = .returned (.bool true) ∧ Below w.heap.size w w' := by
  have hex := fun W => expand_c none 0 0 [] 9 W (Rb.nil _ _) (by omega) (by unfold I64; omega) (fun S s h _ => by simp [Vm.tk, Vm.dn_nil] at h)
  rw [exp_nil] at hex
  dsimp only at hex
  have Hex := Lib.hid hex; clear hex
  have hpr := fun W A => press_c A 20 20 seven W
  rw [press20] at hpr
  have Hpr := Lib.hid hpr; clear hpr
  have hcv := Lib.run_convert_bytes_const (P := Try.prog) w 22 5 #[.int .u8 7, .int .u8 7, .int .u8 7, .int .u8 7, .int .u8 7, .int .u8 7, .int .u8 7, .int .u8 7, .int .u8 7, .int .u8 7, .int .u8 7, .int .u8 7, .int .u8 7, .int .u8 7, .int .u8 7, .int .u8 7, .int .u8 7, .int .u8 7, .int .u8 7, .int .u8 7] 20 20 Try.underlying22 Try.underlying5
  go_enter Try.func8, Try.ntmps8
  go_wp2_with fail
  refine (Hpr.out _ _ ((Rb.lit w _ _ _ seven 20 rfl rfl (by omega)).more (by simp)) (by omega)).mono ?_
  rintro e w1 ⟨A1, c1, rfl, hown1, hb1⟩
  have Hown := Lib.hid hown1; clear hown1
  go_wp2_with fail
  refine (Hex.out _).mono ?_
  rintro e w2 ⟨A2, c2, rfl, hown2, hb2⟩
  have hcv2 := bty.conv (rb_len (Hown.out.rb.below hb2) (m := 5) rfl)
  clear hown2
  go_wp2
  go_ret
  exact ⟨rfl, ((Below.refl _ _).alloc (Nat.le_refl _) _).trans ((hb1.mono (by simp)).trans (hb2.mono (by have := hb1.size; simp at this; omega)))⟩
end Go.Proofs.Ytaomeoppgbigjaa
