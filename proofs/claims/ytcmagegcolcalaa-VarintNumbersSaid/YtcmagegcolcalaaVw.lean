/-
  The functions of package varint (threshing), function by function: what each call returns and leaves.
-/
import Derived.Test.YtcmagegcolcalaaRows
import Derived.Test.YtcmagegcolcalaaBase
import Derived.Test.YtcmagegcolcalaaVm
namespace Go.Proofs.Ytcmagegcolcalaa
open Go.RowKit

theorem bty : U8 Try.prog 22 5 9 := ⟨Try.underlying22, Try.underlying5, Try.underlying9, by kernel_rfl⟩

set_option maxRecDepth 100000 in
/-- varint.Size -/
theorem size_c (n : Nat) (w : World) (h : n < 18446744073709551616) :
    Calls Try.prog 12 #[.int .u64 (n : Int)] w fun e w' => e = .returned (.int .i64 ((Vm.vb n).length : Int)) ∧ w = w' := by
  have hlen : (Vm.vb n).length ≤ 10 := Vm.vb_len_le 9 n (by have : (128 : Nat) ^ (9 + 1) = 1180591620717411303424 := by decide +kernel
                                                            omega)
  clear h
  obtain ⟨N, hN⟩ : ∃ N, N = (Vm.vb n).length := ⟨_, rfl⟩
  have hp := Vm.vb_pos n
  rw [← hN] at hlen hp ⊢
  have HN := Lib.hid hN; clear hN
  go_enter Try.func12, Try.ntmps12
  go_wp2
  go_loop [0, 3] (fun t s => ∃ m k : Nat, k + (Vm.vb m).length = N + 1 ∧ k ≤ N ∧ t = .int .u64 (m : Int) ∧ s = .int .i64 (k : Int)) (fun t _ => (intOf t).toNat)
  case atStart => exact ⟨n, 1, by rw [HN.out]; omega, hp, rfl, rfl⟩
  case round =>
    obtain ⟨m, k, hk, hk2, rfl, rfl⟩ := hrel
    have H := Lib.hid hk; clear hk
    by_cases hm : 128 ≤ m
    · go_wp2
      go_round
      case rel =>
        have h1 := H.out
        rw [Vm.vb_ge m hm, List.length_cons] at h1
        have h2 := Vm.vb_pos (m / 128)
        exact ⟨m / 128, k + 1, by omega, by omega, by go_num, by go_num⟩
      case measure => simp [intOf]; omega
    · go_wp2
      go_ret
      have h1 := H.out
      rw [Vm.vb_lt m (by omega)] at h1
      have h2 : k = N := by simp at h1; omega
      subst h2
      exact ⟨rfl, rfl⟩

set_option maxRecDepth 100000 in
/-- varint.Fold -/
theorem fold_c (n : Int) (w : World) (h : I64 n) :
    Calls Try.prog 13 #[.int .i64 n] w fun e w' => e = .returned (.int .u64 (Vm.fo n)) ∧ w = w' := by
  by_cases h0 : n < 0
  · go_enter Try.func13, Try.ntmps13
    go_wp2
    go_ret
    exact ⟨ret_int (by rw [Vm.fo_neg n h0]; unfold I64 at h; simp only [IntKind.wrap_u64, wrap64]; omega), rfl⟩
  · have h1 : 0 ≤ n := by omega
    go_enter Try.func13, Try.ntmps13
    go_wp2
    go_ret
    exact ⟨ret_int (by rw [Vm.fo_pos n h1]; unfold I64 at h; simp only [IntKind.wrap_u64]; omega), rfl⟩

set_option maxRecDepth 100000 in
/-- the document's Fold -/
theorem rfold_c (n : Int) (w : World) (h : I64 n) :
    Calls Try.prog 14 #[.int .i64 n] w fun e w' => e = .returned (.int .u64 (Vm.fo n)) ∧ w = w' := by
  by_cases h0 : n < 0
  · go_enter Try.func14, Try.ntmps14
    go_wp2
    go_ret
    exact ⟨ret_int (by rw [Vm.fo_neg n h0]; unfold I64 at h; simp only [IntKind.wrap_u64, wrap64]; omega), rfl⟩
  · have h1 : 0 ≤ n := by omega
    go_enter Try.func14, Try.ntmps14
    go_wp2
    go_ret
    exact ⟨ret_int (by rw [Vm.fo_pos n h1]; unfold I64 at h; simp only [IntKind.wrap_u64]; omega), rfl⟩

set_option maxRecDepth 100000 in
/-- varint.Unfold -/
theorem unfold_c (n : Int) (w : World) (h : U64 n) :
    Calls Try.prog 15 #[.int .u64 n] w fun e w' => e = .returned (.int .i64 (Vm.uf n)) ∧ w = w' := by
  have h0 : 0 ≤ n := h.1
  by_cases h1 : n % 2 = 1
  · go_enter Try.func15, Try.ntmps15
    go_wp2
    go_ret
    exact ⟨ret_int (by rw [Vm.uf_odd n h1]; unfold U64 at h; rw [Int.tdiv_eq_ediv_of_nonneg h0]; simp only [IntKind.wrap_u64, wrap64]; omega), rfl⟩
  · have h2 : n % 2 = 0 := by omega
    go_enter Try.func15, Try.ntmps15
    go_wp2
    go_ret
    exact ⟨ret_int (by rw [Vm.uf_even n h2]; unfold U64 at h; rw [Int.tdiv_eq_ediv_of_nonneg h0]; simp only [IntKind.wrap_u64, wrap64]; omega), rfl⟩

set_option maxRecDepth 100000 in
/-- the document's Unfold -/
theorem runfold_c (n : Int) (w : World) (h : U64 n) :
    Calls Try.prog 16 #[.int .u64 n] w fun e w' => e = .returned (.int .i64 (Vm.uf n)) ∧ w = w' := by
  have h0 : 0 ≤ n := h.1
  by_cases h1 : n % 2 = 1
  · go_enter Try.func16, Try.ntmps16
    go_wp2
    go_ret
    exact ⟨ret_int (by rw [Vm.uf_odd n h1]; unfold U64 at h; rw [Int.tdiv_eq_ediv_of_nonneg h0]; simp only [IntKind.wrap_u64, wrap64]; omega), rfl⟩
  · have h2 : n % 2 = 0 := by omega
    go_enter Try.func16, Try.ntmps16
    go_wp2
    go_ret
    exact ⟨ret_int (by rw [Vm.uf_even n h2]; unfold U64 at h; rw [Int.tdiv_eq_ediv_of_nonneg h0]; simp only [IntKind.wrap_u64, wrap64]; omega), rfl⟩

/-- A call hands back a new row of bytes; nothing below 'base' has changed. -/
def RetB (base : Nat) (w : World) (l : List UInt8) (e : Ending) (w' : World) : Prop :=
  ∃ A c, e = .returned (.slice A l.length c) ∧ Own w' 5 base A c l ∧ Below base w w'

def AddRel (base : Nat) (w : World) (L : List UInt8) (o t : Value) (wr : World) : Prop :=
  ∃ A c l, ∃ m : Nat, o = .slice A l.length c ∧ t = .int .u64 (m : Int) ∧ Own wr 5 base A c l ∧ l ++ Vm.vb m = L ∧ Below base w wr

set_option maxRecDepth 100000 in
/-- varint.add -/
theorem add_c (A : Option Addr) (c base : Nat) (l : List UInt8) (n : Nat) (w : World) (hown : Own w 5 base A c l) (hb : base ≤ w.heap.size) (hs : l.length + (Vm.vb n).length ≤ 1000000) :
    Calls Try.prog 27 #[.slice A l.length c, .int .u64 (n : Int)] w (RetB base w (l ++ Vm.vb n)) := by
  obtain ⟨L, hL⟩ : ∃ L, L = l ++ Vm.vb n := ⟨_, rfl⟩
  have hLs : L.length ≤ 1000000 := by rw [hL, List.length_append]; exact hs
  rw [← hL]
  have HL := Lib.hid hL; clear hL hs
  go_enter Try.func27, Try.ntmps27
  go_wp2
  go_loopw [0, 1] (fun o t wr => AddRel base w L o t wr) (fun _ t _ => (intOf t).toNat)
  case atStart => exact ⟨A, c, l, n, rfl, rfl, hown, HL.out.symm, Below.refl _ _⟩
  case round =>
    obtain ⟨A1, c1, l1, m, rfl, rfl, hown1, hl1, hbel⟩ := hrel
    have hlen := congrArg List.length hl1
    rw [List.length_append] at hlen
    have hsz := hbel.size
    have hp := Vm.vb_pos m
    by_cases hm : 128 ≤ m
    · have HL1 := Lib.hid hl1; have Hlen := Lib.hid hlen; clear hl1 hlen
      have hll : l1.length ≤ 1000000 := by have := Hlen.out; omega
      obtain ⟨x, hx⟩ : ∃ x : UInt8, x = UInt8.ofNat (m % 128 + 128) := ⟨_, rfl⟩
      have Hx := Lib.hid hx; clear hx
      go_wp2_with (at_builtin; go_must (refine bty.wpApp rfl (.tmp 7) (.tmp 12) rfl (l := l1) rfl rfl (hown1.alloc _) (Rb.oneI _ _ _ x ?hz) ?hs1 ?hs2 ?_))
      case hz => rw [Hx.out, Vm.toNat_ofNat _ (by omega)]; omega
      case hs1 => simp; omega
      case hs2 => simp; omega
      intro A2 c2 w2 hown2 hbel2
      go_wp2
      go_roundw
      case rel =>
        refine ⟨A2, c2, l1 ++ [x], m / 128, by simp, by go_num, hown2, ?_, hbel.trans ((((Below.refl _ _).alloc (by omega) _).trans hbel2))⟩
        rw [← HL1.out, Vm.vb_ge m hm, ← Hx.out]; simp
      case measure => simp [intOf]; omega
    · have HL1 := Lib.hid hl1; have Hlen := Lib.hid hlen; clear hl1 hlen
      have hll : l1.length ≤ 1000000 := by have := Hlen.out; omega
      obtain ⟨x, hx⟩ : ∃ x : UInt8, x = UInt8.ofNat m := ⟨_, rfl⟩
      have Hx := Lib.hid hx; clear hx
      go_wp2_with (at_builtin; go_must (refine bty.wpApp rfl (.tmp 16) (.tmp 19) rfl (l := l1) rfl rfl (hown1.alloc _) (Rb.oneI _ _ _ x ?hz) ?hs1 ?hs2 ?_))
      case hz => rw [Hx.out, Vm.toNat_ofNat _ (by omega)]
      case hs1 => simp; omega
      case hs2 => simp; omega
      intro A2 c2 w2 hown2 hbel2
      go_wp2
      go_ret
      have e : l1 ++ [x] = L := by rw [← HL1.out, Vm.vb_lt m (by omega), Hx.out]
      have el : l1.length + 1 = L.length := by rw [← e]; simp
      rw [e] at hown2
      exact ⟨A2, c2, ret_len el, hown2, hbel.trans ((((Below.refl _ _).alloc (by omega) _).trans hbel2))⟩

set_option maxRecDepth 100000 in
/-- varint.grown -/
theorem grown_c (A : Option Addr) (n c : Nat) (l : List UInt8) (k : Nat) (w : World) (hr : Rb w w.heap.size A n c l) (hn : n ≤ 1000000) (hk : k ≤ 1000000) :
    Calls Try.prog 28 #[.slice A n c, .int .i64 (k : Int)] w (RetB w.heap.size w l) := by
  have hmk := bty.make w n (n : Int) ((n : Int) + (k : Int)) (n + k) rfl (by omega) (by omega) (by omega)
  have Hr := Lib.hid hr; clear hr
  go_enter Try.func28, Try.ntmps28
  go_wp2_with (with_reducible refine bty.wpCopy rfl (.tmp 13) (.tmp 14) rfl w.heap.size n (n + k) c w.heap.size A l rfl rfl (heap_alloc_new w _) (Hr.out.alloc (Nat.le_refl _) _) ?h1 ?h2 ?_)
  case h1 => omega
  case h2 => simp only [maxLen]; omega
  intro w2 hown hb
  go_wp2
  go_ret
  have hl := Hr.out.len
  exact ⟨_, _, ret_len hl.symm, hown, ((Below.refl _ _).alloc (Nat.le_refl _) _).trans hb⟩
end Go.Proofs.Ytcmagegcolcalaa
