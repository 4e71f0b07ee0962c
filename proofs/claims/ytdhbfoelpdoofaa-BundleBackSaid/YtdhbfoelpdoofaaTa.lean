/-
  Package varint (Size, Put), and the document's Put: what each call returns and leaves (for seats that do not hold all of varint).
-/
import Derived.Test.YtdhbfoelpdoofaaRows
import Derived.Test.YtdhbfoelpdoofaaBase
import Derived.Test.YtdhbfoelpdoofaaVm
namespace Go.Proofs.Ytdhbfoelpdoofaa
open Go.RowKit

theorem bty : U8 Try.prog 25 5 9 := ⟨Try.underlying25, Try.underlying5, Try.underlying9, by kernel_rfl⟩

set_option maxRecDepth 100000 in
/-- varint.Size -/
theorem size_c (n : Nat) (w : World) (h : n < 18446744073709551616) :
    Calls Try.prog 36 #[.int .u64 (n : Int)] w fun e w' => e = .returned (.int .i64 ((Vm.vb n).length : Int)) ∧ w = w' := by
  have hlen : (Vm.vb n).length ≤ 10 := Vm.vb_len_le 9 n (by have : (128 : Nat) ^ (9 + 1) = 1180591620717411303424 := by decide +kernel
                                                            omega)
  clear h
  obtain ⟨N, hN⟩ : ∃ N, N = (Vm.vb n).length := ⟨_, rfl⟩
  have hp := Vm.vb_pos n
  rw [← hN] at hlen hp ⊢
  have HN := Lib.hid hN; clear hN
  go_enter Try.func36, Try.ntmps36
  go_wp2
  go_loop [0, 3] (fun t s => ∃ m k : Nat, k + (Vm.vb m).length = N + 1 ∧ k ≤ N ∧ t = .int .u64 (m : Int) ∧ s = .int .i64 (k : Int)) (fun t _ => (intOf t).toNat)
  case atStart => exact ⟨n, 1, by rw [HN.out]; omega, hp, rfl, rfl⟩
  case round =>
    obtain ⟨m, k, hk, hk2, rfl, rfl⟩ := hrel
    have H := Lib.hid hk; clear hk
    by_cases hm : 128 ≤ m
    · go_wp2
      go_round
      case rel =>
        have h1 := H.out
        rw [Vm.vb_ge m hm, List.length_cons] at h1
        have h2 := Vm.vb_pos (m / 128)
        exact ⟨m / 128, k + 1, by omega, by omega, by go_num, by go_num⟩
      case measure => simp [intOf]; omega
    · go_wp2
      go_ret
      have h1 := H.out
      rw [Vm.vb_lt m (by omega)] at h1
      have h2 : k = N := by simp at h1; omega
      subst h2
      exact ⟨rfl, rfl⟩

/-- A call hands back a new row of bytes; nothing below 'base' has changed. -/
def RetB (base : Nat) (w : World) (l : List UInt8) (e : Ending) (w' : World) : Prop :=
  ∃ A c, e = .returned (.slice A l.length c) ∧ Own w' 5 base A c l ∧ Below base w w'

def AddRel (base : Nat) (w : World) (L : List UInt8) (o t : Value) (wr : World) : Prop :=
  ∃ A c l, ∃ m : Nat, o = .slice A l.length c ∧ t = .int .u64 (m : Int) ∧ Own wr 5 base A c l ∧ l ++ Vm.vb m = L ∧ Below base w wr

set_option maxRecDepth 100000 in
/-- varint.add -/
theorem add_c (A : Option Addr) (c base : Nat) (l : List UInt8) (n : Nat) (w : World) (hown : Own w 5 base A c l) (hb : base ≤ w.heap.size) (hs : l.length + (Vm.vb n).length ≤ 1000000) :
    Calls Try.prog 34 #[.slice A l.length c, .int .u64 (n : Int)] w (RetB base w (l ++ Vm.vb n)) := by
  obtain ⟨L, hL⟩ : ∃ L, L = l ++ Vm.vb n := ⟨_, rfl⟩
  have hLs : L.length ≤ 1000000 := by rw [hL, List.length_append]; exact hs
  rw [← hL]
  have HL := Lib.hid hL; clear hL hs
  go_enter Try.func34, Try.ntmps34
  go_wp2
  go_loopw [0, 1] (fun o t wr => AddRel base w L o t wr) (fun _ t _ => (intOf t).toNat)
  case atStart => exact ⟨A, c, l, n, rfl, rfl, hown, HL.out.symm, Below.refl _ _⟩
  case round =>
    obtain ⟨A1, c1, l1, m, rfl, rfl, hown1, hl1, hbel⟩ := hrel
    have hlen := congrArg List.length hl1
    rw [List.length_append] at hlen
    have hsz := hbel.size
    have hp := Vm.vb_pos m
    by_cases hm : 128 ≤ m
    · have HL1 := Lib.hid hl1; have Hlen := Lib.hid hlen; clear hl1 hlen
      have hll : l1.length ≤ 1000000 := by have := Hlen.out; omega
      obtain ⟨x, hx⟩ : ∃ x : UInt8, x = UInt8.ofNat (m % 128 + 128) := ⟨_, rfl⟩
      have Hx := Lib.hid hx; clear hx
      go_wp2_with (at_builtin; go_must (refine bty.wpApp rfl (.tmp 7) (.tmp 12) rfl (l := l1) rfl rfl (hown1.alloc _) (Rb.oneI _ _ _ x ?hz) ?hs1 ?hs2 ?_))
      case hz => rw [Hx.out, Vm.toNat_ofNat _ (by omega)]; omega
      case hs1 => simp; omega
      case hs2 => simp; omega
      intro A2 c2 w2 hown2 hbel2
      go_wp2
      go_roundw
      case rel =>
        refine ⟨A2, c2, l1 ++ [x], m / 128, by simp, by go_num, hown2, ?_, hbel.trans ((((Below.refl _ _).alloc (by omega) _).trans hbel2))⟩
        rw [← HL1.out, Vm.vb_ge m hm, ← Hx.out]; simp
      case measure => simp [intOf]; omega
    · have HL1 := Lib.hid hl1; have Hlen := Lib.hid hlen; clear hl1 hlen
      have hll : l1.length ≤ 1000000 := by have := Hlen.out; omega
      obtain ⟨x, hx⟩ : ∃ x : UInt8, x = UInt8.ofNat m := ⟨_, rfl⟩
      have Hx := Lib.hid hx; clear hx
      go_wp2_with (at_builtin; go_must (refine bty.wpApp rfl (.tmp 16) (.tmp 19) rfl (l := l1) rfl rfl (hown1.alloc _) (Rb.oneI _ _ _ x ?hz) ?hs1 ?hs2 ?_))
      case hz => rw [Hx.out, Vm.toNat_ofNat _ (by omega)]
      case hs1 => simp; omega
      case hs2 => simp; omega
      intro A2 c2 w2 hown2 hbel2
      go_wp2
      go_ret
      have e : l1 ++ [x] = L := by rw [← HL1.out, Vm.vb_lt m (by omega), Hx.out]
      have el : l1.length + 1 = L.length := by rw [← e]; simp
      rw [e] at hown2
      exact ⟨A2, c2, ret_len el, hown2, hbel.trans ((((Below.refl _ _).alloc (by omega) _).trans hbel2))⟩

set_option maxRecDepth 100000 in
/-- varint.grown -/
theorem grown_c (A : Option Addr) (n c : Nat) (l : List UInt8) (k : Nat) (w : World) (hr : Rb w w.heap.size A n c l) (hn : n ≤ 1000000) (hk : k ≤ 1000000) :
    Calls Try.prog 35 #[.slice A n c, .int .i64 (k : Int)] w (RetB w.heap.size w l) := by
  have hmk := bty.make w n (n : Int) ((n : Int) + (k : Int)) (n + k) rfl (by omega) (by omega) (by omega)
  have Hr := Lib.hid hr; clear hr
  go_enter Try.func35, Try.ntmps35
  go_wp2_with (with_reducible refine bty.wpCopy rfl (.tmp 13) (.tmp 14) rfl w.heap.size n (n + k) c w.heap.size A l rfl rfl (heap_alloc_new w _) (Hr.out.alloc (Nat.le_refl _) _) ?h1 ?h2 ?_)
  case h1 => omega
  case h2 => simp only [maxLen]; omega
  intro w2 hown hb
  go_wp2
  go_ret
  have hl := Hr.out.len
  exact ⟨_, _, ret_len hl.symm, hown, ((Below.refl _ _).alloc (Nat.le_refl _) _).trans hb⟩


set_option maxRecDepth 100000 in
/-- varint.Put -/
theorem put_c (A : Option Addr) (n c : Nat) (l : List UInt8) (N : Nat) (w : World) (hr : Rb w w.heap.size A n c l) (hn : n ≤ 900000) (hN : N < 18446744073709551616) :
    Calls Try.prog 20 #[.slice A n c, .int .u64 (N : Int)] w (RetB w.heap.size w (l ++ Vm.vb N)) := by
  have hlen : (Vm.vb N).length ≤ 10 := Vm.vb_len_le 9 N (by have : (128 : Nat) ^ (9 + 1) = 1180591620717411303424 := by decide +kernel
                                                            omega)
  have hl := hr.len
  have Hr := Lib.hid hr; have HN := Lib.hid hN; clear hr hN
  have Hl := Lib.hid hl; clear hl
  go_enter Try.func20, Try.ntmps20
  go_wp2_with fail
  refine (size_c N _ HN.out).mono ?_
  rintro e w' ⟨rfl, rfl⟩
  go_wp2_with fail
  refine (grown_c A n c l _ _ Hr.out (by omega) (by omega)).mono ?_
  rintro e w1 ⟨A1, c1, rfl, hown1, hb1⟩
  go_wp2_with fail
  refine (add_c A1 c1 w.heap.size l N _ hown1 hb1.size (by rw [Hl.out]; omega)).mono ?_
  rintro e w2 ⟨A2, c2, rfl, hown2, hb2⟩
  go_wp2
  go_ret
  exact ⟨A2, c2, ret_len (by simp), hown2, hb1.trans hb2⟩

def AddRel2 (base : Nat) (w : World) (L : List UInt8) (o t : Value) (wr : World) : Prop :=
  ∃ A c l, ∃ m : Nat, o = .slice A l.length c ∧ t = .int .u64 (m : Int) ∧ Own wr 5 base A c l ∧ (l ++ Vm.vb m = L ∧ U64 (m : Int)) ∧ Below base w wr

theorem div_u64 (m : Nat) (h : U64 (m : Int)) : IntKind.u64.wrap ((m : Int) / 128) = ((m / 128 : Nat) : Int) := by
  unfold U64 at h
  rw [IntKind.wrap_u64]
  omega

set_option maxRecDepth 100000 in
/-- the document's bytesOf -/
theorem bytesOf_c (n : Nat) (w : World) (hN : n < 18446744073709551616) :
    Calls Try.prog 37 #[.int .u64 (n : Int)] w (RetB w.heap.size w (Vm.vb n)) := by
  have hlen : (Vm.vb n).length ≤ 10 := Vm.vb_len_le 9 n (by have : (128 : Nat) ^ (9 + 1) = 1180591620717411303424 := by decide +kernel
                                                            omega)
  have HN := Lib.hid hN; clear hN
  obtain ⟨L, hL⟩ : ∃ L, L = Vm.vb n := ⟨_, rfl⟩
  rw [← hL] at hlen ⊢
  have HL := Lib.hid hL; clear hL
  go_enter Try.func37, Try.ntmps37
  go_wp2
  go_loopw [3, 0] (fun o t wr => AddRel2 w.heap.size w L o t wr) (fun _ t _ => (intOf t).toNat)
  case atStart => exact ⟨_, _, [], n, rfl, rfl, Own.made0 _ _, ⟨by simpa using HL.out.symm, by have := HN.out; unfold U64; omega⟩, (Below.refl _ _).alloc (Nat.le_refl _) _⟩
  case round =>
    obtain ⟨A1, c1, l1, m, rfl, rfl, hown1, ⟨hl1, hu⟩, hbel⟩ := hrel
    have hlen1 := congrArg List.length hl1
    rw [List.length_append] at hlen1
    have hsz := hbel.size
    by_cases hm : 128 ≤ m
    · have HL1 := Lib.hid hl1; have Hlen := Lib.hid hlen1; clear hl1 hlen1
      have hll : l1.length ≤ 10 := by have := Hlen.out; omega
      obtain ⟨x, hx⟩ : ∃ x : UInt8, x = UInt8.ofNat (m % 128 + 128) := ⟨_, rfl⟩
      have Hx := Lib.hid hx; clear hx
      go_wp2_with (at_builtin; go_must (refine bty.wpApp rfl (.tmp 7) (.tmp 12) rfl (l := l1) rfl rfl (hown1.alloc _) (Rb.oneI _ _ _ x ?hz) ?hs1 ?hs2 ?_))
      case hz => rw [Hx.out, Vm.toNat_ofNat _ (by omega)]; omega
      case hs1 => simp; omega
      case hs2 => simp; omega
      intro A2 c2 w2 hown2 hbel2
      go_wp2
      go_roundw
      case rel =>
        refine ⟨A2, c2, l1 ++ [x], m / 128, by simp, ?_, hown2, ⟨?_, ?_⟩, hbel.trans ((((Below.refl _ _).alloc (by omega) _).trans hbel2))⟩
        · rw [div_u64 m hu]
        · rw [← HL1.out, Vm.vb_ge m hm, ← Hx.out]; simp
        · unfold U64 at hu ⊢; omega
      case measure => simp only [intOf]; rw [div_u64 m hu]; omega
    · have HL1 := Lib.hid hl1; have Hlen := Lib.hid hlen1; clear hl1 hlen1
      have hll : l1.length ≤ 10 := by have := Hlen.out; omega
      obtain ⟨x, hx⟩ : ∃ x : UInt8, x = UInt8.ofNat m := ⟨_, rfl⟩
      have Hx := Lib.hid hx; clear hx
      go_wp2_with (at_builtin; go_must (refine bty.wpApp rfl (.tmp 16) (.tmp 19) rfl (l := l1) rfl rfl (hown1.alloc _) (Rb.oneI _ _ _ x ?hz) ?hs1 ?hs2 ?_))
      case hz => rw [Hx.out, Vm.toNat_ofNat _ (by omega)]
      case hs1 => simp; omega
      case hs2 => simp; omega
      intro A2 c2 w2 hown2 hbel2
      go_wp2
      go_ret
      have e : l1 ++ [x] = L := by rw [← HL1.out, Vm.vb_lt m (by omega), Hx.out]
      have el : l1.length + 1 = L.length := by rw [← e]; simp
      rw [e] at hown2
      exact ⟨A2, c2, ret_len el, hown2, hbel.trans ((((Below.refl _ _).alloc (by omega) _).trans hbel2))⟩

set_option maxRecDepth 100000 in
/-- the document's Put -/
theorem rput_c (A : Option Addr) (n c : Nat) (l : List UInt8) (N : Nat) (w : World) (hr : Rb w w.heap.size A n c l) (hn : n ≤ 900000) (hN : N < 18446744073709551616) :
    Calls Try.prog 21 #[.slice A n c, .int .u64 (N : Int)] w (RetB w.heap.size w (l ++ Vm.vb N)) := by
  have hlen : (Vm.vb N).length ≤ 10 := Vm.vb_len_le 9 N (by have : (128 : Nat) ^ (9 + 1) = 1180591620717411303424 := by decide +kernel
                                                            omega)
  have hl := hr.len
  have Hr := Lib.hid hr; have HN := Lib.hid hN; clear hr hN
  have Hl := Lib.hid hl; clear hl
  go_enter Try.func21, Try.ntmps21
  go_wp2_with (at_builtin; go_must (refine bty.wpApp rfl (.tmp 6) (.tmp 7) rfl (l := []) (r := l) rfl rfl (Own.made0 _ _) (Hr.out.alloc (Nat.le_refl _) _) ?hs1 ?hs2 ?_))
  case hs1 => rw [Hl.out]; simp; omega
  case hs2 => simp
  intro A2 c2 w2 hown2 hb2
  have hb0 : Below w.heap.size w w2 := ((Below.refl _ _).alloc (Nat.le_refl _) _).trans hb2
  have hsz := hb0.size
  go_wp2_with fail
  refine (bytesOf_c N _ HN.out).mono ?_
  rintro e w3 ⟨A3, c3, rfl, hown3, hb3⟩
  have hsz3 := hb3.size
  go_wp2_with (at_builtin; go_must (refine bty.wpApp rfl (.tmp 9) (.tmp 11) rfl (l := l) (r := Vm.vb N) ?e1 rfl (hown2.keep hb3) hown3.rb ?hs3 ?hs4 ?_))
  case e1 => rfl
  case hs3 => rw [Hl.out]; omega
  case hs4 => omega
  intro A4 c4 w4 hown4 hb4
  go_wp2
  go_ret
  exact ⟨A4, c4, ret_len (by simp), hown4, (hb0.trans (hb3.mono hsz)).trans hb4⟩
end Go.Proofs.Ytdhbfoelpdoofaa
