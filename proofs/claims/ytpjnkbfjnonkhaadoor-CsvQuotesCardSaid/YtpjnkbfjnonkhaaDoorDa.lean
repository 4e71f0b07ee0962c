/-
  The live question of threshinglaw06.
-/
import Derived.Test.YtpjnkbfjnonkhaaDoorD4
import Derived.Lib.SlBytesConst
namespace Go.Proofs.YtpjnkbfjnonkhaaDoor
open Go.RowKit

/-- A constant's row of bytes. -/
theorem Rb.lit (w : World) (e : TypeId) (fz : Nat × Nat) (cs : Array Value) (l : List UInt8) (n : Nat) (h : cs.toList = bvs l) (hn : l.length = n) (hl : n ≤ 1000000) : Rb (w.alloc (.cells cs e fz)) (w.heap.size + 1) (some ⟨w.heap.size, 0, none⟩) n n l := by
  refine ⟨hn, Nat.le_refl _, by simp only [maxLen]; omega, fun _ => ⟨_, _, rfl, by omega, fun j x hx => ?_⟩⟩
  rw [cell_of_row (w.alloc (.cells cs e fz)) w.heap.size (0 + j) cs e fz (by show (w.heap.push _)[w.heap.size]? = _; simp), Nat.zero_add, ← Array.getElem?_toList, h]
  simp [bvs, hx]

theorem ls_one : Cv.ls [34, 97, 44, 34, 34, 98, 34, 44, 99] = [(0, [[97, 44, 34, 98], [99]])] ∧ Cv.good [34, 97, 44, 34, 34, 98, 34, 44, 99] = 9 ∧ Cv.er [34, 97, 44, 34, 34, 98, 34, 44, 99] = 0 := by decide
theorem ls_two : Cv.ls [97, 10, 98, 34, 10] = [(0, [[97]])] ∧ Cv.good [97, 10, 98, 34, 10] = 2 ∧ Cv.er [97, 10, 98, 34, 10] = 3 := by decide

set_option maxRecDepth 100000 in
set_option maxHeartbeats 2000000 in
theorem alive_c (w : World) : Calls Tryd.prog 7 #[] w fun e w' => e = .returned (.bool true) ∧ Below w.heap.size w w' := by
  have hsc1 : ∀ W A n c, Rb W W.heap.size A n c [34, 97, 44, 34, 34, 98, 34, 44, 99] → n ≤ 1000000 → Calls Tryd.prog 8 #[.slice A n c] W fun e w' => ∃ A c, e = .returned (.tuple #[.slice A 1 c, .int .i64 9, .int .i64 0]) ∧ PL w' w'.heap.size A 1 c [(0, [[[97, 44, 34, 98], [99]]])] ∧ Below W.heap.size W w' := fun W A n c h hn => (scan_c A n c _ W h hn).mono fun e w' hp => by
    obtain ⟨A1, c1, he, hp, hb⟩ := hp
    rw [ls_one.1] at he hp
    rw [ls_one.2.1, ls_one.2.2] at he
    exact ⟨A1, c1, he, hp.keep (stays_weak fr_lt), hb⟩
  have hsc2 : ∀ W A n c, Rb W W.heap.size A n c [97, 10, 98, 34, 10] → n ≤ 1000000 → Calls Tryd.prog 8 #[.slice A n c] W fun e w' => ∃ A c, e = .returned (.tuple #[.slice A 1 c, .int .i64 2, .int .i64 3]) ∧ Below W.heap.size W w' := fun W A n c h hn => (scan_c A n c _ W h hn).mono fun e w' hp => by
    obtain ⟨A1, c1, he, _, hb⟩ := hp
    rw [ls_two.1, ls_two.2.1, ls_two.2.2] at he
    exact ⟨A1, c1, he, hb⟩
  have Hsc1 := Lib.hid hsc1; have Hsc2 := Lib.hid hsc2; clear hsc1 hsc2
  have hcv := Lib.run_convert_bytes_const (P := Tryd.prog) w 22 5 #[.int .u8 34, .int .u8 97, .int .u8 44, .int .u8 34, .int .u8 34, .int .u8 98, .int .u8 34, .int .u8 44, .int .u8 99] 9 9 Tryd.underlying22 Tryd.underlying5
  go_enter Tryd.func7, Tryd.ntmps7
  go_wp2_with fail
  refine (Hsc1.out _ _ _ _ ((Rb.lit w _ _ _ [34, 97, 44, 34, 34, 98, 34, 44, 99] 9 rfl rfl (by omega)).more (by simp)) (by omega)).mono ?_
  rintro e w1 ⟨A1, c1, rfl, hp1, hb1⟩
  have z1 := hb1.size
  have Hp1 := Lib.hid hp1; clear hp1
  have hcv2 := Lib.run_convert_bytes_const (P := Tryd.prog) w1 22 5 #[.int .u8 97, .int .u8 10, .int .u8 98, .int .u8 34, .int .u8 10] 5 5 Tryd.underlying22 Tryd.underlying5
  go_wp2_with fail
  refine (Hsc2.out _ _ _ _ ((Rb.lit w1 _ _ _ [97, 10, 98, 34, 10] 5 rfl rfl (by omega)).more (by simp)) (by omega)).mono ?_
  rintro e w2 ⟨A2, c2, rfl, hb2⟩
  have z2 := hb2.size
  have b2 : Below w1.heap.size w1 w2 := ((Below.refl _ _).alloc (Nat.le_refl _) _).trans (hb2.mono (by simp))
  have bz : Below w.heap.size w w2 := (((Below.refl _ _).alloc (Nat.le_refl _) _).trans (hb1.mono (by simp))).trans (b2.mono (by simp at z1; omega))
  obtain ⟨b, off, p, D, m, d, rfl, hS, hc1, hc2, hx, hl⟩ := (Hp1.out.below b2).at_ (k := 0) (by omega)
  obtain rfl : p = (0, [[[97, 44, 34, 98], [99]]]) := by simpa using hx.symm
  have hl' : RL w2 w1.heap.size D m d [[[97, 44, 34, 98], [99]]] := hl
  have hm := hl'.len
  simp only [List.length_cons, List.length_nil, Nat.zero_add] at hm
  subst hm
  obtain ⟨b3, o3, D3, m3, d3, r3, rfl, hb3, hc3, hx3, _, hr3⟩ := hl'.at_ (k := 0) (by omega)
  obtain rfl : r3 = [[97, 44, 34, 98], [99]] := by simpa using hx3.symm
  have hm3 := lvs_num hr3
  simp only [List.length_cons, List.length_nil, Nat.zero_add] at hm3
  subst hm3
  obtain ⟨b4, o4, x4, rfl, hb4, hc4, hx4, _⟩ := lvs_at hr3 (k := 0) (by omega)
  obtain rfl : x4 = [97, 44, 34, 98] := by simpa using hx4.symm
  rw [Nat.zero_mul, Nat.add_zero] at hc1 hc2
  rw [Nat.add_zero] at hc3 hc4
  clear hl hl' hr3 hx hx3 hx4 hc1
  go_wp2
  go_ret
  exact ⟨rfl, bz⟩
end Go.Proofs.YtpjnkbfjnonkhaaDoor
