/-
  The live question of threshinglaw04.
-/
import Derived.Test.YtihfejjkkgnneaaQ2
import Derived.Test.YtihfejjkkgnneaaR3
import Derived.Test.YtihfejjkkgnneaaWk
namespace Go.Proofs.Ytihfejjkkgnneaa
open Go.RowKit Go.Maps

theorem rty : Sl Try.prog 22 33 (.slice none 0 0) 1 24 := ⟨Try.underlying22, by kernel_rfl, rfl, by omega⟩

/-- A row of n empty texts. -/
def srow (n : Nat) : Array Value := (List.replicate n (Value.string ⟨#[]⟩)).toArray
/-- 'make' of a record of n empty fields. -/
theorem make_rec (w : World) (n : Nat) (L : Int) (hL : L = (n : Int)) (hn : n ≤ 1000) :
    (Instr.makeSlice 33 (.int .i64 L) (.int .i64 L)).run Try.prog w = .ok (.slice (some ⟨w.heap.size, 0, none⟩) n n) (w.alloc (.cells (srow n) 9)) := by
  subst hL
  obtain ⟨i, hi, hz0, hz1, hz2⟩ := info_parts sty.inf
  have h := run_make (P := Try.prog) w 33 9 i (.string ⟨#[]⟩) Try.underlying33 hi hz0 .i64 .i64 (n : Int) (n : Int) (by omega) (by omega) (by rw [hz2]; omega) (by omega)
  simp only [Int.toNat_natCast, hz1, Nat.mul_one] at h
  rw [h]
  have e1 : madeCells (Value.string ⟨#[]⟩).cells n = srow n := by
    apply Array.toList_inj.1
    have hcells : (Value.string ⟨#[]⟩).cells = #[.string ⟨#[]⟩] := rfl
    rw [hcells, toList_madeCells_one]
    simp [srow]
  rw [e1]

set_option maxRecDepth 100000 in
set_option maxHeartbeats 1000000 in
theorem alive_c (w : World) : Calls Try.prog 9 #[] w fun e w' => e = .returned (.bool true) ∧ Below w.heap.size w w' := by
  have hmk := fun w => make_rec w 51 51 rfl (by omega)
  go_enter Try.func9, Try.ntmps9
  go_wp2_with fail
  refine (words_c ⟨#[32, 97, 32, 32, 98, 99, 32]⟩ _ (by decide)).mono ?_
  have hw : Fm.words [32, 97, 32, 32, 98, 99, 32] = [[97], [98, 99]] := by decide
  rw [show (⟨#[32, 97, 32, 32, 98, 99, 32]⟩ : ByteArray).data.toList = [32, 97, 32, 32, 98, 99, 32] from rfl, hw]
  clear hw
  rintro e w1 ⟨A1, c1, rfl, hown1, hb1⟩
  obtain ⟨b, off, x, rfl, hbB, hcell, hx, _⟩ := lvs_at hown1.rc (k := 1) (by decide)
  obtain rfl : x = [98, 99] := by simpa using hx.symm
  clear hx
  have Hc := Lib.hid hcell; clear hcell
  have z1 := hb1.size
  obtain ⟨w2, hw2⟩ : ∃ w2, w2 = w1.alloc (.cells (srow 51) 9) := ⟨_, rfl⟩
  have hr2 : Rc 1 w2 w2.heap.size (some ⟨w1.heap.size, 0, none⟩) 51 51 (lvs (List.replicate 51 [])) := by
    rw [hw2]
    have h := (Oc.lit (z := 1) w1 9 (srow 51) 51 (by simp [srow]) (by simp [maxLen])).rc
    have e : (srow 51).toList = lvs (List.replicate 51 []) := by simp [srow, lvs]
    rw [e] at h
    exact h
  obtain ⟨w3, hw3⟩ : ∃ w3, w3 = w2.alloc (.cells #[.slice (some ⟨w1.heap.size, 0, none⟩) 51 51] 33) := ⟨_, rfl⟩
  have z2 : w2.heap.size = w1.heap.size + 1 := by rw [hw2]; simp
  have z3 : w3.heap.size = w1.heap.size + 2 := by rw [hw3, World.alloc]; simp [z2]
  have b13 : Below w1.heap.size w1 w3 := by rw [hw3, hw2]; exact ((Below.refl _ _).alloc (Nat.le_refl _) _).alloc (by simp) _
  have hl3 : RL w3 w3.heap.size (some ⟨w1.heap.size + 1, 0, none⟩) 1 1 [List.replicate 51 []] := by
    refine ⟨[.slice (some ⟨w1.heap.size, 0, none⟩) 51 51], ?_, Rrs.snoc (Rrs.nil _ _) ⟨_, _, _, rfl, ?_⟩⟩
    · have h := Rc.lit (z := 1) w2 33 #[.slice (some ⟨w1.heap.size, 0, none⟩) 51 51] 1 rfl (by simp [maxLen])
      rw [hw3]
      rw [z2] at h
      exact h.more (by simp [z2])
    · have h := hr2.alloc (Nat.le_refl _) (.cells #[.slice (some ⟨w1.heap.size, 0, none⟩) 51 51] 33)
      rw [← hw3] at h
      exact h.more (by omega)
  have W2 := Lib.hid hw2; have W3 := Lib.hid hw3; have L3 := Lib.hid hl3; have Z3 := Lib.hid z3
  clear hr2 hw2 hw3 hl3 z2 z3
  go_wp2_with fail
  rw [← W2.out, ← W3.out]
  refine (encode_c _ 1 1 w3.heap.size [List.replicate 51 []] _ L3.out (Nat.le_refl _) (by omega) (by have := enc_len [List.replicate 51 []] (by decide) (by decide); omega)).mono ?_
  rw [encS_err (by decide)]
  rintro e w4 ⟨A4, c4, rfl, hown4, hb4⟩
  have b14 : Below w1.heap.size w1 w4 := b13.trans (hb4.mono (by have := Z3.out; omega))
  have hc4 := (b14.cell (p := ⟨b, off + 1, none⟩) (show b < _ from hbB)).trans Hc.out
  have z4 := b14.size
  clear hown4 hb4
  obtain ⟨w5, hw5⟩ : ∃ w5, w5 = w4.alloc (.cells #[.string ⟨#[97, 9]⟩, .string ⟨#[98]⟩] 52) := ⟨_, rfl⟩
  have hp5 : RP w5 w5.heap.size (some ⟨w4.heap.size, 0, none⟩) 1 1 [([97, 9], [98])] := by
    have h := Rc.lit (z := 2) w4 52 #[.string ⟨#[97, 9]⟩, .string ⟨#[98]⟩] 1 rfl (by simp [maxLen])
    rw [hw5]
    exact h.more (by simp)
  have b45 : Below w4.heap.size w4 w5 := by rw [hw5]; exact (Below.refl _ _).alloc (Nat.le_refl _) _
  have W5 := Lib.hid hw5; have P5 := Lib.hid hp5; clear hw5 hp5
  have hlines : Fm.lines [([97, 9], [98])] = [97, 92, 116, 9, 98, 10] := by decide
  go_wp2_with fail
  rw [← W5.out]
  refine (lines_c _ 1 1 w5.heap.size [([97, 9], [98])] _ P5.out (Nat.le_refl _) (by omega) (by intro p hp; simp at hp; subst hp; decide) (by decide)).mono ?_
  rw [hlines]
  clear hlines
  rintro e w6 ⟨A6, c6, rfl, hown6, hb6⟩
  have b46 : Below w4.heap.size w4 w6 := b45.trans (hb6.mono b45.size)
  have hcv : (convert 23 9 (.slice A6 6 c6)).run Try.prog w6 = .ok (.string ⟨#[97, 92, 116, 9, 98, 10]⟩) w6 := bty.conv hown6.rb
  clear hown6 hc4
  go_wp2
  go_ret
  exact ⟨rfl, hb1.trans ((b14.trans (b46.mono (by omega))).mono (by omega))⟩
end Go.Proofs.Ytihfejjkkgnneaa
