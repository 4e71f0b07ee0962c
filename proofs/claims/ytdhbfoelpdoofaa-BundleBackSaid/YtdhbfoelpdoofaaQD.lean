/-
  alive, the live question.
-/
import Derived.Test.YtdhbfoelpdoofaaQB
import Derived.Test.YtdhbfoelpdoofaaQ8
namespace Go.Proofs.Ytdhbfoelpdoofaa
open Go.RowKit

/-- A literal of two records of two texts: three new blocks. -/
theorem twos_lit (w : World) (a b c d : List UInt8) (te tr : TypeId) (w1 w2 w3 : World) (h1 : w1 = w.alloc (.cells #[.string ⟨a.toArray⟩, .string ⟨b.toArray⟩] te)) (h2 : w2 = w1.alloc (.cells #[.string ⟨c.toArray⟩, .string ⟨d.toArray⟩] te))
    (h3 : w3 = w2.alloc (.cells #[.slice (some ⟨w.heap.size, 0, none⟩) 2 2, .slice (some ⟨w.heap.size + 1, 0, none⟩) 2 2] tr)) :
    Below w.heap.size w w3 ∧ RL w3 w3.heap.size (some ⟨w.heap.size + 2, 0, none⟩) 2 2 [[a, b], [c, d]] := by
  have z1 : w1.heap.size = w.heap.size + 1 := by rw [h1]; simp
  have z2 : w2.heap.size = w.heap.size + 2 := by rw [h2]; simp [z1]
  have z3 : w3.heap.size = w.heap.size + 3 := by rw [h3]; simp [z2]
  have b1 : Below w.heap.size w w1 := by rw [h1]; exact (Below.refl _ _).alloc (Nat.le_refl _) _
  have b2 : Below w1.heap.size w1 w2 := by rw [h2]; exact (Below.refl _ _).alloc (Nat.le_refl _) _
  have b3 : Below w2.heap.size w2 w3 := by rw [h3]; exact (Below.refl _ _).alloc (Nat.le_refl _) _
  have r1 : Rc 1 w1 (w.heap.size + 1) (some ⟨w.heap.size, 0, none⟩) 2 2 (lvs [a, b]) := by
    rw [h1]; exact Rc.lit (z := 1) w te #[.string ⟨a.toArray⟩, .string ⟨b.toArray⟩] 2 rfl (by simp [maxLen])
  have r2 : Rc 1 w2 (w1.heap.size + 1) (some ⟨w1.heap.size, 0, none⟩) 2 2 (lvs [c, d]) := by
    rw [h2]; exact Rc.lit (z := 1) w1 te #[.string ⟨c.toArray⟩, .string ⟨d.toArray⟩] 2 rfl (by simp [maxLen])
  rw [z1] at r2
  have r3 : Rc 1 w3 (w2.heap.size + 1) (some ⟨w2.heap.size, 0, none⟩) 2 2 [.slice (some ⟨w.heap.size, 0, none⟩) 2 2, .slice (some ⟨w.heap.size + 1, 0, none⟩) 2 2] := by
    rw [h3]; exact Rc.lit (z := 1) w2 tr #[.slice (some ⟨w.heap.size, 0, none⟩) 2 2, .slice (some ⟨w.heap.size + 1, 0, none⟩) 2 2] 2 rfl (by simp [maxLen])
  rw [z2] at r3
  refine ⟨(b1.trans (b2.mono (by omega))).trans (b3.mono (by omega)), _, r3.more (by omega), ?_⟩
  have p1 : Rr w3 w3.heap.size (.slice (some ⟨w.heap.size, 0, none⟩) 2 2) [a, b] := ⟨_, _, _, rfl, ((r1.below (b2.mono (by omega))).below (b3.mono (by omega))).more (by omega)⟩
  have p2 : Rr w3 w3.heap.size (.slice (some ⟨w.heap.size + 1, 0, none⟩) 2 2) [c, d] := ⟨_, _, _, rfl, (r2.below (b3.mono (by omega))).more (by omega)⟩
  exact Rrs.snoc (Rrs.snoc (Rrs.nil _ _) p1) p2

def la : List Bm.Rec := [[[97], [120]], [[98], []]]
theorem la_may : Bm.mayB [] la = true := by decide
theorem la_fnd : Bm.fnd (Bm.wr la) [97] = ([120], 0) := by
  obtain ⟨P, _, _, h⟩ := Bm.write_back la (by decide) la_may
  obtain ⟨a, b, h1, h2⟩ := h 0 [[97], [120]] rfl
  injection h1 with h1 h3
  injection h3 with h3 _
  subst h1 h3
  exact h2
theorem la_no : Bm.fnd (Bm.wr la) [99] = ([], 6) := by
  obtain ⟨h, _⟩ := Bm.dir_back la (by decide) la_may
  refine Bm.fnd_no h ?_
  simp [la, Bm.mkD, Bm.fi, Bm.nm]
theorem la_len : (Bm.wr la).length ≤ 10000 := by
  obtain ⟨h1, h2, h3⟩ := Bm.wr_len la (by decide) la_may
  have h4 : la.length = 2 := rfl
  have h5 := Bm.sl_len (Bm.ents la)
  have h6 := Bm.vb3 (Bm.sl (Bm.ents la)).length (by omega)
  omega

set_option maxRecDepth 100000 in
set_option maxHeartbeats 4000000 in
/-- alive -/
theorem alive_c (w : World) : Calls Try.prog 7 #[] w fun e w' => e = .returned (.bool true) ∧ Below w.heap.size w w' := by
  obtain ⟨w1, h1⟩ : ∃ w1, w1 = w.alloc (.cells #[.string ⟨#[97]⟩, .string ⟨#[120]⟩] 9) := ⟨_, rfl⟩
  obtain ⟨w2, h2⟩ : ∃ w2, w2 = w1.alloc (.cells #[.string ⟨#[98]⟩, .string ⟨#[]⟩] 9) := ⟨_, rfl⟩
  obtain ⟨w3, h3⟩ : ∃ w3, w3 = w2.alloc (.cells #[.slice (some ⟨w.heap.size, 0, none⟩) 2 2, .slice (some ⟨w.heap.size + 1, 0, none⟩) 2 2] 33) := ⟨_, rfl⟩
  obtain ⟨b3, hr3⟩ := twos_lit w [97] [120] [98] [] _ _ w1 w2 w3 h1 h2 h3
  obtain ⟨L, hL⟩ : ∃ L, L = Bm.wr la := ⟨_, rfl⟩
  obtain ⟨k, hk⟩ : ∃ k, L.length = k := ⟨_, rfl⟩
  have hk9 : k ≤ 10000 := by rw [← hk, hL]; exact la_len
  have hw := write_ok (some ⟨w.heap.size + 2, 0, none⟩) 2 2 la w3 hr3 (by intro r hr q hq; simp [la] at hr; rcases hr with rfl | rfl <;> simp at hq <;> rcases hq with rfl | rfl <;> simp) (by decide) la_may L hL k hk
  have hf1 := fun A c W (hW : Rb W W.heap.size A k c L) => find_c A k c L [97] W hW (by omega) [120] 0 (by rw [hL]; exact la_fnd)
  have hf2 := fun A c W (hW : Rb W W.heap.size A k c L) => find_c A k c L [99] W hW (by omega) [] 6 (by rw [hL]; exact la_no)
  have H1 := Lib.hid h1; have H2 := Lib.hid h2; have H3 := Lib.hid h3; have Hw := Lib.hid hw; have Hf1 := Lib.hid hf1; have Hf2 := Lib.hid hf2
  clear h1 h2 h3 hw hf1 hf2 hL hk hr3
  go_enter Try.func7, Try.ntmps7
  go_wp2_with fail
  rw [← H1.out, ← H2.out, ← H3.out]
  refine Hw.out.mono ?_
  rintro e w4 ⟨A4, c4, rfl, hown4, hb4⟩
  have z3 := b3.size
  have z4 := hb4.size
  have HR4 := Lib.hid (Own.rbl hown4)
  have bw4 := b3.trans (hb4.mono z3)
  clear hown4
  go_wp2_with fail
  refine (Hf1.out A4 c4 w4 HR4.out).mono ?_
  rintro e w5 ⟨rfl, hb5⟩
  have HR5 := Lib.hid ((HR4.out.below hb5).more hb5.size)
  have z5 := hb5.size
  have bw5 := bw4.trans (hb5.mono (by omega))
  go_wp2_with fail
  refine (Hf2.out A4 c4 w5 HR5.out).mono ?_
  rintro e w6 ⟨rfl, hb6⟩
  have z6 := hb6.size
  have bw6 := bw5.trans (hb6.mono (by omega))
  obtain ⟨w7, h7⟩ : ∃ w7, w7 = w6.alloc (.cells #[.string ⟨#[98]⟩, .string ⟨#[]⟩] 9) := ⟨_, rfl⟩
  obtain ⟨w8, h8⟩ : ∃ w8, w8 = w7.alloc (.cells #[.string ⟨#[97]⟩, .string ⟨#[]⟩] 9) := ⟨_, rfl⟩
  obtain ⟨w9, h9⟩ : ∃ w9, w9 = w8.alloc (.cells #[.slice (some ⟨w6.heap.size, 0, none⟩) 2 2, .slice (some ⟨w6.heap.size + 1, 0, none⟩) 2 2] 33) := ⟨_, rfl⟩
  obtain ⟨b9, hr9⟩ := twos_lit w6 [98] [] [97] [] _ _ w7 w8 w9 h7 h8 h9
  have hw2 := write_no (some ⟨w6.heap.size + 2, 0, none⟩) 2 2 [[[98], []], [[97], []]] w9 hr9 (by intro r hr q hq; simp at hr; rcases hr with rfl | rfl <;> simp at hq <;> rcases hq with rfl | rfl <;> simp) (by decide)
  have bw9 := bw6.trans (b9.mono (by omega))
  have H7 := Lib.hid h7; have H8 := Lib.hid h8; have H9 := Lib.hid h9; have Hw2 := Lib.hid hw2
  clear h7 h8 h9 hr9 hw2
  go_wp2_with fail
  rw [← H7.out, ← H8.out, ← H9.out]
  refine Hw2.out.mono ?_
  rintro e wa ⟨rfl, rfl⟩
  go_wp2
  go_ret
  exact ⟨rfl, bw9⟩
end Go.Proofs.Ytdhbfoelpdoofaa
