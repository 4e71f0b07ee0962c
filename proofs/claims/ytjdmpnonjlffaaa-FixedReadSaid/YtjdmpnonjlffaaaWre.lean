/-
  The walk of the law FixedRead.
-/
import Derived.Test.YtjdmpnonjlffaaaYb
namespace Go.Proofs.Ytjdmpnonjlffaaa
open Go.RowKit Go.Maps

set_option maxRecDepth 100000 in
set_option maxHeartbeats 2000000 in
theorem fixedRead_walk (A : Option Addr) (n c : Nat) (l : List UInt8) (f t k : Int) (w : World) (hr : Rb w w.heap.size A n c l) (_hf : I64 f) (_ht : I64 t) (_hk : I64 k) :
    Calls Try.prog 4 #[.slice A n c, .agg #[.int .i64 f, .int .i64 t, .int .i64 k]] w fun e w' => e = .returned (.bool true) ∧ Below w.heap.size w w' := by
  obtain rfl := hr.len
  have hmax : l.length ≤ 9223372036854775807 := by have h2 := hr.2.1; have h3 := hr.2.2.1; unfold maxLen at h3; omega
  obtain ⟨w1, h1⟩ : ∃ w1, w1 = w.alloc (.cells #[.int .i64 f, .int .i64 t, .int .i64 k] 31) := ⟨_, rfl⟩
  have b1 : Below w.heap.size w w1 := by rw [h1]; exact (Below.refl _ _).alloc (Nat.le_refl _) _
  have s1 : w1.heap.size = w.heap.size + 1 := by rw [h1]; simp
  by_cases hbig : 3000 < l.length
  · clear hr
    have H1 := Lib.hid h1; have B1 := Lib.hid b1; have S1 := Lib.hid s1; clear h1 b1 s1
    go_enter Try.func4, Try.ntmps4
    go_wp2_with fail
    rw [← H1.out]
    refine (alive_c _).mono ?_
    rintro e w2 ⟨rfl, hb2⟩
    have bz := B1.out.trans (hb2.mono (by have := S1.out; omega))
    go_wp2
    go_ret
    exact ⟨rfl, bz⟩
  · have hn : l.length ≤ 3000 := by omega
    obtain ⟨L, E, hL⟩ := read_any l f t k (by omega)
    have hr1 := (hr.below b1).more (show w.heap.size ≤ w1.heap.size by omega)
    have g0 : w1.cell? ⟨w.heap.size, 0, none⟩ = some (.int .i64 f) := by rw [h1]; simp
    have g1 : w1.cell? ⟨w.heap.size, 1, none⟩ = some (.int .i64 t) := by rw [h1]; simp
    have g2 : w1.cell? ⟨w.heap.size, 2, none⟩ = some (.int .i64 k) := by rw [h1]; simp
    have H1 := Lib.hid h1; have B1 := Lib.hid b1; have S1 := Lib.hid s1; have HL := Lib.hid hL; have Hr1 := Lib.hid hr1; have G0 := Lib.hid g0; have G1 := Lib.hid g1; have G2 := Lib.hid g2
    clear h1 b1 s1 hL hr hr1 g0 g1 g2
    go_enter Try.func4, Try.ntmps4
    go_wp2_with fail
    rw [← H1.out]
    refine (HL.out.read _ _ _ Hr1.out).mono ?_
    rintro e w2 ⟨A2, c2, rfl, hp2, hb2⟩
    have z2 := hb2.size
    have hr2 := (Hr1.out.below hb2).more z2
    have g0 : w2.cell? ⟨w.heap.size, 0, none⟩ = some (.int .i64 f) := (hb2.cell (p := ⟨w.heap.size, 0, none⟩) (by have := S1.out; show w.heap.size < _; omega)).trans G0.out
    have g1 : w2.cell? ⟨w.heap.size, 1, none⟩ = some (.int .i64 t) := (hb2.cell (p := ⟨w.heap.size, 1, none⟩) (by have := S1.out; show w.heap.size < _; omega)).trans G1.out
    have g2 : w2.cell? ⟨w.heap.size, 2, none⟩ = some (.int .i64 k) := (hb2.cell (p := ⟨w.heap.size, 2, none⟩) (by have := S1.out; show w.heap.size < _; omega)).trans G2.out
    have HP2 := Lib.hid hp2; have Hr2 := Lib.hid hr2; clear hp2 hr2
    go_wp2_with fail
    refine (HL.out.rread _ _ _ Hr2.out).mono ?_
    rintro e w3 ⟨A3, c3, rfl, hp3, hb3⟩
    have z3 := hb3.size
    have HP3 := Lib.hid hp3; clear hp3
    clear g0 g1 g2
    go_wp2_with fail
    refine (alive_c _).mono ?_
    rintro e w4 ⟨rfl, hb4⟩
    have z4 := hb4.size
    have b24 := hb3.trans (hb4.mono z3)
    have q2 := (HP2.out.below b24).more (show w2.heap.size ≤ w4.heap.size by omega)
    have q3 := (HP3.out.below hb4).more z4
    have bz : Below w.heap.size w w4 := B1.out.trans ((hb2.trans (b24.mono z2)).mono (by have := S1.out; omega))
    have Q2 := Lib.hid q2; have Q3 := Lib.hid q3; clear q2 q3
    go_wp2_with fail
    refine (recs_c A2 A3 L.length c2 c3 L _ Q2.out Q3.out (by have := HL.out.len; omega) HL.out.small).mono ?_
    rintro e w5 ⟨rfl, q, rfl⟩
    go_wp2
    go_ret
    exact ⟨rfl, below_drewN bz q⟩
end Go.Proofs.Ytjdmpnonjlffaaa
