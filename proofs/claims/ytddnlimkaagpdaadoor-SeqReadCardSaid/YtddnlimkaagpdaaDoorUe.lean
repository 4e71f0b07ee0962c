/-
  seq's Read: what the call returns and leaves.
-/
import Derived.Test.YtddnlimkaagpdaaDoorUd
namespace Go.Proofs.YtddnlimkaagpdaaDoor
open Go.RowKit

def RetRE (w : World) (l : List (List (List UInt8))) (k : Int) (e : Ending) (w' : World) : Prop :=
  ∃ A c, e = .returned (.tuple #[.slice A l.length c, .int .i64 k]) ∧ RLS w' (Fr w.heap.size w') A l.length c l ∧ Below w.heap.size w w'

set_option maxHeartbeats 1000000 in
set_option maxRecDepth 100000 in
/-- Read: places that may not be -/
theorem read_arg (A : Option Addr) (n c : Nat) (f t g : Int) (w : World) (h : f < 0 ∨ t < f ∨ (n : Int) < t ∨ g < 0 ∨ (n : Int) < g) :
    Calls Tryd.prog 11 #[.slice A n c, .int .i64 f, .int .i64 t, .int .i64 g] w (RetRE w [] 1) := by
  have hfin : ∀ W, W = w → RetRE w [] 1 (.returned (.tuple #[.slice none 0 0, .int .i64 1])) W := fun W h => by subst h; exact ⟨none, 0, rfl, RLS.nil, Below.refl _ _⟩
  have Hfin := Lib.hid hfin; clear hfin
  by_cases h1 : f < 0
  · have d1 : decide (f < 0) = true := by simpa using h1
    clear h
    go_enter Tryd.func11, Tryd.ntmps11
    go_wp2
    go_ret2
    exact Hfin.out _ rfl
  · have d1 : decide (f < 0) = false := by simpa using h1
    by_cases h2 : t < f
    · have d2 : decide (t < f) = true := by simpa using h2
      clear h
      go_enter Tryd.func11, Tryd.ntmps11
      go_wp2
      go_ret2
      exact Hfin.out _ rfl
    · have d2 : decide (t < f) = false := by simpa using h2
      by_cases h3 : (n : Int) < t
      · have d3 : decide ((n : Int) < t) = true := by simpa using h3
        clear h
        go_enter Tryd.func11, Tryd.ntmps11
        go_wp2
        go_ret2
        exact Hfin.out _ rfl
      · have d3 : decide ((n : Int) < t) = false := by simpa using h3
        by_cases h4 : g < 0
        · have d4 : decide (g < 0) = true := by simpa using h4
          clear h
          go_enter Tryd.func11, Tryd.ntmps11
          go_wp2
          go_ret2
          exact Hfin.out _ rfl
        · have d4 : decide (g < 0) = false := by simpa using h4
          have h5 : (n : Int) < g := by omega
          have d5 : decide ((n : Int) < g) = true := by simpa using h5
          clear h
          go_enter Tryd.func11, Tryd.ntmps11
          go_wp2
          go_ret2
          exact Hfin.out _ rfl

set_option maxHeartbeats 1000000 in
set_option maxRecDepth 100000 in
/-- Read: the right part is known -/
theorem read_ok (A : Option Addr) (n c : Nat) (l : List UInt8) (f t G : Nat) (w : World) (hr : Rb w w.heap.size A n c l) (hft : f ≤ t) (ht : t ≤ n) (hn : n ≤ 900000) (hx : Mx w) (hG : G = (Sm.ps l).2) :
    Calls Tryd.prog 11 #[.slice A n c, .int .i64 (f : Int), .int .i64 (t : Int), .int .i64 (G : Int)] w (RetRE w (Tm.all (Tm.btw f t (Sm.ps l).1)) (if G < t then 3 else 0)) := by
  have hl := hr.len
  have hg := Sm.ps_good l
  rw [← hG] at hg
  obtain ⟨D, hD, hrD⟩ := bty.upto_ hr (k := G) (by omega) (G : Int) rfl
  have hvl : (l.take G).length = G := by rw [List.length_take]; omega
  obtain ⟨t2, ht2⟩ : ∃ t2, t2 = min t G := ⟨_, rfl⟩
  have hrv0 := Sm.rv_eq l f t hft (by omega)
  rw [← hG, ← ht2] at hrv0
  obtain ⟨h1, h2⟩ := hrv0
  have hcall := rvalid_c D G c (l.take G) f t2 w hrD (by omega) hx (by omega) (by omega) _ rfl (by rw [← hvl] at h2 ⊢; simpa using h2)
  have e1 : rcs (l.take G) (Sm.sg (l.take G) (Sm.nxt ((l.take G).take (min (t2 + 1) G)) (clamp f (min (t2 + 1) G))) t2) = Tm.all (Tm.btw f t (Sm.ps l).1) := by
    rw [← h1]
    unfold Sm.rv rcs
    rw [hvl]
  rw [e1] at hcall
  obtain ⟨X, hX⟩ : ∃ X, X = Tm.all (Tm.btw f t (Sm.ps l).1) := ⟨_, rfl⟩
  rw [← hX] at hcall ⊢
  have d1 : decide ((f : Int) < 0) = false := by simp
  have d2 : decide ((t : Int) < (f : Int)) = false := by simp; omega
  have d3 : decide ((n : Int) < (t : Int)) = false := by simp; omega
  have d4 : decide ((G : Int) < 0) = false := by simp
  have d5 : decide ((n : Int) < (G : Int)) = false := by simp; omega
  have e2 : decide (t < f) = false := by simp; omega
  have e3 : decide (n < t) = false := by simp; omega
  have e5 : decide (n < G) = false := by simp; omega
  have dm : t2 = min t G := ht2
  have hmin : min (t : Int) (G : Int) = (t2 : Int) := by omega
  have Hcall := Lib.hid hcall; clear hcall hr hrD hvl hG ht2 hl h1 h2 e1 hX hx
  by_cases hGt : G < t
  · have d6 : decide ((G : Int) < (t : Int)) = true := by simp; omega
    obtain rfl : t2 = G := by omega
    clear dm
    rw [if_pos hGt]
    go_enter Tryd.func11, Tryd.ntmps11
    go_wp2_with fail
    refine Hcall.out.mono ?_
    rintro e w4 ⟨A4, k4, c4, rfl, rfl, h4, hb4⟩
    have H4 := Lib.hid h4; clear h4
    go_wp2
    go_ret2
    exact ⟨A4, c4, rfl, H4.out, hb4⟩
  · have d6 : decide ((G : Int) < (t : Int)) = false := by simp; omega
    obtain rfl : t2 = t := by omega
    clear dm
    rw [if_neg hGt]
    go_enter Tryd.func11, Tryd.ntmps11
    go_wp2_with fail
    refine Hcall.out.mono ?_
    rintro e w4 ⟨A4, k4, c4, rfl, rfl, h4, hb4⟩
    have H4 := Lib.hid h4; clear h4
    go_wp2
    go_ret2
    exact ⟨A4, c4, rfl, H4.out, hb4⟩
end Go.Proofs.YtddnlimkaagpdaaDoor
