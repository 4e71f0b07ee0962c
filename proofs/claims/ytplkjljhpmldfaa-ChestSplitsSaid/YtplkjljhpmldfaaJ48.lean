/-
  Joined: Zj.
-/
import Derived.Test.YtplkjljhpmldfaaJ47
import Derived.Test.YtplkjljhpmldfaaJ38
/-
  chest.Read, the document's Read: what each call returns and leaves.
-/
namespace Go.Proofs.Ytplkjljhpmldfaa
open Go.RowKit

def RetRE (w : World) (l : List (List (List UInt8))) (k : Int) (e : Ending) (w' : World) : Prop :=
  ∃ A c, e = .returned (.tuple #[.slice A l.length c, .int .i64 k]) ∧ RLS w' (Fr w.heap.size w') A l.length c l ∧ Below w.heap.size w w'

set_option maxHeartbeats 1000000 in
set_option maxRecDepth 100000 in
/-- Read: places that may not be -/
theorem read_arg (A : Option Addr) (n c : Nat) (f t g : Int) (w : World) (h : f < 0 ∨ t < f ∨ (n : Int) < t ∨ g < 0 ∨ (n : Int) < g) :
    Calls Try.prog 10 #[.slice A n c, .int .i64 f, .int .i64 t, .int .i64 g] w (RetRE w [] 1) := by
  have hfin : ∀ W, W = w → RetRE w [] 1 (.returned (.tuple #[.slice none 0 0, .int .i64 1])) W := fun W h => by subst h; exact ⟨none, 0, rfl, RLS.nil, Below.refl _ _⟩
  have Hfin := Lib.hid hfin; clear hfin
  by_cases h1 : f < 0
  · have d1 : decide (f < 0) = true := by simpa using h1
    clear h
    go_enter Try.func10, Try.ntmps10
    go_wp2
    go_ret2
    exact Hfin.out _ rfl
  · have d1 : decide (f < 0) = false := by simpa using h1
    by_cases h2 : t < f
    · have d2 : decide (t < f) = true := by simpa using h2
      clear h
      go_enter Try.func10, Try.ntmps10
      go_wp2
      go_ret2
      exact Hfin.out _ rfl
    · have d2 : decide (t < f) = false := by simpa using h2
      by_cases h3 : (n : Int) < t
      · have d3 : decide ((n : Int) < t) = true := by simpa using h3
        clear h
        go_enter Try.func10, Try.ntmps10
        go_wp2
        go_ret2
        exact Hfin.out _ rfl
      · have d3 : decide ((n : Int) < t) = false := by simpa using h3
        by_cases h4 : g < 0
        · have d4 : decide (g < 0) = true := by simpa using h4
          clear h
          go_enter Try.func10, Try.ntmps10
          go_wp2
          go_ret2
          exact Hfin.out _ rfl
        · have d4 : decide (g < 0) = false := by simpa using h4
          have h5 : (n : Int) < g := by omega
          have d5 : decide ((n : Int) < g) = true := by simpa using h5
          clear h
          go_enter Try.func10, Try.ntmps10
          go_wp2
          go_ret2
          exact Hfin.out _ rfl

set_option maxHeartbeats 1000000 in
set_option maxRecDepth 100000 in
/-- Read: places that may not be -/
theorem rread_arg (A : Option Addr) (n c : Nat) (f t g : Int) (w : World) (h : f < 0 ∨ t < f ∨ (n : Int) < t ∨ g < 0 ∨ (n : Int) < g) :
    Calls Try.prog 11 #[.slice A n c, .int .i64 f, .int .i64 t, .int .i64 g] w (RetRE w [] 1) := by
  have hfin : ∀ W, W = w → RetRE w [] 1 (.returned (.tuple #[.slice none 0 0, .int .i64 1])) W := fun W h => by subst h; exact ⟨none, 0, rfl, RLS.nil, Below.refl _ _⟩
  have Hfin := Lib.hid hfin; clear hfin
  by_cases h1 : f < 0
  · have d1 : decide (f < 0) = true := by simpa using h1
    clear h
    go_enter Try.func11, Try.ntmps11
    go_wp2
    go_ret2
    exact Hfin.out _ rfl
  · have d1 : decide (f < 0) = false := by simpa using h1
    by_cases h2 : t < f
    · have d2 : decide (t < f) = true := by simpa using h2
      clear h
      go_enter Try.func11, Try.ntmps11
      go_wp2
      go_ret2
      exact Hfin.out _ rfl
    · have d2 : decide (t < f) = false := by simpa using h2
      by_cases h3 : (n : Int) < t
      · have d3 : decide ((n : Int) < t) = true := by simpa using h3
        clear h
        go_enter Try.func11, Try.ntmps11
        go_wp2
        go_ret2
        exact Hfin.out _ rfl
      · have d3 : decide ((n : Int) < t) = false := by simpa using h3
        by_cases h4 : g < 0
        · have d4 : decide (g < 0) = true := by simpa using h4
          clear h
          go_enter Try.func11, Try.ntmps11
          go_wp2
          go_ret2
          exact Hfin.out _ rfl
        · have d4 : decide (g < 0) = false := by simpa using h4
          have h5 : (n : Int) < g := by omega
          have d5 : decide ((n : Int) < g) = true := by simpa using h5
          clear h
          go_enter Try.func11, Try.ntmps11
          go_wp2
          go_ret2
          exact Hfin.out _ rfl

/-- Records (they may lie anywhere) and an error. -/
def RetRD (w : World) (l : List (List (List UInt8))) (k : Int) (e : Ending) (w' : World) : Prop :=
  ∃ A c, e = .returned (.tuple #[.slice A l.length c, .int .i64 k]) ∧ RL w' w'.heap.size A l.length c l ∧ Below w.heap.size w w'
theorem rvO_eq (l : List UInt8) (f t : Nat) : rvO l f t (Hm.scS l).2.1 = Tm.all (Tm.btw f t (Hm.scS l).1) := by
  rw [← Hm.rv_scS l f t]
  rfl

set_option maxHeartbeats 1000000 in
set_option maxRecDepth 100000 in
/-- Read: the right part is known -/
theorem read_ok (A : Option Addr) (n c : Nat) (l : List UInt8) (f t G : Nat) (w : World) (hr : Rb w w.heap.size A n c l) (hft : f ≤ t) (ht : t ≤ n) (hn : n ≤ 900000) (hG : G = (Hm.scS l).2.1) :
    Calls Try.prog 10 #[.slice A n c, .int .i64 (f : Int), .int .i64 (t : Int), .int .i64 (G : Int)] w (RetRE w (Tm.all (Tm.btw f t (Hm.scS l).1)) (if G < t then 3 else 0)) := by
  have hl := hr.len
  have hg := (Hm.scS_facts l).2.2.2.1
  rw [← hG, hl] at hg
  have hcall := rvalid_c A n c l f t G w hr hn
  rw [hG, rvO_eq, ← hG] at hcall
  obtain ⟨X, hX⟩ : ∃ X, X = Tm.all (Tm.btw f t (Hm.scS l).1) := ⟨_, rfl⟩
  rw [← hX] at hcall ⊢
  have d1 : decide ((f : Int) < 0) = false := by simp
  have d2 : decide ((t : Int) < (f : Int)) = false := by simp; omega
  have d3 : decide ((n : Int) < (t : Int)) = false := by simp; omega
  have d4 : decide ((G : Int) < 0) = false := by simp
  have d5 : decide ((n : Int) < (G : Int)) = false := by simp; omega
  have e2 : decide (t < f) = false := by simp; omega
  have e3 : decide (n < t) = false := by simp; omega
  have e5 : decide (n < G) = false := by simp; omega
  have Hcall := Lib.hid hcall; clear hcall hr hG hl hX
  by_cases hGt : G < t
  · have d6 : decide ((G : Int) < (t : Int)) = true := by simp; omega
    rw [if_pos hGt]
    go_enter Try.func10, Try.ntmps10
    go_wp2_with fail
    refine Hcall.out.mono ?_
    rintro e w4 ⟨A4, c4, rfl, h4, hb4⟩
    have H4 := Lib.hid h4; clear h4
    go_wp2
    go_ret2
    exact ⟨A4, c4, rfl, H4.out, hb4⟩
  · have d6 : decide ((G : Int) < (t : Int)) = false := by simp; omega
    rw [if_neg hGt]
    go_enter Try.func10, Try.ntmps10
    go_wp2_with fail
    refine Hcall.out.mono ?_
    rintro e w4 ⟨A4, c4, rfl, h4, hb4⟩
    have H4 := Lib.hid h4; clear h4
    go_wp2
    go_ret2
    exact ⟨A4, c4, rfl, H4.out, hb4⟩

set_option maxHeartbeats 1000000 in
set_option maxRecDepth 100000 in
/-- the document's Read: the right part is known -/
theorem rread_ok (A : Option Addr) (n c : Nat) (l : List UInt8) (f t G : Nat) (w : World) (hr : Rb w w.heap.size A n c l) (hft : f ≤ t) (ht : t ≤ n) (hn : n ≤ 900000) (hG : G = (Hm.scS l).2.1) :
    Calls Try.prog 11 #[.slice A n c, .int .i64 (f : Int), .int .i64 (t : Int), .int .i64 (G : Int)] w (RetRD w (Tm.all (Tm.btw f t (Hm.scS l).1)) (if G < t then 3 else 0)) := by
  have hl := hr.len
  have hg := (Hm.scS_facts l).2.2.2.1
  rw [← hG, hl] at hg
  have hsc := rscan_c A n c l w hr hn
  have hpn := (Hm.scS_facts l).2.2.1
  have hal := (Hm.scS_all l).1
  obtain ⟨X, hX⟩ : ∃ X, X = Tm.all (Tm.btw f t (Hm.scS l).1) := ⟨_, rfl⟩
  obtain ⟨ps, hps⟩ : ∃ ps, ps = (Hm.scS l).1 := ⟨_, rfl⟩
  obtain ⟨g2, hg2⟩ : ∃ g2, g2 = (Hm.scS l).2.1 := ⟨_, rfl⟩
  obtain ⟨g3, hg3⟩ : ∃ g3, g3 = (Hm.scS l).2.2 := ⟨_, rfl⟩
  unfold RetSc at hsc
  rw [← hps, ← hg2, ← hg3] at hsc
  have hof := fun (W : World) (A' : Option Addr) (c' : Nat) (hW : PL W W.heap.size A' ps.length c' ps) => rof_c A' ps.length c' ps f t W hW (by rw [hps]; omega) (by rw [hps]; omega)
  have hXp : Tm.all (Tm.btw f t ps) = X := by rw [hX, hps]
  rw [hXp] at hof
  rw [← hX]
  have d1 : decide ((f : Int) < 0) = false := by simp
  have d2 : decide ((t : Int) < (f : Int)) = false := by simp; omega
  have d3 : decide ((n : Int) < (t : Int)) = false := by simp; omega
  have d4 : decide ((G : Int) < 0) = false := by simp
  have d5 : decide ((n : Int) < (G : Int)) = false := by simp; omega
  have e2 : decide (t < f) = false := by simp; omega
  have e3 : decide (n < t) = false := by simp; omega
  have e5 : decide (n < G) = false := by simp; omega
  have Hsc := Lib.hid hsc; have Hof := Lib.hid hof
  clear hsc hof hr hG hl hX hps hg2 hg3 hXp hpn hal
  by_cases hGt : G < t
  · have d6 : decide ((G : Int) < (t : Int)) = true := by simp; omega
    rw [if_pos hGt]
    go_enter Try.func11, Try.ntmps11
    go_wp2_with fail
    refine Hsc.out.mono ?_
    rintro e w4 ⟨A4, c4, rfl, h4, hb4⟩
    have H4 := Lib.hid h4.pl; clear h4
    go_wp2_with fail
    refine (Hof.out _ _ _ H4.out).mono ?_
    rintro e w5 ⟨A5, c5, rfl, h5, hb5⟩
    have H5 := Lib.hid h5; clear h5
    go_wp2
    go_ret2
    exact ⟨A5, c5, rfl, H5.out, hb4.trans (hb5.mono hb4.size)⟩
  · have d6 : decide ((G : Int) < (t : Int)) = false := by simp; omega
    rw [if_neg hGt]
    go_enter Try.func11, Try.ntmps11
    go_wp2_with fail
    refine Hsc.out.mono ?_
    rintro e w4 ⟨A4, c4, rfl, h4, hb4⟩
    have H4 := Lib.hid h4.pl; clear h4
    go_wp2_with fail
    refine (Hof.out _ _ _ H4.out).mono ?_
    rintro e w5 ⟨A5, c5, rfl, h5, hb5⟩
    have H5 := Lib.hid h5; clear h5
    go_wp2
    go_ret2
    exact ⟨A5, c5, rfl, H5.out, hb4.trans (hb5.mono hb4.size)⟩
end Go.Proofs.Ytplkjljhpmldfaa
