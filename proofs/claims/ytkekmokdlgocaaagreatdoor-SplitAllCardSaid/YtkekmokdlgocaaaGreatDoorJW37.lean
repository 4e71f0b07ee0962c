import Derived.Test.YtkekmokdlgocaaaGreatDoorJW14
import Derived.Test.YtkekmokdlgocaaaGreatDoorJW13
set_option maxRecDepth 100000
set_option maxHeartbeats 4000000
namespace Go.Proofs.YtkekmokdlgocaaaGreatDoor.Pl
open Go.RowKit
def CuRel (w : World) (l : List Int) (m : Nat) (i : Value) (wr : World) : Prop :=
 ∃ K : Nat, i = .int .i64 (K : Int) ∧ 1 ≤ K ∧ K ≤ m ∧ (∀ (i : Nat) (a b : Int), i + 1 < K → l[i]? = some a → l[i + 1]? = some b → a < b) ∧ Below w.heap.size w wr
theorem areCuts_c (A : Option Addr) (m c n : Nat) (l : List Int) (w : World) (hr : Rc 1 w w.heap.size A m c (ivs l)) (o : Bool) (ho : o = true ↔ IsC n l) :
  Calls Tryz.prog 42 #[.slice A m c, .int .i64 (n : Int)] w fun e w' => e = .returned (.bool o) ∧ Below w.heap.size w w' := by
 have hl : l.length = m := by have := hr.len1; rw [ivs_length] at this; exact this
 have hm : m ≤ 9223372036854775807 := by have h2 := hr.2.1; have h3 := hr.2.2.1; unfold maxLen at h3; omega
 by_cases h0 : m = 0
 ·subst h0
  obtain rfl : l = [] := List.eq_nil_of_length_eq_zero hl
  have hof : o = false := by
   cases o with
   | false => rfl
   | true => have := (ho.1 rfl).1; simp at this
  subst hof
  clear ho hr hl hm
  go_enter Tryz.func42, Tryz.ntmps42
  go_wp2
  go_ret
  exact ⟨rfl, Below.refl _ _⟩
 ·obtain ⟨b, off, x, rfl, hb, hcx, hx⟩ := hr.int (k := 0) (by omega)
  obtain ⟨b2, off2, y, e, hb2, hcy, hy⟩ := hr.int (k := m - 1) (by omega)
  injection e with e
  injection e with e1 e2 e3
  subst e1 e2
  obtain ⟨K, hK⟩ : ∃ K, K = m - 1 := ⟨_, rfl⟩
  rw [← hK] at hcy hy
  have q1 : IntKind.i64.wrap ((m : Int) - 1) = (m : Int) - 1 := IntWalk.i64_in _ (by omega)
  have q2 : 0 ≤ (m : Int) - 1 := by omega
  have q3 : ((m : Int) - 1).toNat = K := by omega
  have q4 : (m : Int) - 1 < (m : Int) := by omega
  have q5 : ((m : Int) == 0) = false := beq_eq_false_iff_ne.2 (by omega)
  have q6 : (0 : Int) < (m : Int) := by omega
  rw [Nat.add_zero] at hcx
  have hlast : l.getLast? = some y := by rw [List.getLast?_eq_getElem?, hl, ← hK]; exact hy
  have Hr := ek hr; have Hx := ek hx; have Hy := ek hlast; have Ho := ek ho; have Hl := ek hl
  clear hr hx hy hlast ho hl hK h0
  by_cases hx0 : x = 0
  ·subst hx0
   by_cases hyn : y = (n : Int)
   ·subst hyn
    go_enter Tryz.func42, Tryz.ntmps42
    go_wp2
    go_loopw [5] (fun i wr => CuRel w l m i wr) (fun i _ => m - (intOf i).toNat)
    case atStart => exact ⟨1, rfl, Nat.le_refl _, by omega, fun i a b h => by omega, Below.refl _ _⟩
    case round =>
     obtain ⟨K, rfl, hK1, hKm, hup, hbel⟩ := hrel
     rename World => wr
     have Hup := ek hup
     clear hup q1 q2 q3 q4 q5 q6 hcy
     by_cases hlt : K < m
     ·obtain ⟨J, hJ⟩ : ∃ J, J = K - 1 := ⟨_, rfl⟩
      have hR := Hr.out.below hbel
      obtain ⟨b3, off3, x, e, hb3, hcx3, hx⟩ := hR.int (k := J) (by omega)
      obtain ⟨b4, off4, y, e', hb4, hcy4, hy⟩ := hR.int (k := K) hlt
      injection e with e
      injection e with e1 e2 _
      injection e' with e'
      injection e' with e3 e4 _
      subst e1 e2 e3 e4
      have q1 : IntKind.i64.wrap ((K : Int) - 1) = (K : Int) - 1 := IntWalk.i64_in _ (by omega)
      have q2 : 0 ≤ (K : Int) - 1 := by omega
      have q3 : ((K : Int) - 1).toNat = J := by omega
      have q4 : (K : Int) - 1 < (m : Int) := by omega
      have hx' := ek hx; have hy' := ek hy; have HJ := ek (show J + 1 = K by omega)
      clear hx hy hR hJ
      by_cases hxy : x < y
      ·have d1 : decide (x ≥ y) = false := decide_eq_false (by omega)
       have d2 : decide (y ≤ x) = false := decide_eq_false (by omega)
       go_wp2_with fail
       go_quiet (fail)
       go_wp2
       go_roundw
       case rel =>
        refine ⟨K + 1, by go_num, by omega, by omega, fun i a b hi ha hb => ?_, below_drewN hbel _⟩
        by_cases hiJ : i = J
        ·subst hiJ
         rw [hx'.out] at ha
         rw [HJ.out, hy'.out] at hb
         injection ha with ha
         injection hb with hb
         omega
        ·exact Hup.out i a b (by have := HJ.out; omega) ha hb
       case measure => simp [intOf]; omega
      ·have d1 : decide (x ≥ y) = true := decide_eq_true (by omega)
       have d2 : decide (y ≤ x) = true := decide_eq_true (by omega)
       have hof : o = false := by
        cases o with
        | false => rfl
        | true =>
         have := (Ho.out.1 rfl).2.2 J x y hx'.out (by rw [HJ.out]; exact hy'.out)
         omega
       have Hof := ek hof
       clear hof
       go_wp2_with fail
       go_quiet (fail)
       go_wp2
       go_ret
       exact ⟨by rw [Hof.out]; rfl, below_drewN hbel _⟩
     ·have hof : o = true := Ho.out.2 ⟨Hx.out, Hy.out, fun i a b ha hb => Hup.out i a b (by
       have : i + 1 < l.length := by
        rcases Nat.lt_or_ge (i + 1) l.length with h | h
        ·exact h
        ·rw [List.getElem?_eq_none h] at hb; cases hb
       have := Hl.out
       omega) ha hb⟩
      have Hof := ek hof
      clear hof
      go_wp2
      go_ret
      exact ⟨by rw [Hof.out]; rfl, hbel⟩
   ·have d1 : (y != (n : Int)) = true := by simpa using hyn
    have hof : o = false := by
     cases o with
     | false => rfl
     | true =>
      have := (Ho.out.1 rfl).2.1
      rw [Hy.out] at this
      injection this with this
      exact absurd this hyn
    subst hof
    go_enter Tryz.func42, Tryz.ntmps42
    go_wp2
    go_ret
    exact ⟨rfl, Below.refl _ _⟩
  ·have d1 : (x != 0) = true := by simpa using hx0
   have hof : o = false := by
    cases o with
    | false => rfl
    | true =>
     have := (Ho.out.1 rfl).1
     rw [Hx.out] at this
     injection this with this
     exact absurd this hx0
   subst hof
   go_enter Tryz.func42, Tryz.ntmps42
   go_wp2
   go_ret
   exact ⟨rfl, Below.refl _ _⟩
def cmpI (x y : Int) : Int := if x < y then -1 else if x > y then 1 else 0
theorem isNaN_c (x : Int) (w : World) : Calls Tryz.prog 97 #[.int .i64 x] w fun e w' => e = .returned (.bool false) ∧ w = w' := by
 have d : (x != x) = false := by simp
 go_enter Tryz.func97, Tryz.ntmps97
 go_wp2
 go_ret
 exact ⟨by simp, rfl⟩
theorem compare_c (x y : Int) (w : World) : Calls Tryz.prog 69 #[.int .i64 x, .int .i64 y] w fun e w' => e = .returned (.int .i64 (cmpI x y)) ∧ w = w' := by
 obtain ⟨v, hv⟩ : ∃ v, v = cmpI x y := ⟨_, rfl⟩
 rw [← hv]
 unfold cmpI at hv
 go_enter Tryz.func69, Tryz.ntmps69
 go_wp2_with fail
 refine (isNaN_c x _).mono ?_
 rintro e w1 ⟨rfl,rfl⟩
 go_wp2_with fail
 refine (isNaN_c y _).mono ?_
 rintro e w1 ⟨rfl,rfl⟩
 by_cases h1 : x < y
 ·have d1 : decide (x < y) = true := decide_eq_true h1
  rw [if_pos h1] at hv
  have Hv := ek hv
  clear hv h1
  go_wp2
  go_ret
  exact ⟨by rw [Hv.out]; rfl, rfl⟩
 ·have d1 : decide (x < y) = false := decide_eq_false h1
  rw [if_neg h1] at hv
  by_cases h2 : x > y
  ·have d2 : decide (x > y) = true := decide_eq_true h2
   have d3 : decide (y < x) = true := decide_eq_true h2
   rw [if_pos h2] at hv
   have Hv := ek hv
   clear hv h1 h2
   go_wp2
   go_ret
   exact ⟨by rw [Hv.out]; rfl, rfl⟩
  ·have d2 : decide (x > y) = false := decide_eq_false h2
   have d3 : decide (y < x) = false := decide_eq_false h2
   rw [if_neg h2] at hv
   have Hv := ek hv
   clear hv h1 h2
   go_wp2
   go_ret
   exact ⟨by rw [Hv.out]; rfl, rfl⟩
def BsRel (w : World) (S : List Nat) (a : Int) (n : Nat) (i j : Value) (wr : World) : Prop :=
 ∃ p q : Nat, i = .int .i64 (p : Int) ∧ j = .int .i64 (q : Int) ∧ p ≤ q ∧ q ≤ n ∧ (∀ (t x : Nat), S[t]? = some x → t < p → (x : Int) < a) ∧ (∀ (t x : Nat), S[t]? = some x → q ≤ t → a ≤ (x : Int)) ∧ Below w.heap.size w wr
end Go.Proofs.YtkekmokdlgocaaaGreatDoor.Pl
