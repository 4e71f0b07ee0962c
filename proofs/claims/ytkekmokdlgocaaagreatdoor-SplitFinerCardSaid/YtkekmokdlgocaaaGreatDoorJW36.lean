/-
  Joined: N3 N4 N5.
-/
import Derived.Test.YtkekmokdlgocaaaGreatDoorJW14
import Derived.Test.YtkekmokdlgocaaaGreatDoorJW13
set_option maxRecDepth 100000
set_option maxHeartbeats 4000000
namespace Go.Proofs.YtkekmokdlgocaaaGreatDoor.Pl
open Go.RowKit
def CuRel (w : World) (l : List Int) (m : Nat) (i : Value) (wr : World) : Prop :=
 ∃ K : Nat, i = .int .i64 (K : Int) ∧ 1 ≤ K ∧ K ≤ m ∧ (∀ (i : Nat) (a b : Int), i + 1 < K → l[i]? = some a → l[i + 1]? = some b → a < b) ∧ Below w.heap.size w wr
theorem areCuts_c (A : Option Addr) (m c n : Nat) (l : List Int) (w : World) (hr : Rc 1 w w.heap.size A m c (ivs l)) (o : Bool) (ho : o = true ↔ IsC n l) :
  Calls Tryz.prog 42 #[.slice A m c, .int .i64 (n : Int)] w fun e w' => e = .returned (.bool o) ∧ Below w.heap.size w w' := by
 have hl : l.length = m := by have := hr.len1; rw [ivs_length] at this; exact this
 have hm : m ≤ 9223372036854775807 := by have h2 := hr.2.1; have h3 := hr.2.2.1; unfold maxLen at h3; omega
 by_cases h0 : m = 0
 ·subst h0
  obtain rfl : l = [] := List.eq_nil_of_length_eq_zero hl
  have hof : o = false := by
   cases o with
   | false => rfl
   | true => have := (ho.1 rfl).1; simp at this
  subst hof
  clear ho hr hl hm
  go_enter Tryz.func42, Tryz.ntmps42
  go_wp2
  go_ret
  exact ⟨rfl, Below.refl _ _⟩
 ·obtain ⟨b, off, x, rfl, hb, hcx, hx⟩ := hr.int (k := 0) (by omega)
  obtain ⟨b2, off2, y, e, hb2, hcy, hy⟩ := hr.int (k := m - 1) (by omega)
  injection e with e
  injection e with e1 e2 e3
  subst e1 e2
  obtain ⟨K, hK⟩ : ∃ K, K = m - 1 := ⟨_, rfl⟩
  rw [← hK] at hcy hy
  have q1 : IntKind.i64.wrap ((m : Int) - 1) = (m : Int) - 1 := IntWalk.i64_in _ (by omega)
  have q2 : 0 ≤ (m : Int) - 1 := by omega
  have q3 : ((m : Int) - 1).toNat = K := by omega
  have q4 : (m : Int) - 1 < (m : Int) := by omega
  have q5 : ((m : Int) == 0) = false := beq_eq_false_iff_ne.2 (by omega)
  have q6 : (0 : Int) < (m : Int) := by omega
  rw [Nat.add_zero] at hcx
  have hlast : l.getLast? = some y := by rw [List.getLast?_eq_getElem?, hl, ← hK]; exact hy
  have Hr := ek hr; have Hx := ek hx; have Hy := ek hlast; have Ho := ek ho; have Hl := ek hl
  clear hr hx hy hlast ho hl hK h0
  by_cases hx0 : x = 0
  ·subst hx0
   by_cases hyn : y = (n : Int)
   ·subst hyn
    go_enter Tryz.func42, Tryz.ntmps42
    go_wp2
    go_loopw [5] (fun i wr => CuRel w l m i wr) (fun i _ => m - (intOf i).toNat)
    case atStart => exact ⟨1, rfl, Nat.le_refl _, by omega, fun i a b h => by omega, Below.refl _ _⟩
    case round =>
     obtain ⟨K, rfl, hK1, hKm, hup, hbel⟩ := hrel
     rename World => wr
     have Hup := ek hup
     clear hup q1 q2 q3 q4 q5 q6 hcy
     by_cases hlt : K < m
     ·obtain ⟨J, hJ⟩ : ∃ J, J = K - 1 := ⟨_, rfl⟩
      have hR := Hr.out.below hbel
      obtain ⟨b3, off3, x, e, hb3, hcx3, hx⟩ := hR.int (k := J) (by omega)
      obtain ⟨b4, off4, y, e', hb4, hcy4, hy⟩ := hR.int (k := K) hlt
      injection e with e
      injection e with e1 e2 _
      injection e' with e'
      injection e' with e3 e4 _
      subst e1 e2 e3 e4
      have q1 : IntKind.i64.wrap ((K : Int) - 1) = (K : Int) - 1 := IntWalk.i64_in _ (by omega)
      have q2 : 0 ≤ (K : Int) - 1 := by omega
      have q3 : ((K : Int) - 1).toNat = J := by omega
      have q4 : (K : Int) - 1 < (m : Int) := by omega
      have hx' := ek hx; have hy' := ek hy; have HJ := ek (show J + 1 = K by omega)
      clear hx hy hR hJ
      by_cases hxy : x < y
      ·have d1 : decide (x ≥ y) = false := decide_eq_false (by omega)
       have d2 : decide (y ≤ x) = false := decide_eq_false (by omega)
       go_wp2_with fail
       go_quiet (fail)
       go_wp2
       go_roundw
       case rel =>
        refine ⟨K + 1, by go_num, by omega, by omega, fun i a b hi ha hb => ?_, below_drewN hbel _⟩
        by_cases hiJ : i = J
        ·subst hiJ
         rw [hx'.out] at ha
         rw [HJ.out, hy'.out] at hb
         injection ha with ha
         injection hb with hb
         omega
        ·exact Hup.out i a b (by have := HJ.out; omega) ha hb
       case measure => simp [intOf]; omega
      ·have d1 : decide (x ≥ y) = true := decide_eq_true (by omega)
       have d2 : decide (y ≤ x) = true := decide_eq_true (by omega)
       have hof : o = false := by
        cases o with
        | false => rfl
        | true =>
         have := (Ho.out.1 rfl).2.2 J x y hx'.out (by rw [HJ.out]; exact hy'.out)
         omega
       have Hof := ek hof
       clear hof
       go_wp2_with fail
       go_quiet (fail)
       go_wp2
       go_ret
       exact ⟨by rw [Hof.out]; rfl, below_drewN hbel _⟩
     ·have hof : o = true := Ho.out.2 ⟨Hx.out, Hy.out, fun i a b ha hb => Hup.out i a b (by
       have : i + 1 < l.length := by
        rcases Nat.lt_or_ge (i + 1) l.length with h | h
        ·exact h
        ·rw [List.getElem?_eq_none h] at hb; cases hb
       have := Hl.out
       omega) ha hb⟩
      have Hof := ek hof
      clear hof
      go_wp2
      go_ret
      exact ⟨by rw [Hof.out]; rfl, hbel⟩
   ·have d1 : (y != (n : Int)) = true := by simpa using hyn
    have hof : o = false := by
     cases o with
     | false => rfl
     | true =>
      have := (Ho.out.1 rfl).2.1
      rw [Hy.out] at this
      injection this with this
      exact absurd this hyn
    subst hof
    go_enter Tryz.func42, Tryz.ntmps42
    go_wp2
    go_ret
    exact ⟨rfl, Below.refl _ _⟩
  ·have d1 : (x != 0) = true := by simpa using hx0
   have hof : o = false := by
    cases o with
    | false => rfl
    | true =>
     have := (Ho.out.1 rfl).1
     rw [Hx.out] at this
     injection this with this
     exact absurd this hx0
   subst hof
   go_enter Tryz.func42, Tryz.ntmps42
   go_wp2
   go_ret
   exact ⟨rfl, Below.refl _ _⟩
def cmpI (x y : Int) : Int := if x < y then -1 else if x > y then 1 else 0
theorem isNaN_c (x : Int) (w : World) : Calls Tryz.prog 97 #[.int .i64 x] w fun e w' => e = .returned (.bool false) ∧ w = w' := by
 have d : (x != x) = false := by simp
 go_enter Tryz.func97, Tryz.ntmps97
 go_wp2
 go_ret
 exact ⟨by simp, rfl⟩
theorem compare_c (x y : Int) (w : World) : Calls Tryz.prog 69 #[.int .i64 x, .int .i64 y] w fun e w' => e = .returned (.int .i64 (cmpI x y)) ∧ w = w' := by
 obtain ⟨v, hv⟩ : ∃ v, v = cmpI x y := ⟨_, rfl⟩
 rw [← hv]
 unfold cmpI at hv
 go_enter Tryz.func69, Tryz.ntmps69
 go_wp2_with fail
 refine (isNaN_c x _).mono ?_
 rintro e w1 ⟨rfl, rfl⟩
 go_wp2_with fail
 refine (isNaN_c y _).mono ?_
 rintro e w1 ⟨rfl, rfl⟩
 by_cases h1 : x < y
 ·have d1 : decide (x < y) = true := decide_eq_true h1
  rw [if_pos h1] at hv
  have Hv := ek hv
  clear hv h1
  go_wp2
  go_ret
  exact ⟨by rw [Hv.out]; rfl, rfl⟩
 ·have d1 : decide (x < y) = false := decide_eq_false h1
  rw [if_neg h1] at hv
  by_cases h2 : x > y
  ·have d2 : decide (x > y) = true := decide_eq_true h2
   have d3 : decide (y < x) = true := decide_eq_true h2
   rw [if_pos h2] at hv
   have Hv := ek hv
   clear hv h1 h2
   go_wp2
   go_ret
   exact ⟨by rw [Hv.out]; rfl, rfl⟩
  ·have d2 : decide (x > y) = false := decide_eq_false h2
   have d3 : decide (y < x) = false := decide_eq_false h2
   rw [if_neg h2] at hv
   have Hv := ek hv
   clear hv h1 h2
   go_wp2
   go_ret
   exact ⟨by rw [Hv.out]; rfl, rfl⟩
theorem lit_c (x y : Int) (D : Option Addr) (m d : Nat) (w : World) : Calls Tryz.prog 68 #[.agg #[.int .i64 x, .slice D m d], .int .i64 y] w fun e w' => e = .returned (.int .i64 (cmpI x y)) ∧ Below w.heap.size w w' := by
 go_enter Tryz.func68, Tryz.ntmps68
 go_wp2_with fail
 refine (compare_c x y _).mono ?_
 rintro e w1 ⟨rfl, rfl⟩
 go_wp2
 go_ret
 exact ⟨rfl, ej _ _⟩
def BsRel (w : World) (S : List Nat) (a : Int) (n : Nat) (i j : Value) (wr : World) : Prop :=
 ∃ p q : Nat, i = .int .i64 (p : Int) ∧ j = .int .i64 (q : Int) ∧ p ≤ q ∧ q ≤ n ∧ (∀ (t x : Nat), S[t]? = some x → t < p → (x : Int) < a) ∧ (∀ (t x : Nat), S[t]? = some x → q ≤ t → a ≤ (x : Int)) ∧ Below w.heap.size w wr
theorem search_c (A : Option Addr) (n c hi : Nat) (a : Int) (P : List (Nat × List (List (List UInt8)))) (w : World) (hp : PLS w (· < w.heap.size) A n c P) (hn : n ≤ 1000000) (hA : Asc 0 hi (P.map (·.1))) :
  Calls Tryz.prog 67 #[.slice A n c, .int .i64 a, .func (.func 68) #[] #[]] w fun e w' =>
   ∃ (p : Nat) (o : Bool), e = .returned (.tuple #[.int .i64 (p : Int), .bool o]) ∧ p ≤ n ∧ (∀ (t x : Nat), (P.map (·.1))[t]? = some x → t < p → (x : Int) < a) ∧ (∀ (t x : Nat), (P.map (·.1))[t]? = some x → p ≤ t → a ≤ (x : Int)) ∧ Below w.heap.size w w' := by
 have hl := hp.len
 obtain ⟨S, hS⟩ : ∃ S, S = P.map (·.1) := ⟨_, rfl⟩
 have hSl : S.length = n := by rw [hS, List.length_map, hl]
 rw [← hS] at hA ⊢
 have Hp := ek hp; have HA := ek hA; have HS := ek hS; have Hl := ek hl; have HSl := ek hSl
 clear hp hA hS hl hSl
 go_enter Tryz.func67, Tryz.ntmps67
 go_wp2
 go_loopw [9, 10, 11] (fun i j _ wr => BsRel w S a n i j wr) (fun i j _ _ => (intOf j).toNat - (intOf i).toNat)
 case atStart => exact ⟨0, n, rfl, rfl, Nat.zero_le _, Nat.le_refl _, fun t x _ h => (by omega), fun t x h ht => (by rw [List.getElem?_eq_none (by have := HSl.out; omega)] at h; cases h), Below.refl _ _⟩
 case round =>
  obtain ⟨p, q, rfl, rfl, hpq, hqn, hlo, hup, hbel⟩ := hrel
  rename World => wr
  have Hlo := ek hlo; have Hup := ek hup
  clear hlo hup
  by_cases hlt : p < q
  ·obtain ⟨h, hh⟩ : ∃ h, h = (p + q) / 2 := ⟨_, rfl⟩
   have q1 : ((p : Int) + (q : Int)) / 2 = (h : Int) := by omega
   have hhq : h < q := by omega
   have hph : p ≤ h := by omega
   have hhn : h < n := by omega
   obtain ⟨b, off, x, D, m, d, rfl, hb, hc1, hc2, hx, _⟩ := (PLS.keep Hp.out (stays_below hbel (Nat.le_refl _))).at_ (k := h) hhn
   have hxS : S[h]? = some x.1 := by rw [HS.out, List.getElem?_map, hx]; rfl
   have HxS := ek hxS
   clear hxS hx hh
   obtain ⟨v, hv⟩ : ∃ v, v = cmpI (x.1 : Int) a := ⟨_, rfl⟩
   have Hc := ek (fun W => lit_c (x.1 : Int) a D m d W)
   rw [← hv] at Hc
   go_wp2_with fail
   refine (Hc.out _).mono ?_
   rintro e w2 ⟨rfl, b2⟩
   have z2 := hbel.size
   have hbel2 := hbel.trans (b2.mono z2)
   clear b2 hc1 hc2
   by_cases hxa : (x.1 : Int) < a
   ·have d1 : decide (v < 0) = true := by rw [hv, cmpI, if_pos hxa]; rfl
    have hnew : ∀ (t y : Nat), S[t]? = some y → t < h + 1 → (y : Int) < a := fun t y ht hlt2 => by
     by_cases hth : t = h
     ·subst hth
      have := HxS.out
      rw [ht] at this
      injection this with this
      omega
     ·have := HA.out.get t h y x.1 (by omega) ht HxS.out
      omega
    have Hnew := ek hnew
    clear hv hnew
    go_wp2
    go_roundw
    case rel => exact ⟨h + 1, q, by go_num, rfl, by omega, hqn, Hnew.out, Hup.out, hbel2⟩
    case measure => simp [intOf]; omega
   ·have d1 : decide (v < 0) = false := by
     rw [hv, cmpI, if_neg hxa]
     split <;> rfl
    have hnew : ∀ (t y : Nat), S[t]? = some y → h ≤ t → a ≤ (y : Int) := fun t y ht hle => by
     by_cases hth : t = h
     ·subst hth
      have := HxS.out
      rw [ht] at this
      injection this with this
      omega
     ·have := HA.out.get h t x.1 y (by omega) HxS.out ht
      omega
    have Hnew := ek hnew
    clear hv hnew
    go_wp2
    go_roundw
    case rel => exact ⟨p, h, rfl, rfl, hph, by omega, Hlo.out, Hnew.out, hbel2⟩
    case measure => simp [intOf]; omega
  ·have e : q = p := by omega
   subst e
   by_cases hpn : q < n
   ·obtain ⟨b, off, x, D, m, d, rfl, hb, hc1, hc2, hx, _⟩ := (PLS.keep Hp.out (stays_below hbel (Nat.le_refl _))).at_ (k := q) hpn
    clear hx
    go_wp2_with fail
    refine (lit_c _ a D m d _).mono ?_
    rintro e w2 ⟨rfl, b2⟩
    have hbel2 := hbel.trans (b2.mono hbel.size)
    go_wp2
    go_ret2
    exact ⟨q, _, rfl, hqn, Hlo.out, Hup.out, hbel2⟩
   ·go_wp2
    go_ret2
    exact ⟨q, _, rfl, hqn, Hlo.out, Hup.out, hbel⟩
theorem nextStart_c (A : Option Addr) (n c hi a : Nat) (P : List (Nat × List (List (List UInt8)))) (w : World) (hp : PLS w (· < w.heap.size) A n c P) (hn : n ≤ 1000000) (hA : Asc 0 hi (P.map (·.1))) :
  Calls Tryz.prog 43 #[.slice A n c, .int .i64 (a : Int), .int .i64 (hi : Int)] w fun e w' => e = .returned (.int .i64 ((nx (P.map (·.1)) hi a : Nat) : Int)) ∧ Below w.heap.size w w' := by
 have hl := hp.len
 have hnx : ∀ p, p ≤ n → (∀ (t x : Nat), (P.map (·.1))[t]? = some x → t < p → (x : Int) < (a : Int)) → (∀ (t x : Nat), (P.map (·.1))[t]? = some x → p ≤ t → (a : Int) ≤ (x : Int)) → nx (P.map (·.1)) hi a = (match (P.map (·.1))[p]? with | some x => x | none => hi) := fun p h1 h2 h3 =>
  nx_at hA (by rw [List.length_map]; omega) (fun j x hj hlt => by have := h2 j x hj hlt; omega) (fun j x hj hle => by have := h3 j x hj hle; omega)
 obtain ⟨v, hv⟩ : ∃ v, v = nx (P.map (·.1)) hi a := ⟨_, rfl⟩
 rw [← hv] at hnx ⊢
 have Hnx := ek hnx; have Hp := ek hp; have Hc := ek (search_c A n c hi (a : Int) P w hp hn hA); have Hl := ek hl
 clear hnx hv hp hA hl
 go_enter Tryz.func43, Tryz.ntmps43
 go_wp2_with fail
 refine Hc.out.mono ?_
 rintro e w1 ⟨p, o, rfl, hpn, h1, h2, b1⟩
 have hv := Hnx.out p hpn h1 h2
 clear h1 h2
 by_cases hlt : p < n
 ·obtain ⟨b, off, x, D, m, d, rfl, hb, hc1, hc2, hx, _⟩ := (PLS.keep Hp.out (stays_below b1 (Nat.le_refl _))).at_ (k := p) hlt
  rw [List.getElem?_map, hx] at hv
  have hv2 : v = x.1 := hv
  have Hv := ek hv2
  have d1 : ((p : Int) == (n : Int)) = false := beq_eq_false_iff_ne.2 (by omega)
  clear hv hv2 hx
  go_wp2
  go_ret
  exact ⟨by rw [Hv.out]; rfl, b1⟩
 ·have e : p = n := by omega
  subst e
  rw [List.getElem?_eq_none (by rw [List.length_map]; have := Hl.out; omega)] at hv
  have hv2 : v = hi := hv
  have Hv := ek hv2
  clear hv hv2
  go_wp2
  go_ret
  exact ⟨by rw [Hv.out]; rfl, b1⟩
def RetIE (w : World) (C : List Nat) (e : Ending) (w' : World) : Prop :=
 ∃ A c, e = .returned (.tuple #[.slice A C.length c, .int .i64 0]) ∧ Oc 1 w' 3 w.heap.size A C.length c (ivs (ic C)) ∧ Below w.heap.size w w'
theorem ivs_snoc (L : List Nat) (x : Nat) : ivs (ic (L ++ [x])) = ivs (ic L) ++ [.int .i64 (x : Int)] := by simp [ivs, ic]
theorem mul_first (s : Nat) : ivs (ic (mul s 0 (0 + 1))) = [.int .i64 0] := by simp [ivs, ic, mul]
def SzRel (base n s : Nat) (w : World) (o t : Value) (wr : World) : Prop :=
 ∃ A c, ∃ j v : Nat, o = .slice A (j + 1) c ∧ t = .int .i64 (v : Int) ∧ v = (j + 1) * s ∧ (j = 0 ∨ j * s < n) ∧ Oc 1 wr 3 base A (j + 1) c (ivs (ic (mul s 0 (j + 1)))) ∧ Below base w wr
theorem sizes_c (n s : Nat) (hn : n ≤ 100000) (hs : 1 ≤ s) (hs2 : s ≤ 9223372036854775807) (w : World) :
  Calls Tryz.prog 23 #[.int .i64 (n : Int), .int .i64 (s : Int)] w (RetIE w (sz n s)) := by
 have d1 : decide ((n : Int) < 0) = false := decide_eq_false (by omega)
 have d2 : decide (100000 < (n : Int)) = false := decide_eq_false (by omega)
 have d3 : decide ((s : Int) < 1) = false := decide_eq_false (by omega)
 go_enter Tryz.func23, Tryz.ntmps23
 go_wp2
 go_loopw [6, 7] (fun o t wr => SzRel w.heap.size n s w o t wr) (fun _ t _ => n - (intOf t).toNat)
 case atStart => exact ⟨some ⟨w.heap.size, 0, none⟩, 1, 0, s, rfl, rfl, by omega, .inl rfl, by rw [mul_first]; exact Oc.lit (z := 1) w 3 #[.int .i64 0] 1 rfl (by simp [maxLen]), ej _ _⟩
 case round =>
  obtain ⟨A3, c3, j, v, rfl, rfl, hv, hj, hown, hbel⟩ := hrel
  have z3 := hbel.size
  rename World => wr
  obtain ⟨J, hJ⟩ : ∃ J, J = j + 1 := ⟨_, rfl⟩
  have hjn : j ≤ n := by
   rcases hj with hj | hj
   ·omega
   ·exact Nat.le_trans (Nat.le_mul_of_pos_right j (by omega)) (Nat.le_of_lt hj)
  rw [← hJ] at hown ⊢
  by_cases hlt : v < n
  ·have hsv : s ≤ v := by rw [hv]; exact Nat.le_mul_of_pos_left s (by omega)
   have hnext : J * s < n := by rw [hJ, ← hv]; exact hlt
   have hv2 : v + s = (J + 1) * s := by rw [Nat.add_mul, Nat.one_mul, hJ, ← hv]
   obtain ⟨w5, h5⟩ : ∃ w5, w5 = wr.alloc (.cells #[.int .i64 (v : Int)] 3) := ⟨_, rfl⟩
   have b5 : Below wr.heap.size wr w5 := by rw [h5]; exact ej _ _
   have hlit : Rc 1 w5 (wr.heap.size + 1) (some ⟨wr.heap.size, 0, none⟩) 1 1 [.int .i64 (v : Int)] := by rw [h5]; exact Rc.lit (z := 1) wr _ #[.int .i64 (v : Int)] 1 rfl (by simp [maxLen])
   have hown5 := hown.keep b5
   have bw5 := hbel.trans (b5.mono z3)
   have z5 := b5.size
   have hmul : mul s 0 (J + 1) = mul s 0 J ++ [v] := by rw [mul_snoc, Nat.zero_add, hJ, hv]
   have hJn : J ≤ n + 1 := by omega
   have H5 := ek h5; have Hlit := ek hlit; have Hown5 := ek hown5; have Hmul := ek hmul; have Hnext := ek hnext; have Hv2 := ek hv2
   clear h5 hlit hown5 b5 hown hmul hnext hv2 hv hj hJ hjn
   go_wp2_with (at_builtin; rw [← H5.out]; go_must (refine Sl.wpAppAt ity rfl (.tmp 26) (.tmp 28) rfl (n := J) (m := 1) (N := J + 1) (ws := ivs (ic (mul s 0 J)) ++ [.int .i64 (v : Int)]) rfl rfl Hown5.out Hlit.out ?hs1 rfl rfl ?hs4 ?hs5 ?hs6 ?_))
   case hs1 => simp [Value.oneCell']
   case hs4 => omega
   case hs5 => omega
   case hs6 => omega
   intro A8 c8 w8 hown8 hg8
   have bw8 := bw5.trans (hg8.belowC Hown5.out (by omega))
   rw [← ivs_snoc, ← Hmul.out] at hown8
   have Hown8 := ek hown8
   clear hown8 hg8
   go_wp2
   go_roundw
   case rel => exact ⟨A8, c8, J, v + s, rfl, by go_num, Hv2.out, .inr Hnext.out, Hown8.out, bw8⟩
   case measure => simp [intOf]; omega
  ·have hfin := sz_at (n := n) hs (show n ≤ (j + 1) * s by omega) hj
   rw [← hJ] at hfin
   by_cases hn0 : 0 < n
   ·rw [if_pos hn0] at hfin
    have hlen : (sz n s).length = J + 1 := by rw [← hfin, List.length_append, mul_len]; rfl
    obtain ⟨w5, h5⟩ : ∃ w5, w5 = wr.alloc (.cells #[.int .i64 (n : Int)] 3) := ⟨_, rfl⟩
    have b5 : Below wr.heap.size wr w5 := by rw [h5]; exact ej _ _
    have hlit : Rc 1 w5 (wr.heap.size + 1) (some ⟨wr.heap.size, 0, none⟩) 1 1 [.int .i64 (n : Int)] := by rw [h5]; exact Rc.lit (z := 1) wr _ #[.int .i64 (n : Int)] 1 rfl (by simp [maxLen])
    have hown5 := hown.keep b5
    have bw5 := hbel.trans (b5.mono z3)
    have z5 := b5.size
    have hJn : J ≤ n + 1 := by omega
    have H5 := ek h5; have Hlit := ek hlit; have Hown5 := ek hown5; have Hfin := ek hfin; have Hlen := ek hlen
    clear h5 hlit hown5 b5 hown hfin hlen hv hj hJ hjn
    go_wp2_with (at_builtin; rw [← H5.out]; go_must (refine Sl.wpAppAt ity rfl (.tmp 32) (.tmp 34) rfl (n := J) (m := 1) (N := J + 1) (ws := ivs (ic (mul s 0 J)) ++ [.int .i64 (n : Int)]) rfl rfl Hown5.out Hlit.out ?hs1 rfl rfl ?hs4 ?hs5 ?hs6 ?_))
    case hs1 => simp [Value.oneCell']
    case hs4 => omega
    case hs5 => omega
    case hs6 => omega
    intro A8 c8 w8 hown8 hg8
    have bw8 := bw5.trans (hg8.belowC Hown5.out (by omega))
    rw [← ivs_snoc, Hfin.out] at hown8
    have Hown8 := ek hown8
    clear hown8 hg8
    go_wp2
    go_ret2
    exact ⟨A8, c8, by rw [Hlen.out]; rfl, by rw [Hlen.out]; exact Hown8.out, bw8⟩
   ·have e : n = 0 := by omega
    subst e
    rw [if_neg hn0, List.append_nil] at hfin
    have hlen : (sz 0 s).length = J := by rw [← hfin, mul_len]
    have Hown := ek hown; have Hfin := ek hfin; have Hlen := ek hlen
    clear hown hfin hlen hv hj hJ hjn hn0
    go_wp2
    go_ret2
    exact ⟨A3, c3, by rw [Hlen.out]; rfl, by rw [Hlen.out, ← Hfin.out]; exact Hown.out, hbel⟩
end Go.Proofs.YtkekmokdlgocaaaGreatDoor.Pl
