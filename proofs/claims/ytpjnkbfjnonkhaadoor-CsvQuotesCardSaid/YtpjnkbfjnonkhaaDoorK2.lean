/-
  The parser's methods: what each leaves behind a byte, or behind the end.
-/
import Derived.Test.YtpjnkbfjnonkhaaDoorK1
namespace Go.Proofs.YtpjnkbfjnonkhaaDoor
open Go.RowKit

theorem nb {x y : UInt8} (h : x ≠ y) : ((x.toNat : Int) == (y.toNat : Int)) = false := by
  rw [beq_eq_false_iff_ne]
  intro e
  exact h (UInt8.toNat_inj.1 (by omega))

set_option maxRecDepth 100000 in
/-- afterField at the end, or at a byte 10 -/
theorem afterField_fin (g : Nat) (nx : Value) (r : List (List UInt8)) (f : List UInt8) (k : Int) (hk : k = -1 ∨ k = 10) (w : World) (h : Pz w g nx r f) (hr : r.length ≤ 1000000) :
    Calls Tryd.prog 60 #[.pointer (some ⟨g, 0, none⟩), .int .i64 k] w (RetS w g (.fin (r ++ [f]))) := by
  have hfin : ∀ w1, Pz w1 g nx (r ++ [f]) [] → Below g w w1 → RetS w g (.fin (r ++ [f])) (.returned (.tuple #[])) (w1.setCell ⟨g, 3, none⟩ (.bool true)) := fun w1 hp hb => by
    obtain ⟨A, c, D, d, h1, h2, _, _⟩ := hp
    exact ⟨rfl, ⟨nx, A, c, _, h1.set3 (.bool true), oc_setLow h2 (by show g < g + 1; omega) _⟩, below_set hb (Nat.le_refl _) _ _⟩
  have Hfin := Lib.hid hfin; clear hfin
  rcases hk with rfl | rfl
  · go_enter Tryd.func60, Tryd.ntmps60
    go_wp2_with fail
    refine (endField_c g nx r f _ h hr).mono ?_
    rintro e w1 ⟨rfl, hp, hb⟩
    have Hf := Lib.hid (Hfin.out w1 hp hb)
    obtain ⟨A, c, D, d, ⟨c0, c1, c2, c3, c4, f0, f1, f2, f3, f4, hlt⟩, _, _, _⟩ := hp
    go_wp2
    go_end0
    exact Hf.out
  · go_enter Tryd.func60, Tryd.ntmps60
    go_wp2_with fail
    refine (endField_c g nx r f _ h hr).mono ?_
    rintro e w1 ⟨rfl, hp, hb⟩
    have Hf := Lib.hid (Hfin.out w1 hp hb)
    obtain ⟨A, c, D, d, ⟨c0, c1, c2, c3, c4, f0, f1, f2, f3, f4, hlt⟩, _, _, _⟩ := hp
    go_wp2
    go_end0
    exact Hf.out

theorem below_tr {g : Nat} {a b c : World} (h : Below g a b) (k : Below g b c) : Below g a c := h.trans k

set_option maxRecDepth 100000 in
/-- afterField -/
theorem afterField_c (g : Nat) (nx : Value) (r : List (List UInt8)) (f : List UInt8) (c : Option UInt8) (w : World) (h : Pz w g nx r f) (hr : r.length ≤ 1000000) :
    Calls Tryd.prog 60 #[.pointer (some ⟨g, 0, none⟩), cv c] w (RetS w g (Cv.aF r f c)) := by
  match c with
  | none => exact afterField_fin g nx r f (-1) (.inl rfl) w h hr
  | some x =>
    show Calls Tryd.prog _ #[_, .int .i64 (x.toNat : Int)] w (RetS w g (Cv.aF r f (some x)))
    by_cases h44 : x = 44
    · subst h44
      show Calls Tryd.prog _ #[_, .int .i64 44] w _
      by_cases h50 : r.length + 1 = 50
      · have ha : Cv.aF r f (some 44) = .bad 5 := by simp [Cv.aF, h50]
        rw [ha]
        go_enter Tryd.func60, Tryd.ntmps60
        go_wp2_with fail
        refine (endField_c g nx r f _ h hr).mono ?_
        rintro e w1 ⟨rfl, hp, hb⟩
        obtain ⟨A, c, D, d, hbx, _, _, _⟩ := hp
        have e1 : (r ++ [f]).length = 50 := by simp; omega
        rw [e1] at hbx
        have hby := hbx.set0 (fnV .bg g)
        have hb2 := below_set hb (Nat.le_refl g) 0 (fnV .bg g)
        have Hby := Lib.hid hby; have Hb2 := Lib.hid hb2; clear hb2 hb
        obtain ⟨c0, c1, c2, c3, c4, f0, f1, f2, f3, f4, hlt⟩ := hbx
        obtain ⟨k0, k1, k2, k3, k4, l0, l1, l2, l3, l4, hlt2⟩ := hby
        clear h
        simp only [fnV, fnN] at k0 k1 k2 k3 k4 l0 l1 l2 l3 l4 hlt2
        go_wp2_with fail
        refine (fail_c g 5 _ _ _ _ _ _ Hby.out).mono ?_
        rintro e w' ⟨rfl, h2, h3⟩
        go_wp2
        go_end0
        exact ⟨rfl, h2, Hb2.out.trans h3⟩
      · have ha : Cv.aF r f (some 44) = .go .bg (r ++ [f]) [] := by simp [Cv.aF, h50]
        rw [ha]
        have h50' : (((r ++ [f]).length : Int) == 50) = false := by simp; omega
        go_enter Tryd.func60, Tryd.ntmps60
        go_wp2_with fail
        refine (endField_c g nx r f _ h hr).mono ?_
        rintro e w1 ⟨rfl, hp, hb⟩
        have hp0 := hp.set0 (fnV .bg g)
        have hb2 := below_set hb (Nat.le_refl g) 0 (fnV .bg g)
        have Hp0 := Lib.hid hp0; have Hb2 := Lib.hid hb2; clear hb2 hb hp0
        obtain ⟨A, c, D, d, hbx, _, _, _⟩ := hp
        have hby := hbx.set0 (fnV .bg g)
        obtain ⟨c0, c1, c2, c3, c4, f0, f1, f2, f3, f4, hlt⟩ := hbx
        obtain ⟨k0, k1, k2, k3, k4, l0, l1, l2, l3, l4, hlt2⟩ := hby
        clear h
        simp only [fnV, fnN] at k0 k1 k2 k3 k4 l0 l1 l2 l3 l4 hlt2
        go_wp2
        go_end0
        exact ⟨rfl, Hp0.out, Hb2.out⟩
    · have d44 : ((x.toNat : Int) == 44) = false := nb (y := 44) h44
      by_cases h13 : x = 13
      · subst h13
        have ha : Cv.aF r f (some 13) = .go .ar r f := rfl
        rw [ha]
        show Calls Tryd.prog _ #[_, .int .i64 13] w _
        have hp0 := h.set0 (fnV .ar g)
        have hb2 := below_set (Below.refl g w) (Nat.le_refl g) 0 (fnV .ar g)
        have Hp0 := Lib.hid hp0; have Hb2 := Lib.hid hb2; clear hb2 hp0
        obtain ⟨A, c, D, d, ⟨c0, c1, c2, c3, c4, f0, f1, f2, f3, f4, hlt⟩, _, _, _⟩ := h
        go_enter Tryd.func60, Tryd.ntmps60
        go_wp2
        go_end0
        exact ⟨rfl, Hp0.out, Hb2.out⟩
      · have d13 : ((x.toNat : Int) == 13) = false := nb (y := 13) h13
        by_cases h10 : x = 10
        · subst h10
          exact afterField_fin g nx r f 10 (.inr rfl) w h hr
        · have d10 : ((x.toNat : Int) == 10) = false := nb (y := 10) h10
          have dm : ((x.toNat : Int) == -1) = false := by rw [beq_eq_false_iff_ne]; omega
          have ha : Cv.aF r f (some x) = .bad 3 := by simp [Cv.aF, h44, h13, h10]
          rw [ha]
          obtain ⟨A, c, D, d, hbx, _, _, _⟩ := h
          have Hbx := Lib.hid hbx; clear hbx
          go_enter Tryd.func60, Tryd.ntmps60
          go_wp2_with fail
          refine (fail_c g 3 _ _ _ _ _ _ Hbx.out).mono ?_
          rintro e w' ⟨rfl, h2, h3⟩
          go_wp2
          go_end0
          exact ⟨rfl, h2, h3⟩

set_option maxRecDepth 100000 in
/-- afterReturn -/
theorem afterReturn_c (g : Nat) (nx : Value) (r : List (List UInt8)) (f : List UInt8) (c : Option UInt8) (w : World) (h : Pz w g nx r f) (hr : r.length ≤ 1000000) :
    Calls Tryd.prog 72 #[.pointer (some ⟨g, 0, none⟩), cv c] w (RetS w g (Cv.arS r f c)) := by
  have hbad : ∀ (k : Int), (k == 10) = false → Calls Tryd.prog 72 #[.pointer (some ⟨g, 0, none⟩), .int .i64 k] w (RetS w g (.bad 3)) := fun k hk => by
    have hk2 : (k != 10) = true := by simp [bne, hk]
    obtain ⟨A, c, D, d, hbx, _, _, _⟩ := h
    have Hbx := Lib.hid hbx; clear hbx
    go_enter Tryd.func72, Tryd.ntmps72
    go_wp2_with fail
    refine (fail_c g 3 _ _ _ _ _ _ Hbx.out).mono ?_
    rintro e w' ⟨rfl, h2, h3⟩
    go_wp2
    go_end0
    exact ⟨rfl, h2, h3⟩
  match c with
  | none => exact hbad (-1) rfl
  | some x =>
    by_cases h10 : x = 10
    · subst h10
      have ha : Cv.arS r f (some 10) = Cv.aF r f (some 10) := rfl
      rw [ha]
      have H := Lib.hid (afterField_c g nx r f (some 10) w h hr)
      clear hbad h
      show Calls Tryd.prog _ #[_, .int .i64 10] w _
      go_enter Tryd.func72, Tryd.ntmps72
      go_wp2_with fail
      refine H.out.mono ?_
      rintro e w' ⟨rfl, h2, h3⟩
      go_wp2
      go_end0
      exact ⟨rfl, h2, h3⟩
    · have ha : Cv.arS r f (some x) = .bad 3 := by simp [Cv.arS, h10]
      rw [ha]
      exact hbad _ (nb (y := 10) h10)

set_option maxRecDepth 100000 in
/-- afterQuote -/
theorem afterQuote_c (g : Nat) (nx : Value) (r : List (List UInt8)) (f : List UInt8) (c : Option UInt8) (w : World) (h : Pz w g nx r f) (hr : r.length ≤ 1000000) (hf : f.length ≤ 1000000) :
    Calls Tryd.prog 57 #[.pointer (some ⟨g, 0, none⟩), cv c] w (RetS w g (Cv.aqS r f c)) := by
  have hother : ∀ (k : Int), (k == 34) = false → ∀ o, Calls Tryd.prog 60 #[.pointer (some ⟨g, 0, none⟩), .int .i64 k] w (RetS w g o) → Calls Tryd.prog 57 #[.pointer (some ⟨g, 0, none⟩), .int .i64 k] w (RetS w g o) := fun k hk o H => by
    have H := Lib.hid H
    go_enter Tryd.func57, Tryd.ntmps57
    go_wp2_with fail
    refine H.out.mono ?_
    rintro e w' ⟨rfl, h2, h3⟩
    go_wp2
    go_end0
    exact ⟨rfl, h2, h3⟩
  have H := afterField_c g nx r f c w h hr
  match c, H with
  | none, H => exact hother (-1) rfl _ H
  | some x, H =>
    by_cases h34 : x = 34
    · subst h34
      have ha : Cv.aqS r f (some 34) = Cv.ad .qu r f 34 := rfl
      rw [ha]
      have hp0 := h.set0 (fnV .qu g)
      have hb2 := below_set (Below.refl g w) (Nat.le_refl g) 0 (fnV .qu g)
      have Hp0 := Lib.hid (add_c g .qu r f 34 _ hp0 hf); have Hb2 := Lib.hid hb2; clear hb2 hp0
      obtain ⟨A, c, D, d, ⟨c0, c1, c2, c3, c4, f0, f1, f2, f3, f4, hlt⟩, _, _, _⟩ := h
      clear H hother
      show Calls Tryd.prog _ #[_, .int .i64 34] w _
      go_enter Tryd.func57, Tryd.ntmps57
      go_wp2_with fail
      refine Hp0.out.mono ?_
      rintro e w' ⟨rfl, h2, h3⟩
      go_wp2
      go_end0
      exact ⟨rfl, h2, Hb2.out.trans h3⟩
    · have ha : Cv.aqS r f (some x) = Cv.aF r f (some x) := by simp [Cv.aqS, h34]
      rw [ha]
      exact hother _ (nb (y := 34) h34) _ H

set_option maxRecDepth 100000 in
/-- quoted -/
theorem quoted_c (g : Nat) (r : List (List UInt8)) (f : List UInt8) (c : Option UInt8) (w : World) (h : Pz w g (fnV .qu g) r f) (hf : f.length ≤ 1000000) :
    Calls Tryd.prog 40 #[.pointer (some ⟨g, 0, none⟩), cv c] w (RetS w g (Cv.quS r f c)) := by
  match c with
  | none =>
    show Calls Tryd.prog _ #[_, .int .i64 (-1)] w (RetS w g (.bad 3))
    obtain ⟨A, c, D, d, hbx, _, _, _⟩ := h
    have Hbx := Lib.hid hbx; clear hbx
    go_enter Tryd.func40, Tryd.ntmps40
    go_wp2_with fail
    refine (fail_c g 3 _ _ _ _ _ _ Hbx.out).mono ?_
    rintro e w' ⟨rfl, h2, h3⟩
    go_wp2
    go_end0
    exact ⟨rfl, h2, h3⟩
  | some x =>
    by_cases h34 : x = 34
    · subst h34
      have ha : Cv.quS r f (some 34) = .go .aq r f := rfl
      rw [ha]
      have hp0 := h.set0 (fnV .aq g)
      have hb2 := below_set (Below.refl g w) (Nat.le_refl g) 0 (fnV .aq g)
      have Hp0 := Lib.hid hp0; have Hb2 := Lib.hid hb2; clear hb2 hp0
      obtain ⟨A, c, D, d, ⟨c0, c1, c2, c3, c4, f0, f1, f2, f3, f4, hlt⟩, _, _, _⟩ := h
      show Calls Tryd.prog _ #[_, .int .i64 34] w _
      simp only [fnV, fnN] at c0
      go_enter Tryd.func40, Tryd.ntmps40
      go_wp2
      go_end0
      exact ⟨rfl, Hp0.out, Hb2.out⟩
    · have ha : Cv.quS r f (some x) = Cv.ad .qu r f x := by simp [Cv.quS, h34]
      rw [ha]
      have d34 : ((x.toNat : Int) == 34) = false := nb (y := 34) h34
      have dm : ((x.toNat : Int) == -1) = false := by rw [beq_eq_false_iff_ne]; omega
      have H := Lib.hid (add_c g .qu r f x w h hf)
      clear h
      show Calls Tryd.prog _ #[_, .int .i64 (x.toNat : Int)] w _
      go_enter Tryd.func40, Tryd.ntmps40
      go_wp2_with fail
      refine H.out.mono ?_
      rintro e w' ⟨rfl, h2, h3⟩
      go_wp2
      go_end0
      exact ⟨rfl, h2, h3⟩

set_option maxRecDepth 100000 in
/-- unquoted -/
theorem unquoted_c (g : Nat) (r : List (List UInt8)) (f : List UInt8) (c : Option UInt8) (w : World) (h : Pz w g (fnV .un g) r f) (hr : r.length ≤ 1000000) (hf : f.length ≤ 1000000) :
    Calls Tryd.prog 41 #[.pointer (some ⟨g, 0, none⟩), cv c] w (RetS w g (Cv.unS r f c)) := by
  have hother : ∀ (k : Int), (k = 44 ∨ k = 34 ∨ k = 10 ∨ k = 13 ∨ k = -1) → ∀ o, Calls Tryd.prog 60 #[.pointer (some ⟨g, 0, none⟩), .int .i64 k] w (RetS w g o) → Calls Tryd.prog 41 #[.pointer (some ⟨g, 0, none⟩), .int .i64 k] w (RetS w g o) := fun k hk o H => by
    have H := Lib.hid H
    rcases hk with rfl | rfl | rfl | rfl | rfl <;>
    (go_enter Tryd.func41, Tryd.ntmps41
     go_wp2_with fail
     refine H.out.mono ?_
     rintro e w' ⟨rfl, h2, h3⟩
     go_wp2
     go_end0
     exact ⟨rfl, h2, h3⟩)
  have H := afterField_c g _ r f c w h hr
  match c, H with
  | none, H => exact hother (-1) (by omega) _ H
  | some x, H =>
    by_cases hx : x = 44 ∨ x = 34 ∨ x = 10 ∨ x = 13
    · have ha : Cv.unS r f (some x) = Cv.aF r f (some x) := if_pos hx
      rw [ha]
      refine hother (x.toNat : Int) ?_ _ H
      rcases hx with rfl | rfl | rfl | rfl
      · exact .inl rfl
      · exact .inr (.inl rfl)
      · exact .inr (.inr (.inl rfl))
      · exact .inr (.inr (.inr (.inl rfl)))
    · have ha : Cv.unS r f (some x) = Cv.ad .un r f x := if_neg hx
      rw [ha]
      simp only [not_or] at hx
      have d44 : ((x.toNat : Int) == 44) = false := nb (y := 44) hx.1
      have d34 : ((x.toNat : Int) == 34) = false := nb (y := 34) hx.2.1
      have d10 : ((x.toNat : Int) == 10) = false := nb (y := 10) hx.2.2.1
      have d13 : ((x.toNat : Int) == 13) = false := nb (y := 13) hx.2.2.2
      have dm : ((x.toNat : Int) == -1) = false := by rw [beq_eq_false_iff_ne]; omega
      clear hother H
      have H := Lib.hid (add_c g .un r f x w h hf)
      clear h
      show Calls Tryd.prog _ #[_, .int .i64 (x.toNat : Int)] w _
      go_enter Tryd.func41, Tryd.ntmps41
      go_wp2_with fail
      refine H.out.mono ?_
      rintro e w' ⟨rfl, h2, h3⟩
      go_wp2
      go_end0
      exact ⟨rfl, h2, h3⟩

set_option maxRecDepth 100000 in
/-- begin -/
theorem begin_c (g : Nat) (nx : Value) (r : List (List UInt8)) (f : List UInt8) (c : Option UInt8) (w : World) (h : Pz w g nx r f) (hr : r.length ≤ 1000000) (hf : f.length ≤ 1000000) :
    Calls Tryd.prog 31 #[.pointer (some ⟨g, 0, none⟩), cv c] w (RetS w g (Cv.bgS r f c)) := by
  have hp0 := h.set0 (fnV .un g)
  have hb2 := below_set (Below.refl g w) (Nat.le_refl g) 0 (fnV .un g)
  have H := unquoted_c g r f c _ hp0 hr hf
  have hother : ∀ (k : Int), (k == 34) = false → ∀ o, Calls Tryd.prog 41 #[.pointer (some ⟨g, 0, none⟩), .int .i64 k] (w.setCell ⟨g, 0, none⟩ (fnV .un g)) (RetS (w.setCell ⟨g, 0, none⟩ (fnV .un g)) g o) → Calls Tryd.prog 31 #[.pointer (some ⟨g, 0, none⟩), .int .i64 k] w (RetS w g o) := fun k hk o H => by
    have H := Lib.hid H; have Hb2 := Lib.hid hb2; clear hb2 hp0
    obtain ⟨A, c, D, d, ⟨c0, c1, c2, c3, c4, f0, f1, f2, f3, f4, hlt⟩, _, _, _⟩ := h
    go_enter Tryd.func31, Tryd.ntmps31
    go_wp2_with fail
    refine H.out.mono ?_
    rintro e w' ⟨rfl, h2, h3⟩
    go_wp2
    go_end0
    exact ⟨rfl, h2, Hb2.out.trans h3⟩
  match c, H with
  | none, H => exact hother (-1) rfl _ H
  | some x, H =>
    by_cases h34 : x = 34
    · subst h34
      have ha : Cv.bgS r f (some 34) = .go .qu r f := rfl
      rw [ha]
      clear hother hp0 hb2 H
      have hp0 := h.set0 (fnV .qu g)
      have hb2 := below_set (Below.refl g w) (Nat.le_refl g) 0 (fnV .qu g)
      have Hp0 := Lib.hid hp0; have Hb2 := Lib.hid hb2; clear hb2 hp0
      obtain ⟨A, c, D, d, ⟨c0, c1, c2, c3, c4, f0, f1, f2, f3, f4, hlt⟩, _, _, _⟩ := h
      show Calls Tryd.prog _ #[_, .int .i64 34] w _
      go_enter Tryd.func31, Tryd.ntmps31
      go_wp2
      go_end0
      exact ⟨rfl, Hp0.out, Hb2.out⟩
    · have ha : Cv.bgS r f (some x) = Cv.unS r f (some x) := by simp [Cv.bgS, h34]
      rw [ha]
      exact hother _ (nb (y := 34) h34) _ H

/-- The parser's next method, whichever it is. -/
theorem step_c (g : Nat) (s : Cv.St) (r : List (List UInt8)) (f : List UInt8) (c : Option UInt8) (w : World) (h : Pz w g (fnV s g) r f) (hr : r.length ≤ 1000000) (hf : f.length ≤ 1000000) :
    Calls Tryd.prog (fnN s) #[.pointer (some ⟨g, 0, none⟩), cv c] w (RetS w g (Cv.stp s r f c)) := by
  cases s with
  | bg => exact begin_c g _ r f c w h hr hf
  | un => exact unquoted_c g r f c w h hr hf
  | qu => exact quoted_c g r f c w h hf
  | aq => exact afterQuote_c g _ r f c w h hr hf
  | ar => exact afterReturn_c g _ r f c w h hr
end Go.Proofs.YtpjnkbfjnonkhaaDoor
