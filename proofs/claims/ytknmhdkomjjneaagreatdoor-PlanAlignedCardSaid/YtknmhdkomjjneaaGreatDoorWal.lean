/-
  The walk of the law PlanAligned.
-/
import Derived.Test.YtknmhdkomjjneaaGreatDoorJ38
namespace Go.Proofs.YtknmhdkomjjneaaGreatDoor
open Go.RowKit Pl

theorem cut_strict (l : List Int) : ∀ k, (Tm.cut l k).Pairwise (· < ·)
  | 0 => by simp [Tm.cut]
  | k + 1 => by
    have ih := cut_strict l k
    have h2 := (Tm.cut_rise l k).2.1
    rw [Tm.cut]
    split
    · refine List.pairwise_append.2 ⟨ih, by simp, fun x hx y hy => ?_⟩
      have := h2 x hx
      simp at hy
      omega
    · exact ih
theorem cuts_isC (n : Nat) (l : List Int) : IsC n (Tm.cuts n l) := by
  obtain ⟨h1, -, -, h4⟩ := Tm.cuts_rise n l
  have hs : (Tm.cuts n l).Pairwise (· < ·) := by
    by_cases h : 0 < n
    · rw [Tm.cuts_pos n l h]
      refine List.pairwise_append.2 ⟨cut_strict l _, by simp, fun x hx y hy => ?_⟩
      have := (Tm.cut_rise l (n - 1)).2.1 x hx
      simp at hy
      omega
    · rw [Tm.cuts, if_neg h]
      exact cut_strict l 0
  refine ⟨h1, h4, fun i a b ha hb => ?_⟩
  have hi : i + 1 < (Tm.cuts n l).length := by
    rcases Nat.lt_or_ge (i + 1) (Tm.cuts n l).length with h | h
    · exact h
    · rw [List.getElem?_eq_none h] at hb; cases hb
  have := List.pairwise_iff_getElem.1 hs i (i + 1) (by omega) hi (by omega)
  rw [List.getElem?_eq_getElem (by omega)] at ha hb
  injection ha with ha
  injection hb with hb
  omega

def AgRel (w : World) (m : Nat) (i : Value) (wr : World) : Prop := ∃ j : Nat, i = .int .i64 (j : Int) ∧ 1 ≤ j ∧ j ≤ m ∧ Below w.heap.size w wr
def AhRel (w : World) (S : List Nat) (x m : Nat) (b k : Value) (wr : World) : Prop := ∃ t : Nat, k = .int .i64 (t : Int) ∧ t ≤ m ∧ b = .bool (decide (x ∈ S.take t)) ∧ Below w.heap.size w wr

set_option maxRecDepth 100000 in
set_option maxHeartbeats 1000000 in
theorem planAligned_big (f k : Int) (A : Option Addr) (n c : Nat) (A' : Option Addr) (m d : Nat) (w : World) (hn : n ≤ 9223372036854775807) (hm : m ≤ 9223372036854775807) (hx : Sq.Mx w) (h : 1500 < n ∨ 100 < m) :
    Calls Tryz.prog 6 #[flv f k A n c, .slice A' m d] w fun e w' => e = .returned (.bool true) ∧ Below w.heap.size w w' := by
  obtain ⟨w0, hw0⟩ : ∃ w0, w0 = w.alloc (.cells #[.int .i64 f, .int .i64 k, .slice A n c] 24) := ⟨_, rfl⟩
  have b0 : Below w.heap.size w w0 := by rw [hw0]; exact (Below.refl _ _).alloc (Nat.le_refl _) _
  have x0 : Bx w0 w.heap.size (.int .i64 f) (.int .i64 k) (.slice A n c) := by rw [hw0]; exact Bx.made _ _ _ _ _
  have z0 := b0.size
  have Ha := Lib.hid (alive_c w0 (hx.below b0 hx.2))
  have W0 := Lib.hid hw0
  obtain ⟨c0, c1, c2, -, -, -, hlt⟩ := x0
  clear hw0 hx
  by_cases h1 : 1500 < n
  · have d1 : decide ((1500 : Int) < (n : Int)) = true := by simp; omega
    clear h
    go_enter Tryz.func6, Tryz.ntmps6
    go_wp2_with (rw [← W0.out])
    refine Ha.out.mono ?_
    rintro e w2 ⟨rfl, hb2⟩
    have bb := b0.trans (hb2.mono z0)
    go_wp2
    go_ret
    exact ⟨rfl, bb⟩
  · have h2 : 100 < m := h.resolve_left h1
    have d1 : decide ((1500 : Int) < (n : Int)) = false := by simp; omega
    have d2 : decide ((100 : Int) < (m : Int)) = true := by simp; omega
    clear h
    go_enter Tryz.func6, Tryz.ntmps6
    go_wp2_with (rw [← W0.out])
    refine Ha.out.mono ?_
    rintro e w2 ⟨rfl, hb2⟩
    have bb := b0.trans (hb2.mono z0)
    go_wp2
    go_ret
    exact ⟨rfl, bb⟩

set_option maxRecDepth 100000 in
set_option maxHeartbeats 4000000 in
theorem planAligned_walk (f k : Int) (A : Option Addr) (n c : Nat) (l : List UInt8) (A' : Option Addr) (m d : Nat) (cs : List Int) (w : World) (_ : I64 f) (_ : I64 k) (hr : Rb w w.heap.size A n c l) (hc : Rc 1 w w.heap.size A' m d (cs.map fun x => Value.int .i64 x)) (hx : Sq.Mx w) :
    Calls Tryz.prog 6 #[flv f k A n c, .slice A' m d] w fun e w' => e = .returned (.bool true) ∧ Below w.heap.size w w' := by
  have hmax : n ≤ 9223372036854775807 := by have h2 := hr.2.1; have h3 := hr.2.2.1; unfold maxLen at h3; omega
  have hmax2 : m ≤ 9223372036854775807 := by have h2 := hc.2.1; have h3 := hc.2.2.1; unfold maxLen at h3; omega
  by_cases hbig : 1500 < n ∨ 100 < m
  · exact planAligned_big f k A n c A' m d w hmax hmax2 hx hbig
  · have hn : n ≤ 1500 := by omega
    have hm : m ≤ 100 := by omega
    have d1 : decide ((1500 : Int) < (n : Int)) = false := by simp; omega
    have d2 : decide ((100 : Int) < (m : Int)) = false := by simp; omega
    obtain ⟨w0, hw0⟩ : ∃ w0, w0 = w.alloc (.cells #[.int .i64 f, .int .i64 k, .slice A n c] 24) := ⟨_, rfl⟩
    have b0 : Below w.heap.size w w0 := by rw [hw0]; exact (Below.refl _ _).alloc (Nat.le_refl _) _
    have x0 : Bx w0 w.heap.size (.int .i64 f) (.int .i64 k) (.slice A n c) := by rw [hw0]; exact Bx.made _ _ _ _ _
    have z0 := b0.size
    have W0 := Lib.hid hw0; have X0 := Lib.hid x0; have Hx := Lib.hid hx; have Hr := Lib.hid hr; have Hc := Lib.hid hc
    obtain ⟨o, ho⟩ : ∃ o, o = isF f k := ⟨_, rfl⟩
    have hma := fun W => rmay_c f k A n c o (by rw [ho]; simp; omega) W
    have Hma := Lib.hid hma; have Ho := Lib.hid ho
    obtain ⟨c0, c1, c2, -, -, -, hlt⟩ := x0
    clear hw0 hx hr hc hma ho hbig
    go_enter Tryz.func6, Tryz.ntmps6
    go_wp2_with (rw [← W0.out])
    refine (plain_c f k A n c _).mono ?_
    rintro e w1 ⟨rfl, b1⟩
    have z1 := b1.size
    go_wp2_with fail
    refine (Hma.out _).mono ?_
    rintro e w2 ⟨rfl, b2⟩
    have z2 := b2.size
    have b02 := b1.trans (b2.mono z1)
    have bb2 := b0.trans (b02.mono z0)
    have X2 := Lib.hid (X0.out.below b02 X0.out.lt); have BB2 := Lib.hid bb2
    clear c0 c1 c2 b1 b2 b02 bb2
    cases o with
    | false =>
      go_wp2_with fail
      refine (alive_c _ (Hx.out.below BB2.out Hx.out.2)).mono ?_
      rintro e w3 ⟨rfl, b3⟩
      have bb := BB2.out.trans (b3.mono (by omega))
      go_wp2
      go_ret
      exact ⟨rfl, bb⟩
    | true =>
      have hF : isF f k = true := Ho.out.symm
      obtain ⟨C, hC, hcu⟩ := isC_cu (cuts_isC n cs)
      have hcuts := cuts_c A' n m d w.heap.size cs w2 (Hc.out.below BB2.out) (by omega) (by omega)
      rw [hC] at hcuts
      have hasc := asc_F hF l
      rw [Hr.out.len] at hasc
      obtain ⟨P, hP⟩ : ∃ P, P = (scF f k l).1 := ⟨_, rfl⟩
      rw [← hP] at hasc
      obtain ⟨S, hS⟩ : ∃ S, S = P.map (·.1) := ⟨_, rfl⟩
      rw [← hS] at hasc
      obtain ⟨C1, hC1⟩ : ∃ C1, C1 = al S n C := ⟨_, rfl⟩
      have hcu1 := al_cu hasc hcu
      have hidem := al_al hasc hcu
      have hin := al_in hasc hcu
      have hlen := al_len S n C (fun e => by have := (cu_pos hcu).1; rw [e] at this; simp at this)
      rw [← hC1] at hcu1 hidem hin hlen
      have hCl := cu_len hcu
      have hC1l := cu_len hcu1
      have hal := fun (E : Option Addr) (m d : Nat) (D : List Nat) (W : World) (h1 : Below w2.heap.size w2 W) (h2 : Rc 1 W W.heap.size E m d (ivs (ic D))) (h3 : Cu n D) =>
        align_ok f k A n c l E m d D W ((Hr.out.below (BB2.out.trans (h1.mono (by omega)))).more (by have := h1.size; omega)) (by omega) h2 h3 hF (Hx.out.below (BB2.out.trans (h1.mono (by omega))) Hx.out.2)
      have hmk := fun (E : Option Addr) (m d : Nat) (D : List Nat) (W : World) (h1 : Below w2.heap.size w2 W) (h2 : Rc 1 W W.heap.size E m d (ivs (ic D))) (h3 : Cu n D) =>
        make_ok f k A n c l E m d D W ((Hr.out.below (BB2.out.trans (h1.mono (by omega)))).more (by have := h1.size; omega)) (by omega) h2 h3 hF (Hx.out.below (BB2.out.trans (h1.mono (by omega))) Hx.out.2)
      have hsc := fun (W : World) (h1 : Below w2.heap.size w2 W) =>
        scan_ok f k A n c l W ((Hr.out.below (BB2.out.trans (h1.mono (by omega)))).more (by have := h1.size; omega)) (by omega) hF (Hx.out.below (BB2.out.trans (h1.mono (by omega))) Hx.out.2)
      rw [← hP, ← hS] at hal
      have Hcuts := Lib.hid hcuts; have Hal := Lib.hid hal; have Hmk := Lib.hid hmk; have Hsc := Lib.hid hsc; have HC1 := Lib.hid hC1; have Hcu := Lib.hid hcu; have Hcu1 := Lib.hid hcu1; have Hidem := Lib.hid hidem; have Hin := Lib.hid hin; have HP := Lib.hid hP; have HS := Lib.hid hS
      have X2' := X2.out
      obtain ⟨c0, c1, c2, -, -, -, hlt2⟩ := X2'
      clear hcuts hal hmk hsc hC1 hcu hcu1 hidem hin hasc hP hS hF hC
      go_wp2_with fail
      refine Hcuts.out.mono ?_
      rintro e w3 ⟨A3, c3, rfl, h3, b3⟩
      have z3 := b3.size
      have hl3 : (ic C).length = C.length := ic_len C
      rw [hl3] at h3 ⊢
      have x3 := X2.out.below b3 hlt2
      have H4 := Lib.hid (Hal.out A3 C.length c3 C w3 b3 (h3.rc.more (Nat.le_refl _)) Hcu.out)
      have X3 := Lib.hid x3; have B3 := Lib.hid b3
      clear c0 c1 c2 h3 b3
      obtain ⟨c0, c1, c2, -, -, -, hlt3⟩ := x3
      go_wp2_with fail
      refine H4.out.mono ?_
      rw [← HC1.out]
      rintro e w4 ⟨A4, c4, rfl, h4, b4⟩
      have z4 := b4.size
      have b24 := B3.out.trans (b4.mono z3)
      have x4 := X3.out.below b4 hlt3
      have h5 := Hal.out A4 C1.length c4 C1 w4 b24 h4.rc Hcu1.out
      rw [Hidem.out] at h5
      have H5 := Lib.hid h5; have R4 := Lib.hid h4.rc; have X4 := Lib.hid x4; have B24 := Lib.hid b24
      clear c0 c1 c2 h4 b4 h5 b24
      obtain ⟨c0, c1, c2, -, -, -, hlt4⟩ := x4
      go_wp2_with fail
      refine H5.out.mono ?_
      rintro e w5 ⟨A5, c5, rfl, h5, b5⟩
      have z5 := b5.size
      have b25 := B24.out.trans (b5.mono (by omega))
      have x5 := X4.out.below b5 hlt4
      have r45 := (R4.out.below b5).more z5
      have H6 := Lib.hid (Hmk.out A4 C1.length c4 C1 w5 b25 r45 Hcu1.out)
      have R5 := Lib.hid h5.rc; have R45 := Lib.hid r45; have X5 := Lib.hid x5; have B25 := Lib.hid b25
      clear c0 c1 c2 h5 b5 b25 r45
      obtain ⟨c0, c1, c2, -, -, -, hlt5⟩ := x5
      go_wp2_with fail
      refine H6.out.mono ?_
      rintro e w6 ⟨A6, c6, D6, d6, rfl, -, -, b6⟩
      have z6 := b6.size
      have x6 := X5.out.below b6 hlt5
      obtain ⟨w7, hw7⟩ : ∃ w7, w7 = w6.alloc (.cells #[.slice A6 C1.length c6, .slice D6 (insF f l C1).length d6, .int .i64 ((scF f k l).2.1 : Int)] 36) := ⟨_, rfl⟩
      have b67 : Below w6.heap.size w6 w7 := by rw [hw7]; exact (Below.refl _ _).alloc (Nat.le_refl _) _
      have z7 := b67.size
      have b57 := b6.trans (b67.mono z6)
      have b27 := B25.out.trans (b57.mono (by omega))
      have x7 := x6.below b67 x6.lt
      have H8 := Lib.hid (Hsc.out w7 b27)
      have R47 := Lib.hid ((R45.out.below b57).more (show w5.heap.size ≤ w7.heap.size by omega)); have R57 := Lib.hid ((R5.out.below b57).more (show w5.heap.size ≤ w7.heap.size by omega))
      have W7 := Lib.hid hw7; have B27 := Lib.hid b27; have X7 := Lib.hid x7
      clear c0 c1 c2 b6 hw7 b67 b57 b27 x6
      obtain ⟨c0, c1, c2, -, -, -, hlt7⟩ := x7
      go_wp2_with (rw [← W7.out])
      refine H8.out.mono ?_
      rintro e w8 ⟨A8, c8, he, hp8, b8⟩
      rw [← HP.out] at he hp8
      subst he
      have z8 := b8.size
      have b28 := B27.out.trans (b8.mono (by omega))
      have bb8 := BB2.out.trans (b28.mono (by omega))
      have R48 := Lib.hid ((R47.out.below b8).more z8); have R58 := Lib.hid ((R57.out.below b8).more z8)
      have Hp8 := Lib.hid (show PLS w8 (· < w8.heap.size) A8 P.length c8 P from hp8.keep (stays_weak fr_lt))
      have BB8 := Lib.hid bb8
      have hls : (C1.length : Int) ≤ (C.length : Int) := by omega
      have dl : decide ((C.length : Int) < (C1.length : Int)) = false := decide_eq_false (by omega)
      clear c0 c1 c2 b8 b28 bb8 hp8
      go_wp2_with fail
      refine (ints_c A5 A4 _ c5 _ c4 (ic C1) (ic C1) w8 R58.out R48.out true (by simp)).mono ?_
      rintro e w9 ⟨rfl, b9⟩
      have z9 := b9.size
      have bb9 := BB8.out.trans (b9.mono (by omega))
      have R49 := Lib.hid ((R48.out.below b9).more z9); have Hp9 := Lib.hid (PLS.keep Hp8.out (stays_below b9 z9)); have BB9 := Lib.hid bb9
      have hPl : P.length ≤ 1000000 := by
        rcases asc_len (show Asc 0 n (P.map (·.1)) from by rw [HP.out, ← Hr.out.len]; exact asc_F Ho.out.symm l) with h | h
        · rw [List.length_map] at h; omega
        · have := congrArg List.length h; rw [List.length_map] at this; rw [this]; simp
      clear b9 bb9
      go_wp2
      go_loopw [15, 16, 17] (fun i _ _ wr => AgRel w9 (C1.length + 1) i wr) (fun i _ _ _ => C1.length + 1 - (intOf i).toNat)
      case atStart => exact ⟨1, rfl, Nat.le_refl _, by omega, Below.refl _ _⟩
      case round =>
        obtain ⟨j, rfl, hj1, hjm, hbel⟩ := hrel
        rename World => wr
        have zr := hbel.size
        by_cases hlt : j + 1 < C1.length
        · obtain ⟨ab, ao, x, rfl, hab, hcx, hx⟩ := (R49.out.below hbel).int (k := j) (by omega)
          obtain ⟨X, hX, rfl⟩ := ic_inv hx
          have hXS := Hin.out j X hj1 hlt hX
          have HXS := Lib.hid hXS
          have hab2 : ab < wr.heap.size := by omega
          have hcl := Lib.hid hcx
          clear hx hX hXS hcx
          have hj2 : (j : Int) < (C1.length : Int) := by omega
          go_wp2
          go_loopw [16, 17] (fun b t wr' => AhRel wr S X P.length b t wr') (fun _ t _ => P.length - (intOf t).toNat)
          case atStart => exact ⟨0, rfl, Nat.zero_le _, by simp, Below.refl _ _⟩
          case round =>
            obtain ⟨t, rfl, ht, rfl, hbel2⟩ := hrel
            rename World => wq
            have hcx := (hbel2.cell (p := ⟨ab, ao + j, none⟩) hab2).trans hcl.out
            obtain ⟨q, hq⟩ : ∃ q, q = decide (X ∈ S.take t) := ⟨_, rfl⟩
            have Hq := Lib.hid hq
            rw [← hq]
            clear hq
            by_cases htl : t < P.length
            · obtain ⟨pb, po, p, D, pm, pd, rfl, hpb, hc1, -, hp, -⟩ := (PLS.keep Hp9.out (stays_below (hbel.trans (hbel2.mono zr)) (Nat.le_refl _))).at_ (k := t) htl
              have hSt : S[t]? = some p.1 := by rw [HS.out, List.getElem?_map, hp]; rfl
              have hnx : decide (X ∈ S.take (t + 1)) = (q || decide (p.1 = X)) := by
                rw [Hq.out, List.take_add_one, hSt]
                simp [eq_comm]
              have Hnx := Lib.hid hnx
              clear hp hSt hnx
              cases q with
              | true =>
                go_wp2_with fail
                go_quiet (fail)
                go_wp2
                go_roundw
                case rel => exact ⟨t + 1, by go_num, by omega, by rw [Hnx.out]; rfl, below_drewN hbel2 _⟩
                case measure => simp [intOf]; omega
              | false =>
                by_cases hpx : p.1 = X
                · have d7 : ((p.1 : Int) == (X : Int)) = true := by simp [hpx]
                  have HH := Lib.hid (show decide (X ∈ S.take (t + 1)) = true by rw [Hnx.out]; simpa using hpx)
                  clear hpx
                  go_wp2_with fail
                  go_quiet (fail)
                  go_wp2
                  go_roundw
                  case rel => exact ⟨t + 1, by go_num, by omega, by rw [HH.out], below_drewN hbel2 _⟩
                  case measure => simp [intOf]; omega
                · have d7 : ((p.1 : Int) == (X : Int)) = false := by rw [beq_eq_false_iff_ne]; omega
                  have HH := Lib.hid (show decide (X ∈ S.take (t + 1)) = false by rw [Hnx.out]; simpa using hpx)
                  clear hpx
                  go_wp2_with fail
                  go_quiet (fail)
                  go_wp2
                  go_roundw
                  case rel => exact ⟨t + 1, by go_num, by omega, by rw [HH.out], below_drewN hbel2 _⟩
                  case measure => simp [intOf]; omega
            · have hqt : q = true := by
                rw [Hq.out, List.take_of_length_le (by rw [HS.out, List.length_map]; omega)]
                exact decide_eq_true HXS.out
              subst hqt
              have bq := hbel.trans (hbel2.mono zr)
              clear Hq
              go_wp2
              go_roundw
              case rel => exact ⟨j + 1, by go_num, by omega, by omega, bq⟩
              case measure => simp [intOf]; omega
        · have bb := BB9.out.trans (hbel.mono (by omega))
          go_wp2_with fail
          refine (alive_c _ (Hx.out.below bb Hx.out.2)).mono ?_
          rintro e wz ⟨rfl, bz⟩
          have bbz := bb.trans (bz.mono (by omega))
          go_wp2
          go_ret
          exact ⟨rfl, bbz⟩
end Go.Proofs.YtknmhdkomjjneaaGreatDoor
