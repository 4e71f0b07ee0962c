/-
  The walk of the law FieldBack.
-/
import Derived.Test.YtihfejjkkgnneaaFbm
import Derived.Test.YtihfejjkkgnneaaRs
import Derived.Deep.DeepCutAuto
namespace Go.Proofs.Ytihfejjkkgnneaa
open Go.RowKit Go.Maps
set_option linter.unusedSimpArgs false
attribute [local irreducible] wpS

set_option maxRecDepth 100000 in
theorem fieldBack_alive (A Ap D : Option Addr) (n c np cp m d : Nat) (l : List (List (List UInt8))) (P : List (List UInt8 × List UInt8)) (w : World) (hr : RL w w.heap.size A n c l) (hz : ∀ r ∈ l, ∀ q ∈ r, q.length ≤ 140737488355328)
    (hrP : RP w w.heap.size Ap np cp P) (hzP : ∀ p ∈ P, p.1.length ≤ 140737488355328 ∧ p.2.length ≤ 140737488355328) (hm : m ≤ maxLen) (h : ¬ (wL l ≤ 4000 ∧ l.length ≤ 120) ∨ ¬ wP P ≤ 4000 ∨ 4000 < m) :
    Calls Try.prog 6 #[.slice A n c, .slice Ap np cp, .slice D m d] w fun e w' => e = .returned (.bool true) ∧ Below w.heap.size w w' := by
  unfold maxLen at hm
  by_cases h1 : wL l ≤ 4000 ∧ l.length ≤ 120
  · by_cases h2 : wP P ≤ 4000
    · have h3 : 4000 < m := (h.resolve_left (fun q => q h1)).resolve_left (fun q => q h2)
      have Hr := Lib.hid hr; have Hz := Lib.hid hz; have Ho := Lib.hid (decide_eq_true h1).symm; have HrP := Lib.hid hrP; have HzP := Lib.hid hzP; have HoP := Lib.hid (decide_eq_true h2).symm; clear hr hz h h1 h2 hrP hzP
      go_enter Try.func6, Try.ntmps6
      go_wp2_with fail
      refine (fewR_c A n c _ l _ Hr.out Hz.out true Ho.out).mono ?_
      rintro e w1 ⟨rfl, rfl⟩
      go_wp2_with fail
      refine (few_c Ap np cp _ P _ HrP.out HzP.out true HoP.out).mono ?_
      rintro e w1 ⟨rfl, q, rfl⟩
      go_wp2_with fail
      refine (alive_c _).mono ?_
      rintro e w2 ⟨rfl, hb2⟩
      go_wp2
      go_ret
      exact ⟨rfl, (below_drewN (Below.refl _ _) q).trans hb2⟩
    · have Hr := Lib.hid hr; have Hz := Lib.hid hz; have Ho := Lib.hid (decide_eq_true h1).symm; have HrP := Lib.hid hrP; have HzP := Lib.hid hzP; have HoP := Lib.hid (decide_eq_false h2).symm; clear hr hz h h1 h2 hrP hzP
      go_enter Try.func6, Try.ntmps6
      go_wp2_with fail
      refine (fewR_c A n c _ l _ Hr.out Hz.out true Ho.out).mono ?_
      rintro e w1 ⟨rfl, rfl⟩
      go_wp2_with fail
      refine (few_c Ap np cp _ P _ HrP.out HzP.out false HoP.out).mono ?_
      rintro e w1 ⟨rfl, q, rfl⟩
      go_wp2_with fail
      refine (alive_c _).mono ?_
      rintro e w2 ⟨rfl, hb2⟩
      go_wp2
      go_ret
      exact ⟨rfl, (below_drewN (Below.refl _ _) q).trans hb2⟩
  · have Hr := Lib.hid hr; have Hz := Lib.hid hz; have Ho := Lib.hid (decide_eq_false h1).symm; clear hr hz h h1 hrP hzP
    go_enter Try.func6, Try.ntmps6
    go_wp2_with fail
    refine (fewR_c A n c _ l _ Hr.out Hz.out false Ho.out).mono ?_
    rintro e w1 ⟨rfl, rfl⟩
    go_wp2_with fail
    refine (alive_c _).mono ?_
    rintro e w2 ⟨rfl, hb2⟩
    go_wp2
    go_ret
    exact ⟨rfl, hb2⟩

set_option maxRecDepth 100000 in
set_option maxHeartbeats 8000000 in
theorem fieldBack_short (A Ap D : Option Addr) (c cp m d : Nat) (l : List (List (List UInt8))) (P : List (List UInt8 × List UInt8)) (T : List UInt8) (w : World) (hr : RL w w.heap.size A l.length c l) (hz : ∀ r ∈ l, ∀ q ∈ r, q.length ≤ 140737488355328)
    (hrP : RP w w.heap.size Ap P.length cp P) (hzP : ∀ p ∈ P, p.1.length ≤ 140737488355328 ∧ p.2.length ≤ 140737488355328) (hrD : Rb w w.heap.size D m d T) (h1 : wL l ≤ 4000 ∧ l.length ≤ 120) (h2 : wP P ≤ 4000) (hm : m ≤ 4000) :
    Calls Try.prog 6 #[.slice A l.length c, .slice Ap P.length cp, .slice D m d] w fun e w' => e = .returned (.bool true) ∧ Below w.heap.size w w' := by
  have hTl := hrD.len
  have hln : l.length ≤ 120 := h1.2
  have hlr : ∀ r ∈ l, r.length ≤ 1000000 := fun r hr => by
    have h3 := wL_mem l r hr
    have h4 := wR_len r
    omega
  have hsz := enc_len l (by omega) (by omega)
  have hPn : P.length ≤ 4000 := by have := lines_len P; omega
  have hPsh : Shorts P := fun p hp => by have := wP_mem P p hp; exact ⟨by omega, by omega⟩
  obtain ⟨X, x0, hX⟩ : ∃ X x0, encS l = (X, x0) := ⟨_, _, rfl⟩
  have hX0 : (x0 = 0 ∨ x0 = 10) ∧ (x0 = 0 → decS X = (l, 0) ∧ X.length ≤ 60003) := by
    by_cases hall : ∀ r ∈ l, Fm.May r
    · rw [encS_ok hall] at hX
      injection hX with e1 e2
      subst e1 e2
      exact ⟨.inl rfl, fun _ => ⟨decS_enc l hall (by omega), hsz⟩⟩
    · rw [encS_err hall] at hX
      injection hX with e1 e2
      subst e1 e2
      exact ⟨.inr rfl, fun h => by omega⟩
  obtain ⟨XP, hXP⟩ : ∃ XP, XP = Fm.lines P := ⟨_, rfl⟩
  have hXPl : XP.length ≤ 8000 := by rw [hXP]; have := lines_len P; omega
  obtain ⟨E, hE⟩ : ∃ E, E = Fm.esc T := ⟨_, rfl⟩
  have hEl : E.length ≤ 8000 := by rw [hE]; have := Fm.esc_len T; omega
  obtain ⟨T1, x1, hU, hi, hU0, _⟩ := unE_name' (Fm.unesc T)
  obtain ⟨PL, x2, hP2⟩ : ∃ PL x2, psS (Fm.pairs T) = (PL, x2) := ⟨_, _, rfl⟩
  obtain ⟨hj, hj0⟩ := psS_back T PL x2 hP2
  have hPLl : PL.length ≤ 1000000 := by
    have := ps_len T
    rw [hP2] at this
    have h3 : PL.length ≤ T.length := this
    omega
  obtain ⟨L, x3, hL⟩ : ∃ L x3, decS T = (L, x3) := ⟨_, _, rfl⟩
  obtain ⟨hx3, hk0, hkn⟩ := decS_back T L x3 hL
  have hds := decS_small T
  rw [hL] at hds
  have hLl : L.length ≤ 5000 := hds.1
  have hencL : (Fm.enc L).length ≤ 600000 := by
    by_cases h : x3 = 0
    · rw [(hk0 h).1]; omega
    · rw [hkn h]
      have := enc_len [] (by decide) (by decide)
      omega
  obtain ⟨Z, zx, hZ⟩ : ∃ Z zx, encS L = (Z, zx) := ⟨_, _, rfl⟩
  have hZT : x3 = 0 → Z = T := fun h => by
    obtain ⟨e1, e2⟩ := hk0 h
    rw [encS_ok e2] at hZ
    injection hZ with e3 _
    rw [← e3, e1]
  have c1 : ∀ W, RL W W.heap.size A l.length c l → Calls Try.prog 10 #[.slice A l.length c] W (RetE W.heap.size W (X, x0)) := fun W hW => by rw [← hX]; exact encode_c A _ c _ l W hW (Nat.le_refl _) (by omega) (by omega)
  have c2 : x0 = 0 → ∀ W E e, Rb W W.heap.size E X.length e X → Calls Try.prog 12 #[.slice E X.length e] W (RetD W (l, 0)) := fun h W E e hW => by
    obtain ⟨e1, e2⟩ := hX0.2 h
    rw [← e1]
    exact decode_c E _ e X W hW (by omega)
  have c3 : ∀ W, RP W W.heap.size Ap P.length cp P → Calls Try.prog 27 #[.slice Ap P.length cp] W (RetB W.heap.size W XP) := fun W hW => lines_n Ap _ cp P XP W hW hPn hPsh hXP hXPl
  have c4 : ∀ W E e, Rb W W.heap.size E XP.length e XP → Calls Try.prog 25 #[.slice E XP.length e] W (RetPs W.heap.size W (P, 0)) := fun W E e hW => by
    have h := pairs_c E _ e XP W hW (by omega)
    have e1 : psS (Fm.pairs XP) = (P, 0) := by rw [hXP, Fm.pairs_lines]; rfl
    rwa [e1] at h
  have c5 : ∀ W, Calls Try.prog 19 #[.string ⟨T.toArray⟩] W (RetS W.heap.size W E) := fun W => by rw [hE]; exact escape_c ⟨T.toArray⟩ W (by simp [ByteArray.size]; omega)
  have c6 : ∀ W, Calls Try.prog 17 #[.string ⟨E.toArray⟩] W fun e w' => e = .returned (.tuple #[.string ⟨T.toArray⟩, .int .i64 0]) ∧ Below W.heap.size W w' := fun W =>
    (unescape_c ⟨E.toArray⟩ W (by simp [ByteArray.size]; omega)).mono fun _ _ ⟨he, hb⟩ => ⟨by rw [he, show Fm.unesc (⟨E.toArray⟩ : ByteArray).data.toList = some T by show Fm.unesc E = some T; rw [hE]; exact Fm.unesc_esc T]; rfl, hb⟩
  have c7 : ∀ W, Calls Try.prog 17 #[.string ⟨T.toArray⟩] W fun e w' => e = .returned (.tuple #[.string ⟨T1.toArray⟩, .int .i64 (x1 : Int)]) ∧ Below W.heap.size W w' := fun W =>
    (unescape_c ⟨T.toArray⟩ W (by simp [ByteArray.size]; omega)).mono fun _ _ ⟨he, hb⟩ => ⟨he.trans hU, hb⟩
  have c8 : ∀ W, Rb W W.heap.size D m d T → Calls Try.prog 25 #[.slice D m d] W (RetPs W.heap.size W (PL, x2)) := fun W hW => by rw [← hP2]; exact pairs_c D m d T W hW (by omega)
  have c9 : ∀ W, Rb W W.heap.size D m d T → Calls Try.prog 12 #[.slice D m d] W (RetD W (L, x3)) := fun W hW => by rw [← hL]; exact decode_c D m d T W hW (by omega)
  have c10 : ∀ W A' c', RL W W.heap.size A' L.length c' L → Calls Try.prog 10 #[.slice A' L.length c'] W (RetE W.heap.size W (Z, zx)) := fun W A' c' hW => by rw [← hZ]; exact encode_c A' _ c' _ L W hW (Nat.le_refl _) (by omega) hencL
  have cey : x1 = 0 → ∀ W, Calls Try.prog 19 #[.string ⟨T1.toArray⟩] W (RetS W.heap.size W T) := fun h W => by
    have e1 := Fm.esc_back (hU0 h)
    have e2 := esc_ge T1
    rw [e1] at e2
    have h3 := escape_c ⟨T1.toArray⟩ W (by simp [ByteArray.size]; omega)
    rwa [show Fm.esc (⟨T1.toArray⟩ : ByteArray).data.toList = T from e1] at h3
  have cly : x2 = 0 → ∀ W A' c', RP W W.heap.size A' PL.length c' PL → Calls Try.prog 27 #[.slice A' PL.length c'] W (RetB W.heap.size W T) := fun h W A' c' hW => by
    have e1 := hj0 h
    have h3 := lines_c A' _ c' _ PL W hW (Nat.le_refl _) (by have := ps_len T; rw [hP2] at this; have h3 : PL.length ≤ T.length := this; omega) (fun p hp => by have h4 := lines_mem PL p hp; rw [e1] at h4; exact ⟨by omega, by omega⟩) (by rw [e1]; omega)
    rwa [e1] at h3
  have Hr := Lib.hid hr; have Hz := Lib.hid hz; have Ho := Lib.hid (decide_eq_true h1).symm; have HrP := Lib.hid hrP; have HzP := Lib.hid hzP; have HoP := Lib.hid (decide_eq_true h2).symm; have HrD := Lib.hid hrD
  have hx00 := hX0.1
  have C1 := Lib.hid c1; have C2 := Lib.hid c2; have C3 := Lib.hid c3; have C4 := Lib.hid c4; have C5 := Lib.hid c5; have C6 := Lib.hid c6; have C7 := Lib.hid c7; have C8 := Lib.hid c8; have C9 := Lib.hid c9; have C10 := Lib.hid c10
  have CEy := Lib.hid cey; have CLy := Lib.hid cly; have CZy := Lib.hid hZT; have Hlr := Lib.hid hlr
  clear hr hz hrP hzP hrD h1 h2 c1 c2 c3 c4 c5 c6 c7 c8 c9 c10 cey cly hZT hlr hX hX0 hXP hE hU hU0 hP2 hj0 hL hk0 hkn hds hencL hZ hPsh hTl hsz
  go_enter Try.func6, Try.ntmps6
  go_wp2_with fail
  refine (fewR_c A l.length c _ l _ Hr.out Hz.out true Ho.out).mono ?_
  rintro e w1 ⟨rfl, rfl⟩
  go_wp2_with fail
  refine (few_c Ap P.length cp _ P _ HrP.out HzP.out true HoP.out).mono ?_
  rintro e w1 ⟨rfl, q, rfl⟩
  have bq : Below w.heap.size w (w.drewN q) := below_drewN (Below.refl _ _) q
  go_wp2_with fail
  refine (C1.out _ ((Hr.out.below bq).more bq.size)).mono ?_
  rintro e w2 ⟨A2, d2, rfl, hown2, hb2⟩
  have b2 : Below w.heap.size w w2 := bq.trans hb2
  have r2 := hown2.rb
  have R2 := Lib.hid r2; have B2 := Lib.hid b2; clear bq hb2 hown2 r2 b2
  go_upto_if 44 with fail
  go_cut [9] (fun _ wx => Below w.heap.size w wx)
  case first =>
    rcases hx00 with rfl | rfl
    · have hd := C2.out rfl
      have HD := Lib.hid hd; clear hd
      go_wp2_with fail
      refine (HD.out _ A2 d2 R2.out).mono ?_
      rintro e w3 ⟨A3, d3, rfl, hr3, hb3⟩
      have b3 : Below w.heap.size w w3 := B2.out.trans (hb3.mono B2.out.size)
      have R3 := Lib.hid hr3; have B3 := Lib.hid b3; clear hr3 hb3 b3
      go_wp2_with fail
      refine (recs_c A3 A l.length d3 c l _ R3.out ((Hr.out.below B3.out).more B3.out.size) (by omega) Hlr.out).mono ?_
      rintro e w4 ⟨rfl, q4, rfl⟩
      have b34 : Below w3.heap.size w3 (w3.drewN q4) := below_drewN (Below.refl _ _) q4
      have b4 : Below w.heap.size w (w3.drewN q4) := below_drewN B3.out q4
      go_wp2_with fail
      refine (same_c A3 A l.length d3 c l (w3.drewN q4) ((R3.out.below b34).more b34.size) ((Hr.out.below b4).more b4.size) (by omega) Hlr.out).mono ?_
      rintro e w5 ⟨rfl, q5, rfl⟩
      have b5 : Below w.heap.size w (w3.drewN (q4 + q5)) := below_drewN B3.out (q4 + q5)
      have B5 := Lib.hid b5; clear b34 b4 b5
      go_wp2_with fail
      go_meet
      exact B5.out
    · go_wp2_with fail
      go_meet
      exact B2.out
  case rest =>
    have Bc := Lib.hid hcut; clear hcut
    go_wp2_with fail
    refine (C3.out _ ((HrP.out.below Bc.out).more Bc.out.size)).mono ?_
    rintro e w3 ⟨A3, d3, rfl, hown3, hb3⟩
    have b3 : Below w.heap.size w w3 := Bc.out.trans (hb3.mono Bc.out.size)
    have r3 := hown3.rb
    have R3 := Lib.hid r3; have B3 := Lib.hid b3; clear hown3 hb3 r3 b3
    go_wp2_with fail
    refine (C4.out _ A3 d3 R3.out).mono ?_
    rintro e w4 ⟨A4, d4, rfl, hown4, hb4⟩
    have b4 : Below w.heap.size w w4 := B3.out.trans (hb4.mono B3.out.size)
    have r4 : RP w4 w4.heap.size A4 P.length d4 P := hown4.rc
    have R4 := Lib.hid r4; have B4 := Lib.hid b4; clear hown4 hb4 r4 b4
    go_wp2_with fail
    refine (pairsEq_c A4 Ap P.length d4 cp _ _ P _ R4.out ((HrP.out.below B4.out).more B4.out.size) (by omega)).mono ?_
    rintro e w5 ⟨rfl, q5, rfl⟩
    have b5 : Below w.heap.size w (w4.drewN q5) := below_drewN B4.out q5
    obtain ⟨w5, hw5⟩ : ∃ w5, w5 = w4.drewN q5 := ⟨_, rfl⟩
    rw [← hw5] at b5 ⊢
    clear hw5
    have cv5 := bty.conv (HrD.out.below b5)
    have B5 := Lib.hid b5; clear b5
    go_wp2_with fail
    refine (C5.out _).mono ?_
    rintro e w6 ⟨rfl, hb6⟩
    clear cv5
    have b6 : Below w.heap.size w w6 := B5.out.trans (hb6.mono B5.out.size)
    have B6 := Lib.hid b6; clear hb6 b6
    go_wp2_with fail
    refine (C6.out _).mono ?_
    rintro e w7 ⟨rfl, hb7⟩
    have b7 : Below w.heap.size w w7 := B6.out.trans (hb7.mono B6.out.size)
    have cv7 := bty.conv (HrD.out.below b7)
    have B7 := Lib.hid b7; clear hb7 b7
    go_wp2_with fail
    refine (C7.out _).mono ?_
    rintro e w8 ⟨rfl, hb8⟩
    clear cv7
    have b8 : Below w.heap.size w w8 := B7.out.trans (hb8.mono B7.out.size)
    have B8 := Lib.hid b8; clear hb8 b8
    go_wp2_with fail
    refine (C8.out _ ((HrD.out.below B8.out).more B8.out.size)).mono ?_
    rintro e w9 ⟨Au, cu, rfl, hown9, hb9⟩
    have b9 : Below w.heap.size w w9 := B8.out.trans (hb9.mono B8.out.size)
    have r9 : RP w9 w9.heap.size Au PL.length cu PL := hown9.rc
    have R9 := Lib.hid r9; have B9 := Lib.hid b9; clear hown9 hb9 r9 b9
    go_wp2_with fail
    refine (C9.out _ ((HrD.out.below B9.out).more B9.out.size)).mono ?_
    rintro e w10 ⟨Ar, cr, rfl, hr10, hb10⟩
    have b10 : Below w.heap.size w w10 := B9.out.trans (hb10.mono B9.out.size)
    have R10 := Lib.hid hr10; have B10 := Lib.hid b10; have R9b := Lib.hid ((R9.out.below hb10).more hb10.size); clear hr10 hb10 b10
    go_wp2_with fail
    refine (C10.out _ Ar cr R10.out).mono ?_
    rintro e wz ⟨Az, cz, rfl, hown11, hb11⟩
    have b11 : Below w.heap.size w wz := B10.out.trans (hb11.mono B10.out.size)
    have HZ : Hid (Rb wz wz.heap.size Az Z.length cz Z) := Lib.hid hown11.rb
    have HU : Hid (RP wz wz.heap.size Au PL.length cu PL) := Lib.hid ((R9b.out.below hb11).more hb11.size)
    have HBB : Hid (Rb wz wz.heap.size D m d T) := Lib.hid ((HrD.out.below b11).more b11.size)
    have B11 := Lib.hid b11; clear hown11 hb11 b11
    go_upto_region 16 with fail
    go_cut [23] (fun s wx => s = .bool true ∧ Grow wz wx)
    case first =>
      by_cases hi0 : x1 = 0
      · have hE1 := CEy.out hi0; have CE := Lib.hid hE1; clear hE1
        have hx12 : ((x1 : Int) != 0) = false := by simp [hi0]
        have hx13 : ((x1 : Int) == 0) = true := by simp [hi0]
        by_cases hj0 : x2 = 0
        · have hL1 := CLy.out hj0; have CL := Lib.hid hL1; clear hL1
          have hx22 : ((x2 : Int) != 0) = false := by simp [hj0]
          have hx23 : ((x2 : Int) == 0) = true := by simp [hj0]
          by_cases hk0 : x3 = 0
          · have hZT : T = Z := (CZy.out hk0).symm
            subst hZT
            have hx32 : ((x3 : Int) != 0) = false := by simp [hk0]
            have hx33 : ((x3 : Int) == 0) = true := by simp [hk0]
            clear hi hj hx3 hi0 hj0 hk0
            refine wp_region_sched [(false, 0), (false, 1), (false, 2), (false, 3), (false, 5), (false, 6), (true, 4), (false, 7), (false, 8), (false, 9), (false, 10), (false, 11), (false, 12), (false, 13), (false, 16), (false, 17), (true, 14), (false, 15), (false, 18), (false, 19), (false, 20), (false, 21), (false, 22), (false, 23), (false, 24), (false, 25), (false, 26), (false, 27), (false, 28), (false, 29), (false, 30), (false, 31), (false, 32)] (by kernel_rfl) (by kernel_rfl) (by kernel_rfl) (by kernel_rfl) (fun _ _ d _ _ h => by cases d <;> exact h) ?_
            have HBBd : Hid (Rb wz.drew wz.drew.heap.size D m d T) := HBB
            have HUd : Hid (RP wz.drew wz.drew.heap.size Au PL.length cu PL) := HU
            have HZd : Hid (Rb wz.drew wz.drew.heap.size Az T.length cz T) := HZ
            have HGd := Lib.hid (grow_drew wz)
            refine wpS_read (o := { dst := some 106, op := Go.Op.move (Go.Operand.tmp 16), type := 26, pos := "law.go:95", after := #[], guard := none }) (v := .int .i64 (x1 : Int)) rfl (by rfl) ?_ ?_
            · intro w' hg; go_simp
            try simp only [Act.put, List.setIfInBounds_toArray, List.set_cons_zero, List.set_cons_succ]
            refine wpS_read (o := { dst := some 107, op := Go.Op.binOp Go.BinOp.neq 26 (Go.Operand.tmp 106) (Go.Operand.const (Go.Value.int Go.IntKind.i64 0)) 26, type := 4, pos := "law.go:95", after := #[{ on := 0, ground := Go.Ground.data }], guard := none }) (v := .bool false) rfl (by rfl) ?_ ?_
            · intro w' hg; go_simp
            try simp only [Act.put, List.setIfInBounds_toArray, List.set_cons_zero, List.set_cons_succ]
            refine wpS_read (o := { dst := some 108, op := Go.Op.move (Go.Operand.tmp 107), type := 4, pos := "law.go:95", after := #[{ on := 1, ground := Go.Ground.data }], guard := none }) (v := .bool false) rfl (by rfl) ?_ ?_
            · intro w' hg; go_simp
            try simp only [Act.put, List.setIfInBounds_toArray, List.set_cons_zero, List.set_cons_succ]
            refine wpS_read (o := { dst := some 109, op := Go.Op.move (Go.Operand.tmp 15), type := 9, pos := "law.go:95", after := #[{ on := 2, ground := Go.Ground.guard }], guard := some (2, false) }) (v := .string ⟨T1.toArray⟩) rfl (by rfl) ?_ ?_
            · intro w' hg; go_simp
            try simp only [Act.put, List.setIfInBounds_toArray, List.set_cons_zero, List.set_cons_succ]
            refine wpS_read (o := { dst := some 111, op := Go.Op.move (Go.Operand.tmp 2), type := 23, pos := "law.go:95", after := #[{ on := 2, ground := Go.Ground.guard }], guard := some (2, false) }) (v := .slice D m d) rfl (by rfl) ?_ ?_
            · intro w' hg; go_simp
            try simp only [Act.put, List.setIfInBounds_toArray, List.set_cons_zero, List.set_cons_succ]
            refine wpS_read (o := { dst := some 112, op := Go.Op.convert 23 9 (Go.Operand.tmp 111), type := 9, pos := "law.go:95", after := #[{ on := 5, ground := Go.Ground.data }, { on := 2, ground := Go.Ground.guard }], guard := some (2, false) }) (v := .string ⟨T.toArray⟩) rfl (by rfl) ?_ ?_
            · intro w' hg; have q0 := bty.conv (HBBd.out.below hg); go_simp
            try simp only [Act.put, List.setIfInBounds_toArray, List.set_cons_zero, List.set_cons_succ]
            refine wpS_call (o := { dst := some 110, op := Go.Op.call { callee := Go.Callee.value (Go.Operand.func 19), args := #[Go.Operand.tmp 109], argTypes := #[9] }, type := 9, pos := "law.go:95", after := #[{ on := 3, ground := Go.Ground.data }, { on := 2, ground := Go.Ground.chain }, { on := 2, ground := Go.Ground.guard }], guard := some (2, false) }) rfl (by rfl) (fun K hK => ?_)
            go_simp
            go_at_call 19
            with_reducible refine (CE.out _).mono ?_
            rintro e w2 ⟨rfl, hb2⟩
            have HBB2 := Lib.hid ((HBBd.out.below hb2).more hb2.size); have HU2 := Lib.hid ((HUd.out.below hb2).more hb2.size); have HZ2 := Lib.hid ((HZd.out.below hb2).more hb2.size); have HG2 := Lib.hid (HGd.out.trans hb2)
            refine hK.out _ _ hb2 ?_
            clear hK K hb2
            try simp only [Act.put, List.setIfInBounds_toArray, List.set_cons_zero, List.set_cons_succ]
            refine wpS_read (o := { dst := some 113, op := Go.Op.binOp Go.BinOp.eql 9 (Go.Operand.tmp 110) (Go.Operand.tmp 112) 9, type := 4, pos := "law.go:95", after := #[{ on := 4, ground := Go.Ground.data }, { on := 6, ground := Go.Ground.data }, { on := 2, ground := Go.Ground.guard }], guard := some (2, false) }) (v := .bool true) rfl (by rfl) ?_ ?_
            · intro w' hg; go_simp
            try simp only [Act.put, List.setIfInBounds_toArray, List.set_cons_zero, List.set_cons_succ]
            refine wpS_read (o := { dst := some 114, op := Go.Op.pick (Go.Operand.tmp 108) (Go.Operand.const (Go.Value.bool true)) (Go.Operand.tmp 113), type := 4, pos := "law.go:95", after := #[{ on := 2, ground := Go.Ground.data }, { on := 7, ground := Go.Ground.data }], guard := none }) (v := .bool true) rfl (by rfl) ?_ ?_
            · intro w' hg; go_simp
            try simp only [Act.put, List.setIfInBounds_toArray, List.set_cons_zero, List.set_cons_succ]
            refine wpS_read (o := { dst := some 115, op := Go.Op.move (Go.Operand.tmp 114), type := 4, pos := "law.go:95", after := #[{ on := 8, ground := Go.Ground.data }, { on := 4, ground := Go.Ground.chain }], guard := none }) (v := .bool true) rfl (by rfl) ?_ ?_
            · intro w' hg; go_simp
            try simp only [Act.put, List.setIfInBounds_toArray, List.set_cons_zero, List.set_cons_succ]
            refine wpS_read (o := { dst := some 116, op := Go.Op.move (Go.Operand.tmp 18), type := 26, pos := "law.go:95", after := #[{ on := 9, ground := Go.Ground.guard }], guard := some (9, true) }) (v := .int .i64 (x2 : Int)) rfl (by rfl) ?_ ?_
            · intro w' hg; go_simp
            try simp only [Act.put, List.setIfInBounds_toArray, List.set_cons_zero, List.set_cons_succ]
            refine wpS_read (o := { dst := some 117, op := Go.Op.binOp Go.BinOp.neq 26 (Go.Operand.tmp 116) (Go.Operand.const (Go.Value.int Go.IntKind.i64 0)) 26, type := 4, pos := "law.go:95", after := #[{ on := 10, ground := Go.Ground.data }, { on := 9, ground := Go.Ground.guard }], guard := some (9, true) }) (v := .bool false) rfl (by rfl) ?_ ?_
            · intro w' hg; go_simp
            try simp only [Act.put, List.setIfInBounds_toArray, List.set_cons_zero, List.set_cons_succ]
            refine wpS_read (o := { dst := some 118, op := Go.Op.move (Go.Operand.tmp 117), type := 4, pos := "law.go:95", after := #[{ on := 11, ground := Go.Ground.data }, { on := 9, ground := Go.Ground.chain }, { on := 9, ground := Go.Ground.guard }], guard := some (9, true) }) (v := .bool false) rfl (by rfl) ?_ ?_
            · intro w' hg; go_simp
            try simp only [Act.put, List.setIfInBounds_toArray, List.set_cons_zero, List.set_cons_succ]
            refine wpS_read (o := { dst := some 119, op := Go.Op.move (Go.Operand.tmp 17), type := 42, pos := "law.go:95", after := #[{ on := 12, ground := Go.Ground.guard }], guard := some (12, false) }) (v := .slice Au PL.length cu) rfl (by rfl) ?_ ?_
            · intro w' hg; go_simp
            try simp only [Act.put, List.setIfInBounds_toArray, List.set_cons_zero, List.set_cons_succ]
            refine wpS_read (o := { dst := some 122, op := Go.Op.move (Go.Operand.tmp 2), type := 23, pos := "law.go:95", after := #[{ on := 12, ground := Go.Ground.guard }], guard := some (12, false) }) (v := .slice D m d) rfl (by rfl) ?_ ?_
            · intro w' hg; go_simp
            try simp only [Act.put, List.setIfInBounds_toArray, List.set_cons_zero, List.set_cons_succ]
            refine wpS_read (o := { dst := some 123, op := Go.Op.convert 23 9 (Go.Operand.tmp 122), type := 9, pos := "law.go:95", after := #[{ on := 16, ground := Go.Ground.data }, { on := 12, ground := Go.Ground.guard }], guard := some (12, false) }) (v := .string ⟨T.toArray⟩) rfl (by rfl) ?_ ?_
            · intro w' hg; have q0 := bty.conv (HBB2.out.below hg); go_simp
            try simp only [Act.put, List.setIfInBounds_toArray, List.set_cons_zero, List.set_cons_succ]
            refine wpS_call (o := { dst := some 120, op := Go.Op.call { callee := Go.Callee.value (Go.Operand.func 27), args := #[Go.Operand.tmp 119], argTypes := #[42] }, type := 23, pos := "law.go:95", after := #[{ on := 13, ground := Go.Ground.data }, { on := 12, ground := Go.Ground.chain }, { on := 12, ground := Go.Ground.guard }], guard := some (12, false) }) rfl (by rfl) (fun K hK => ?_)
            go_simp
            go_at_call 27
            with_reducible refine (CL.out _ Au cu HU2.out).mono ?_
            rintro e w3 ⟨A3, c3, rfl, hown3, hb3⟩
            have Hs3 := Lib.hid hown3.rb; clear hown3
            have HBB3 := Lib.hid ((HBB2.out.below hb3).more hb3.size); have HU3 := Lib.hid ((HU2.out.below hb3).more hb3.size); have HZ3 := Lib.hid ((HZ2.out.below hb3).more hb3.size); have HG3 := Lib.hid (HG2.out.trans hb3)
            refine hK.out _ _ hb3 ?_
            clear hK K hb3
            try simp only [Act.put, List.setIfInBounds_toArray, List.set_cons_zero, List.set_cons_succ]
            refine wpS_read (o := { dst := some 121, op := Go.Op.convert 23 9 (Go.Operand.tmp 120), type := 9, pos := "law.go:95", after := #[{ on := 14, ground := Go.Ground.data }, { on := 12, ground := Go.Ground.guard }], guard := some (12, false) }) (v := .string ⟨T.toArray⟩) rfl (by rfl) ?_ ?_
            · intro w' hg; have q0 := bty.conv (Hs3.out.below hg); go_simp
            try simp only [Act.put, List.setIfInBounds_toArray, List.set_cons_zero, List.set_cons_succ]
            refine wpS_read (o := { dst := some 124, op := Go.Op.binOp Go.BinOp.eql 9 (Go.Operand.tmp 121) (Go.Operand.tmp 123) 9, type := 4, pos := "law.go:95", after := #[{ on := 15, ground := Go.Ground.data }, { on := 17, ground := Go.Ground.data }, { on := 12, ground := Go.Ground.guard }], guard := some (12, false) }) (v := .bool true) rfl (by rfl) ?_ ?_
            · intro w' hg; go_simp
            try simp only [Act.put, List.setIfInBounds_toArray, List.set_cons_zero, List.set_cons_succ]
            refine wpS_read (o := { dst := some 125, op := Go.Op.pick (Go.Operand.tmp 118) (Go.Operand.const (Go.Value.bool true)) (Go.Operand.tmp 124), type := 4, pos := "law.go:95", after := #[{ on := 12, ground := Go.Ground.data }, { on := 18, ground := Go.Ground.data }, { on := 9, ground := Go.Ground.guard }], guard := some (9, true) }) (v := .bool true) rfl (by rfl) ?_ ?_
            · intro w' hg; go_simp
            try simp only [Act.put, List.setIfInBounds_toArray, List.set_cons_zero, List.set_cons_succ]
            refine wpS_read (o := { dst := some 126, op := Go.Op.pick (Go.Operand.tmp 115) (Go.Operand.tmp 125) (Go.Operand.const (Go.Value.bool false)), type := 4, pos := "law.go:95", after := #[{ on := 9, ground := Go.Ground.data }, { on := 19, ground := Go.Ground.data }], guard := none }) (v := .bool true) rfl (by rfl) ?_ ?_
            · intro w' hg; go_simp
            try simp only [Act.put, List.setIfInBounds_toArray, List.set_cons_zero, List.set_cons_succ]
            refine wpS_read (o := { dst := some 127, op := Go.Op.move (Go.Operand.tmp 126), type := 4, pos := "law.go:95", after := #[{ on := 20, ground := Go.Ground.data }, { on := 14, ground := Go.Ground.chain }], guard := none }) (v := .bool true) rfl (by rfl) ?_ ?_
            · intro w' hg; go_simp
            try simp only [Act.put, List.setIfInBounds_toArray, List.set_cons_zero, List.set_cons_succ]
            refine wpS_read (o := { dst := some 128, op := Go.Op.move (Go.Operand.tmp 20), type := 26, pos := "law.go:95", after := #[{ on := 21, ground := Go.Ground.guard }], guard := some (21, true) }) (v := .int .i64 (x3 : Int)) rfl (by rfl) ?_ ?_
            · intro w' hg; go_simp
            try simp only [Act.put, List.setIfInBounds_toArray, List.set_cons_zero, List.set_cons_succ]
            refine wpS_read (o := { dst := some 129, op := Go.Op.binOp Go.BinOp.neq 26 (Go.Operand.tmp 128) (Go.Operand.const (Go.Value.int Go.IntKind.i64 0)) 26, type := 4, pos := "law.go:95", after := #[{ on := 22, ground := Go.Ground.data }, { on := 21, ground := Go.Ground.guard }], guard := some (21, true) }) (v := .bool false) rfl (by rfl) ?_ ?_
            · intro w' hg; go_simp
            try simp only [Act.put, List.setIfInBounds_toArray, List.set_cons_zero, List.set_cons_succ]
            refine wpS_read (o := { dst := some 130, op := Go.Op.move (Go.Operand.tmp 129), type := 4, pos := "law.go:95", after := #[{ on := 23, ground := Go.Ground.data }, { on := 21, ground := Go.Ground.chain }, { on := 21, ground := Go.Ground.guard }], guard := some (21, true) }) (v := .bool false) rfl (by rfl) ?_ ?_
            · intro w' hg; go_simp
            try simp only [Act.put, List.setIfInBounds_toArray, List.set_cons_zero, List.set_cons_succ]
            refine wpS_read (o := { dst := some 131, op := Go.Op.move (Go.Operand.tmp 21), type := 23, pos := "law.go:95", after := #[{ on := 24, ground := Go.Ground.guard }], guard := some (24, false) }) (v := .slice Az T.length cz) rfl (by rfl) ?_ ?_
            · intro w' hg; go_simp
            try simp only [Act.put, List.setIfInBounds_toArray, List.set_cons_zero, List.set_cons_succ]
            refine wpS_read (o := { dst := some 132, op := Go.Op.convert 23 9 (Go.Operand.tmp 131), type := 9, pos := "law.go:95", after := #[{ on := 25, ground := Go.Ground.data }, { on := 24, ground := Go.Ground.guard }], guard := some (24, false) }) (v := .string ⟨T.toArray⟩) rfl (by rfl) ?_ ?_
            · intro w' hg; have q0 := bty.conv (HZ3.out.below hg); go_simp
            try simp only [Act.put, List.setIfInBounds_toArray, List.set_cons_zero, List.set_cons_succ]
            refine wpS_read (o := { dst := some 133, op := Go.Op.move (Go.Operand.tmp 2), type := 23, pos := "law.go:95", after := #[{ on := 24, ground := Go.Ground.guard }], guard := some (24, false) }) (v := .slice D m d) rfl (by rfl) ?_ ?_
            · intro w' hg; go_simp
            try simp only [Act.put, List.setIfInBounds_toArray, List.set_cons_zero, List.set_cons_succ]
            refine wpS_read (o := { dst := some 134, op := Go.Op.convert 23 9 (Go.Operand.tmp 133), type := 9, pos := "law.go:95", after := #[{ on := 27, ground := Go.Ground.data }, { on := 24, ground := Go.Ground.guard }], guard := some (24, false) }) (v := .string ⟨T.toArray⟩) rfl (by rfl) ?_ ?_
            · intro w' hg; have q0 := bty.conv (HBB3.out.below hg); go_simp
            try simp only [Act.put, List.setIfInBounds_toArray, List.set_cons_zero, List.set_cons_succ]
            refine wpS_read (o := { dst := some 135, op := Go.Op.binOp Go.BinOp.eql 9 (Go.Operand.tmp 132) (Go.Operand.tmp 134) 9, type := 4, pos := "law.go:95", after := #[{ on := 26, ground := Go.Ground.data }, { on := 28, ground := Go.Ground.data }, { on := 24, ground := Go.Ground.guard }], guard := some (24, false) }) (v := .bool true) rfl (by rfl) ?_ ?_
            · intro w' hg; go_simp
            try simp only [Act.put, List.setIfInBounds_toArray, List.set_cons_zero, List.set_cons_succ]
            refine wpS_read (o := { dst := some 136, op := Go.Op.pick (Go.Operand.tmp 130) (Go.Operand.const (Go.Value.bool true)) (Go.Operand.tmp 135), type := 4, pos := "law.go:95", after := #[{ on := 24, ground := Go.Ground.data }, { on := 29, ground := Go.Ground.data }, { on := 21, ground := Go.Ground.guard }], guard := some (21, true) }) (v := .bool true) rfl (by rfl) ?_ ?_
            · intro w' hg; go_simp
            try simp only [Act.put, List.setIfInBounds_toArray, List.set_cons_zero, List.set_cons_succ]
            refine wpS_read (o := { dst := some 137, op := Go.Op.pick (Go.Operand.tmp 127) (Go.Operand.tmp 136) (Go.Operand.const (Go.Value.bool false)), type := 4, pos := "law.go:95", after := #[{ on := 21, ground := Go.Ground.data }, { on := 30, ground := Go.Ground.data }], guard := none }) (v := .bool true) rfl (by rfl) ?_ ?_
            · intro w' hg; go_simp
            try simp only [Act.put, List.setIfInBounds_toArray, List.set_cons_zero, List.set_cons_succ]
            refine wpS_read (o := { dst := some 23, op := Go.Op.assign (Go.Operand.tmp 137), type := 4, pos := "law.go:95", after := #[{ on := 31, ground := Go.Ground.data }, { on := 24, ground := Go.Ground.chain }, { on := 0, ground := Go.Ground.phase }, { on := 1, ground := Go.Ground.phase }, { on := 2, ground := Go.Ground.phase }, { on := 3, ground := Go.Ground.phase }, { on := 4, ground := Go.Ground.phase }, { on := 5, ground := Go.Ground.phase }, { on := 6, ground := Go.Ground.phase }, { on := 7, ground := Go.Ground.phase }, { on := 8, ground := Go.Ground.phase }, { on := 9, ground := Go.Ground.phase }, { on := 10, ground := Go.Ground.phase }, { on := 11, ground := Go.Ground.phase }, { on := 12, ground := Go.Ground.phase }, { on := 13, ground := Go.Ground.phase }, { on := 14, ground := Go.Ground.phase }, { on := 15, ground := Go.Ground.phase }, { on := 16, ground := Go.Ground.phase }, { on := 17, ground := Go.Ground.phase }, { on := 18, ground := Go.Ground.phase }, { on := 19, ground := Go.Ground.phase }, { on := 20, ground := Go.Ground.phase }, { on := 21, ground := Go.Ground.phase }, { on := 22, ground := Go.Ground.phase }, { on := 23, ground := Go.Ground.phase }, { on := 24, ground := Go.Ground.phase }, { on := 25, ground := Go.Ground.phase }, { on := 26, ground := Go.Ground.phase }, { on := 27, ground := Go.Ground.phase }, { on := 28, ground := Go.Ground.phase }, { on := 29, ground := Go.Ground.phase }, { on := 30, ground := Go.Ground.phase }, { on := 31, ground := Go.Ground.phase }], guard := none }) (v := .bool true) rfl (by rfl) ?_ ?_
            · intro w' hg; go_simp
            try simp only [Act.put, List.setIfInBounds_toArray, List.set_cons_zero, List.set_cons_succ]
            refine wpS_done ?_
            go_wp2_with fail
            go_meet
            exact ⟨by simp, HG3.out⟩
          · clear CZy
            have hx32 : ((x3 : Int) != 0) = true := by simp; omega
            have hx33 : ((x3 : Int) == 0) = false := by simp; omega
            clear hi hj hx3 hi0 hj0 hk0
            refine wp_region_sched [(false, 0), (false, 1), (false, 2), (false, 3), (false, 5), (false, 6), (true, 4), (false, 7), (false, 8), (false, 9), (false, 10), (false, 11), (false, 12), (false, 13), (false, 16), (false, 17), (true, 14), (false, 15), (false, 18), (false, 19), (false, 20), (false, 21), (false, 22), (false, 23), (false, 24), (false, 25), (false, 26), (false, 27), (false, 28), (false, 29), (false, 30), (false, 31), (false, 32)] (by kernel_rfl) (by kernel_rfl) (by kernel_rfl) (by kernel_rfl) (fun _ _ d _ _ h => by cases d <;> exact h) ?_
            have HBBd : Hid (Rb wz.drew wz.drew.heap.size D m d T) := HBB
            have HUd : Hid (RP wz.drew wz.drew.heap.size Au PL.length cu PL) := HU
            have HZd : Hid (Rb wz.drew wz.drew.heap.size Az Z.length cz Z) := HZ
            have HGd := Lib.hid (grow_drew wz)
            refine wpS_read (o := { dst := some 106, op := Go.Op.move (Go.Operand.tmp 16), type := 26, pos := "law.go:95", after := #[], guard := none }) (v := .int .i64 (x1 : Int)) rfl (by rfl) ?_ ?_
            · intro w' hg; go_simp
            try simp only [Act.put, List.setIfInBounds_toArray, List.set_cons_zero, List.set_cons_succ]
            refine wpS_read (o := { dst := some 107, op := Go.Op.binOp Go.BinOp.neq 26 (Go.Operand.tmp 106) (Go.Operand.const (Go.Value.int Go.IntKind.i64 0)) 26, type := 4, pos := "law.go:95", after := #[{ on := 0, ground := Go.Ground.data }], guard := none }) (v := .bool false) rfl (by rfl) ?_ ?_
            · intro w' hg; go_simp
            try simp only [Act.put, List.setIfInBounds_toArray, List.set_cons_zero, List.set_cons_succ]
            refine wpS_read (o := { dst := some 108, op := Go.Op.move (Go.Operand.tmp 107), type := 4, pos := "law.go:95", after := #[{ on := 1, ground := Go.Ground.data }], guard := none }) (v := .bool false) rfl (by rfl) ?_ ?_
            · intro w' hg; go_simp
            try simp only [Act.put, List.setIfInBounds_toArray, List.set_cons_zero, List.set_cons_succ]
            refine wpS_read (o := { dst := some 109, op := Go.Op.move (Go.Operand.tmp 15), type := 9, pos := "law.go:95", after := #[{ on := 2, ground := Go.Ground.guard }], guard := some (2, false) }) (v := .string ⟨T1.toArray⟩) rfl (by rfl) ?_ ?_
            · intro w' hg; go_simp
            try simp only [Act.put, List.setIfInBounds_toArray, List.set_cons_zero, List.set_cons_succ]
            refine wpS_read (o := { dst := some 111, op := Go.Op.move (Go.Operand.tmp 2), type := 23, pos := "law.go:95", after := #[{ on := 2, ground := Go.Ground.guard }], guard := some (2, false) }) (v := .slice D m d) rfl (by rfl) ?_ ?_
            · intro w' hg; go_simp
            try simp only [Act.put, List.setIfInBounds_toArray, List.set_cons_zero, List.set_cons_succ]
            refine wpS_read (o := { dst := some 112, op := Go.Op.convert 23 9 (Go.Operand.tmp 111), type := 9, pos := "law.go:95", after := #[{ on := 5, ground := Go.Ground.data }, { on := 2, ground := Go.Ground.guard }], guard := some (2, false) }) (v := .string ⟨T.toArray⟩) rfl (by rfl) ?_ ?_
            · intro w' hg; have q0 := bty.conv (HBBd.out.below hg); go_simp
            try simp only [Act.put, List.setIfInBounds_toArray, List.set_cons_zero, List.set_cons_succ]
            refine wpS_call (o := { dst := some 110, op := Go.Op.call { callee := Go.Callee.value (Go.Operand.func 19), args := #[Go.Operand.tmp 109], argTypes := #[9] }, type := 9, pos := "law.go:95", after := #[{ on := 3, ground := Go.Ground.data }, { on := 2, ground := Go.Ground.chain }, { on := 2, ground := Go.Ground.guard }], guard := some (2, false) }) rfl (by rfl) (fun K hK => ?_)
            go_simp
            go_at_call 19
            with_reducible refine (CE.out _).mono ?_
            rintro e w2 ⟨rfl, hb2⟩
            have HBB2 := Lib.hid ((HBBd.out.below hb2).more hb2.size); have HU2 := Lib.hid ((HUd.out.below hb2).more hb2.size); have HZ2 := Lib.hid ((HZd.out.below hb2).more hb2.size); have HG2 := Lib.hid (HGd.out.trans hb2)
            refine hK.out _ _ hb2 ?_
            clear hK K hb2
            try simp only [Act.put, List.setIfInBounds_toArray, List.set_cons_zero, List.set_cons_succ]
            refine wpS_read (o := { dst := some 113, op := Go.Op.binOp Go.BinOp.eql 9 (Go.Operand.tmp 110) (Go.Operand.tmp 112) 9, type := 4, pos := "law.go:95", after := #[{ on := 4, ground := Go.Ground.data }, { on := 6, ground := Go.Ground.data }, { on := 2, ground := Go.Ground.guard }], guard := some (2, false) }) (v := .bool true) rfl (by rfl) ?_ ?_
            · intro w' hg; go_simp
            try simp only [Act.put, List.setIfInBounds_toArray, List.set_cons_zero, List.set_cons_succ]
            refine wpS_read (o := { dst := some 114, op := Go.Op.pick (Go.Operand.tmp 108) (Go.Operand.const (Go.Value.bool true)) (Go.Operand.tmp 113), type := 4, pos := "law.go:95", after := #[{ on := 2, ground := Go.Ground.data }, { on := 7, ground := Go.Ground.data }], guard := none }) (v := .bool true) rfl (by rfl) ?_ ?_
            · intro w' hg; go_simp
            try simp only [Act.put, List.setIfInBounds_toArray, List.set_cons_zero, List.set_cons_succ]
            refine wpS_read (o := { dst := some 115, op := Go.Op.move (Go.Operand.tmp 114), type := 4, pos := "law.go:95", after := #[{ on := 8, ground := Go.Ground.data }, { on := 4, ground := Go.Ground.chain }], guard := none }) (v := .bool true) rfl (by rfl) ?_ ?_
            · intro w' hg; go_simp
            try simp only [Act.put, List.setIfInBounds_toArray, List.set_cons_zero, List.set_cons_succ]
            refine wpS_read (o := { dst := some 116, op := Go.Op.move (Go.Operand.tmp 18), type := 26, pos := "law.go:95", after := #[{ on := 9, ground := Go.Ground.guard }], guard := some (9, true) }) (v := .int .i64 (x2 : Int)) rfl (by rfl) ?_ ?_
            · intro w' hg; go_simp
            try simp only [Act.put, List.setIfInBounds_toArray, List.set_cons_zero, List.set_cons_succ]
            refine wpS_read (o := { dst := some 117, op := Go.Op.binOp Go.BinOp.neq 26 (Go.Operand.tmp 116) (Go.Operand.const (Go.Value.int Go.IntKind.i64 0)) 26, type := 4, pos := "law.go:95", after := #[{ on := 10, ground := Go.Ground.data }, { on := 9, ground := Go.Ground.guard }], guard := some (9, true) }) (v := .bool false) rfl (by rfl) ?_ ?_
            · intro w' hg; go_simp
            try simp only [Act.put, List.setIfInBounds_toArray, List.set_cons_zero, List.set_cons_succ]
            refine wpS_read (o := { dst := some 118, op := Go.Op.move (Go.Operand.tmp 117), type := 4, pos := "law.go:95", after := #[{ on := 11, ground := Go.Ground.data }, { on := 9, ground := Go.Ground.chain }, { on := 9, ground := Go.Ground.guard }], guard := some (9, true) }) (v := .bool false) rfl (by rfl) ?_ ?_
            · intro w' hg; go_simp
            try simp only [Act.put, List.setIfInBounds_toArray, List.set_cons_zero, List.set_cons_succ]
            refine wpS_read (o := { dst := some 119, op := Go.Op.move (Go.Operand.tmp 17), type := 42, pos := "law.go:95", after := #[{ on := 12, ground := Go.Ground.guard }], guard := some (12, false) }) (v := .slice Au PL.length cu) rfl (by rfl) ?_ ?_
            · intro w' hg; go_simp
            try simp only [Act.put, List.setIfInBounds_toArray, List.set_cons_zero, List.set_cons_succ]
            refine wpS_read (o := { dst := some 122, op := Go.Op.move (Go.Operand.tmp 2), type := 23, pos := "law.go:95", after := #[{ on := 12, ground := Go.Ground.guard }], guard := some (12, false) }) (v := .slice D m d) rfl (by rfl) ?_ ?_
            · intro w' hg; go_simp
            try simp only [Act.put, List.setIfInBounds_toArray, List.set_cons_zero, List.set_cons_succ]
            refine wpS_read (o := { dst := some 123, op := Go.Op.convert 23 9 (Go.Operand.tmp 122), type := 9, pos := "law.go:95", after := #[{ on := 16, ground := Go.Ground.data }, { on := 12, ground := Go.Ground.guard }], guard := some (12, false) }) (v := .string ⟨T.toArray⟩) rfl (by rfl) ?_ ?_
            · intro w' hg; have q0 := bty.conv (HBB2.out.below hg); go_simp
            try simp only [Act.put, List.setIfInBounds_toArray, List.set_cons_zero, List.set_cons_succ]
            refine wpS_call (o := { dst := some 120, op := Go.Op.call { callee := Go.Callee.value (Go.Operand.func 27), args := #[Go.Operand.tmp 119], argTypes := #[42] }, type := 23, pos := "law.go:95", after := #[{ on := 13, ground := Go.Ground.data }, { on := 12, ground := Go.Ground.chain }, { on := 12, ground := Go.Ground.guard }], guard := some (12, false) }) rfl (by rfl) (fun K hK => ?_)
            go_simp
            go_at_call 27
            with_reducible refine (CL.out _ Au cu HU2.out).mono ?_
            rintro e w3 ⟨A3, c3, rfl, hown3, hb3⟩
            have Hs3 := Lib.hid hown3.rb; clear hown3
            have HBB3 := Lib.hid ((HBB2.out.below hb3).more hb3.size); have HU3 := Lib.hid ((HU2.out.below hb3).more hb3.size); have HZ3 := Lib.hid ((HZ2.out.below hb3).more hb3.size); have HG3 := Lib.hid (HG2.out.trans hb3)
            refine hK.out _ _ hb3 ?_
            clear hK K hb3
            try simp only [Act.put, List.setIfInBounds_toArray, List.set_cons_zero, List.set_cons_succ]
            refine wpS_read (o := { dst := some 121, op := Go.Op.convert 23 9 (Go.Operand.tmp 120), type := 9, pos := "law.go:95", after := #[{ on := 14, ground := Go.Ground.data }, { on := 12, ground := Go.Ground.guard }], guard := some (12, false) }) (v := .string ⟨T.toArray⟩) rfl (by rfl) ?_ ?_
            · intro w' hg; have q0 := bty.conv (Hs3.out.below hg); go_simp
            try simp only [Act.put, List.setIfInBounds_toArray, List.set_cons_zero, List.set_cons_succ]
            refine wpS_read (o := { dst := some 124, op := Go.Op.binOp Go.BinOp.eql 9 (Go.Operand.tmp 121) (Go.Operand.tmp 123) 9, type := 4, pos := "law.go:95", after := #[{ on := 15, ground := Go.Ground.data }, { on := 17, ground := Go.Ground.data }, { on := 12, ground := Go.Ground.guard }], guard := some (12, false) }) (v := .bool true) rfl (by rfl) ?_ ?_
            · intro w' hg; go_simp
            try simp only [Act.put, List.setIfInBounds_toArray, List.set_cons_zero, List.set_cons_succ]
            refine wpS_read (o := { dst := some 125, op := Go.Op.pick (Go.Operand.tmp 118) (Go.Operand.const (Go.Value.bool true)) (Go.Operand.tmp 124), type := 4, pos := "law.go:95", after := #[{ on := 12, ground := Go.Ground.data }, { on := 18, ground := Go.Ground.data }, { on := 9, ground := Go.Ground.guard }], guard := some (9, true) }) (v := .bool true) rfl (by rfl) ?_ ?_
            · intro w' hg; go_simp
            try simp only [Act.put, List.setIfInBounds_toArray, List.set_cons_zero, List.set_cons_succ]
            refine wpS_read (o := { dst := some 126, op := Go.Op.pick (Go.Operand.tmp 115) (Go.Operand.tmp 125) (Go.Operand.const (Go.Value.bool false)), type := 4, pos := "law.go:95", after := #[{ on := 9, ground := Go.Ground.data }, { on := 19, ground := Go.Ground.data }], guard := none }) (v := .bool true) rfl (by rfl) ?_ ?_
            · intro w' hg; go_simp
            try simp only [Act.put, List.setIfInBounds_toArray, List.set_cons_zero, List.set_cons_succ]
            refine wpS_read (o := { dst := some 127, op := Go.Op.move (Go.Operand.tmp 126), type := 4, pos := "law.go:95", after := #[{ on := 20, ground := Go.Ground.data }, { on := 14, ground := Go.Ground.chain }], guard := none }) (v := .bool true) rfl (by rfl) ?_ ?_
            · intro w' hg; go_simp
            try simp only [Act.put, List.setIfInBounds_toArray, List.set_cons_zero, List.set_cons_succ]
            refine wpS_read (o := { dst := some 128, op := Go.Op.move (Go.Operand.tmp 20), type := 26, pos := "law.go:95", after := #[{ on := 21, ground := Go.Ground.guard }], guard := some (21, true) }) (v := .int .i64 (x3 : Int)) rfl (by rfl) ?_ ?_
            · intro w' hg; go_simp
            try simp only [Act.put, List.setIfInBounds_toArray, List.set_cons_zero, List.set_cons_succ]
            refine wpS_read (o := { dst := some 129, op := Go.Op.binOp Go.BinOp.neq 26 (Go.Operand.tmp 128) (Go.Operand.const (Go.Value.int Go.IntKind.i64 0)) 26, type := 4, pos := "law.go:95", after := #[{ on := 22, ground := Go.Ground.data }, { on := 21, ground := Go.Ground.guard }], guard := some (21, true) }) (v := .bool true) rfl (by rfl) ?_ ?_
            · intro w' hg; go_simp
            try simp only [Act.put, List.setIfInBounds_toArray, List.set_cons_zero, List.set_cons_succ]
            refine wpS_read (o := { dst := some 130, op := Go.Op.move (Go.Operand.tmp 129), type := 4, pos := "law.go:95", after := #[{ on := 23, ground := Go.Ground.data }, { on := 21, ground := Go.Ground.chain }, { on := 21, ground := Go.Ground.guard }], guard := some (21, true) }) (v := .bool true) rfl (by rfl) ?_ ?_
            · intro w' hg; go_simp
            try simp only [Act.put, List.setIfInBounds_toArray, List.set_cons_zero, List.set_cons_succ]
            refine wpS_skip (o := { dst := some 131, op := Go.Op.move (Go.Operand.tmp 21), type := 23, pos := "law.go:95", after := #[{ on := 24, ground := Go.Ground.guard }], guard := some (24, false) }) rfl (by rfl) ?_
            try simp only [Act.put, List.setIfInBounds_toArray, List.set_cons_zero, List.set_cons_succ]
            refine wpS_skip (o := { dst := some 132, op := Go.Op.convert 23 9 (Go.Operand.tmp 131), type := 9, pos := "law.go:95", after := #[{ on := 25, ground := Go.Ground.data }, { on := 24, ground := Go.Ground.guard }], guard := some (24, false) }) rfl (by rfl) ?_
            try simp only [Act.put, List.setIfInBounds_toArray, List.set_cons_zero, List.set_cons_succ]
            refine wpS_skip (o := { dst := some 133, op := Go.Op.move (Go.Operand.tmp 2), type := 23, pos := "law.go:95", after := #[{ on := 24, ground := Go.Ground.guard }], guard := some (24, false) }) rfl (by rfl) ?_
            try simp only [Act.put, List.setIfInBounds_toArray, List.set_cons_zero, List.set_cons_succ]
            refine wpS_skip (o := { dst := some 134, op := Go.Op.convert 23 9 (Go.Operand.tmp 133), type := 9, pos := "law.go:95", after := #[{ on := 27, ground := Go.Ground.data }, { on := 24, ground := Go.Ground.guard }], guard := some (24, false) }) rfl (by rfl) ?_
            try simp only [Act.put, List.setIfInBounds_toArray, List.set_cons_zero, List.set_cons_succ]
            refine wpS_skip (o := { dst := some 135, op := Go.Op.binOp Go.BinOp.eql 9 (Go.Operand.tmp 132) (Go.Operand.tmp 134) 9, type := 4, pos := "law.go:95", after := #[{ on := 26, ground := Go.Ground.data }, { on := 28, ground := Go.Ground.data }, { on := 24, ground := Go.Ground.guard }], guard := some (24, false) }) rfl (by rfl) ?_
            try simp only [Act.put, List.setIfInBounds_toArray, List.set_cons_zero, List.set_cons_succ]
            refine wpS_read (o := { dst := some 136, op := Go.Op.pick (Go.Operand.tmp 130) (Go.Operand.const (Go.Value.bool true)) (Go.Operand.tmp 135), type := 4, pos := "law.go:95", after := #[{ on := 24, ground := Go.Ground.data }, { on := 29, ground := Go.Ground.data }, { on := 21, ground := Go.Ground.guard }], guard := some (21, true) }) (v := .bool true) rfl (by rfl) ?_ ?_
            · intro w' hg; go_simp
            try simp only [Act.put, List.setIfInBounds_toArray, List.set_cons_zero, List.set_cons_succ]
            refine wpS_read (o := { dst := some 137, op := Go.Op.pick (Go.Operand.tmp 127) (Go.Operand.tmp 136) (Go.Operand.const (Go.Value.bool false)), type := 4, pos := "law.go:95", after := #[{ on := 21, ground := Go.Ground.data }, { on := 30, ground := Go.Ground.data }], guard := none }) (v := .bool true) rfl (by rfl) ?_ ?_
            · intro w' hg; go_simp
            try simp only [Act.put, List.setIfInBounds_toArray, List.set_cons_zero, List.set_cons_succ]
            refine wpS_read (o := { dst := some 23, op := Go.Op.assign (Go.Operand.tmp 137), type := 4, pos := "law.go:95", after := #[{ on := 31, ground := Go.Ground.data }, { on := 24, ground := Go.Ground.chain }, { on := 0, ground := Go.Ground.phase }, { on := 1, ground := Go.Ground.phase }, { on := 2, ground := Go.Ground.phase }, { on := 3, ground := Go.Ground.phase }, { on := 4, ground := Go.Ground.phase }, { on := 5, ground := Go.Ground.phase }, { on := 6, ground := Go.Ground.phase }, { on := 7, ground := Go.Ground.phase }, { on := 8, ground := Go.Ground.phase }, { on := 9, ground := Go.Ground.phase }, { on := 10, ground := Go.Ground.phase }, { on := 11, ground := Go.Ground.phase }, { on := 12, ground := Go.Ground.phase }, { on := 13, ground := Go.Ground.phase }, { on := 14, ground := Go.Ground.phase }, { on := 15, ground := Go.Ground.phase }, { on := 16, ground := Go.Ground.phase }, { on := 17, ground := Go.Ground.phase }, { on := 18, ground := Go.Ground.phase }, { on := 19, ground := Go.Ground.phase }, { on := 20, ground := Go.Ground.phase }, { on := 21, ground := Go.Ground.phase }, { on := 22, ground := Go.Ground.phase }, { on := 23, ground := Go.Ground.phase }, { on := 24, ground := Go.Ground.phase }, { on := 25, ground := Go.Ground.phase }, { on := 26, ground := Go.Ground.phase }, { on := 27, ground := Go.Ground.phase }, { on := 28, ground := Go.Ground.phase }, { on := 29, ground := Go.Ground.phase }, { on := 30, ground := Go.Ground.phase }, { on := 31, ground := Go.Ground.phase }], guard := none }) (v := .bool true) rfl (by rfl) ?_ ?_
            · intro w' hg; go_simp
            try simp only [Act.put, List.setIfInBounds_toArray, List.set_cons_zero, List.set_cons_succ]
            refine wpS_done ?_
            go_wp2_with fail
            go_meet
            exact ⟨by simp, HG3.out⟩
        · clear CLy
          have hx22 : ((x2 : Int) != 0) = true := by simp; omega
          have hx23 : ((x2 : Int) == 0) = false := by simp; omega
          by_cases hk0 : x3 = 0
          · have hZT : T = Z := (CZy.out hk0).symm
            subst hZT
            have hx32 : ((x3 : Int) != 0) = false := by simp [hk0]
            have hx33 : ((x3 : Int) == 0) = true := by simp [hk0]
            clear hi hj hx3 hi0 hj0 hk0
            refine wp_region_sched [(false, 0), (false, 1), (false, 2), (false, 3), (false, 5), (false, 6), (true, 4), (false, 7), (false, 8), (false, 9), (false, 10), (false, 11), (false, 12), (false, 13), (false, 16), (false, 17), (true, 14), (false, 15), (false, 18), (false, 19), (false, 20), (false, 21), (false, 22), (false, 23), (false, 24), (false, 25), (false, 26), (false, 27), (false, 28), (false, 29), (false, 30), (false, 31), (false, 32)] (by kernel_rfl) (by kernel_rfl) (by kernel_rfl) (by kernel_rfl) (fun _ _ d _ _ h => by cases d <;> exact h) ?_
            have HBBd : Hid (Rb wz.drew wz.drew.heap.size D m d T) := HBB
            have HUd : Hid (RP wz.drew wz.drew.heap.size Au PL.length cu PL) := HU
            have HZd : Hid (Rb wz.drew wz.drew.heap.size Az T.length cz T) := HZ
            have HGd := Lib.hid (grow_drew wz)
            refine wpS_read (o := { dst := some 106, op := Go.Op.move (Go.Operand.tmp 16), type := 26, pos := "law.go:95", after := #[], guard := none }) (v := .int .i64 (x1 : Int)) rfl (by rfl) ?_ ?_
            · intro w' hg; go_simp
            try simp only [Act.put, List.setIfInBounds_toArray, List.set_cons_zero, List.set_cons_succ]
            refine wpS_read (o := { dst := some 107, op := Go.Op.binOp Go.BinOp.neq 26 (Go.Operand.tmp 106) (Go.Operand.const (Go.Value.int Go.IntKind.i64 0)) 26, type := 4, pos := "law.go:95", after := #[{ on := 0, ground := Go.Ground.data }], guard := none }) (v := .bool false) rfl (by rfl) ?_ ?_
            · intro w' hg; go_simp
            try simp only [Act.put, List.setIfInBounds_toArray, List.set_cons_zero, List.set_cons_succ]
            refine wpS_read (o := { dst := some 108, op := Go.Op.move (Go.Operand.tmp 107), type := 4, pos := "law.go:95", after := #[{ on := 1, ground := Go.Ground.data }], guard := none }) (v := .bool false) rfl (by rfl) ?_ ?_
            · intro w' hg; go_simp
            try simp only [Act.put, List.setIfInBounds_toArray, List.set_cons_zero, List.set_cons_succ]
            refine wpS_read (o := { dst := some 109, op := Go.Op.move (Go.Operand.tmp 15), type := 9, pos := "law.go:95", after := #[{ on := 2, ground := Go.Ground.guard }], guard := some (2, false) }) (v := .string ⟨T1.toArray⟩) rfl (by rfl) ?_ ?_
            · intro w' hg; go_simp
            try simp only [Act.put, List.setIfInBounds_toArray, List.set_cons_zero, List.set_cons_succ]
            refine wpS_read (o := { dst := some 111, op := Go.Op.move (Go.Operand.tmp 2), type := 23, pos := "law.go:95", after := #[{ on := 2, ground := Go.Ground.guard }], guard := some (2, false) }) (v := .slice D m d) rfl (by rfl) ?_ ?_
            · intro w' hg; go_simp
            try simp only [Act.put, List.setIfInBounds_toArray, List.set_cons_zero, List.set_cons_succ]
            refine wpS_read (o := { dst := some 112, op := Go.Op.convert 23 9 (Go.Operand.tmp 111), type := 9, pos := "law.go:95", after := #[{ on := 5, ground := Go.Ground.data }, { on := 2, ground := Go.Ground.guard }], guard := some (2, false) }) (v := .string ⟨T.toArray⟩) rfl (by rfl) ?_ ?_
            · intro w' hg; have q0 := bty.conv (HBBd.out.below hg); go_simp
            try simp only [Act.put, List.setIfInBounds_toArray, List.set_cons_zero, List.set_cons_succ]
            refine wpS_call (o := { dst := some 110, op := Go.Op.call { callee := Go.Callee.value (Go.Operand.func 19), args := #[Go.Operand.tmp 109], argTypes := #[9] }, type := 9, pos := "law.go:95", after := #[{ on := 3, ground := Go.Ground.data }, { on := 2, ground := Go.Ground.chain }, { on := 2, ground := Go.Ground.guard }], guard := some (2, false) }) rfl (by rfl) (fun K hK => ?_)
            go_simp
            go_at_call 19
            with_reducible refine (CE.out _).mono ?_
            rintro e w2 ⟨rfl, hb2⟩
            have HBB2 := Lib.hid ((HBBd.out.below hb2).more hb2.size); have HU2 := Lib.hid ((HUd.out.below hb2).more hb2.size); have HZ2 := Lib.hid ((HZd.out.below hb2).more hb2.size); have HG2 := Lib.hid (HGd.out.trans hb2)
            refine hK.out _ _ hb2 ?_
            clear hK K hb2
            try simp only [Act.put, List.setIfInBounds_toArray, List.set_cons_zero, List.set_cons_succ]
            refine wpS_read (o := { dst := some 113, op := Go.Op.binOp Go.BinOp.eql 9 (Go.Operand.tmp 110) (Go.Operand.tmp 112) 9, type := 4, pos := "law.go:95", after := #[{ on := 4, ground := Go.Ground.data }, { on := 6, ground := Go.Ground.data }, { on := 2, ground := Go.Ground.guard }], guard := some (2, false) }) (v := .bool true) rfl (by rfl) ?_ ?_
            · intro w' hg; go_simp
            try simp only [Act.put, List.setIfInBounds_toArray, List.set_cons_zero, List.set_cons_succ]
            refine wpS_read (o := { dst := some 114, op := Go.Op.pick (Go.Operand.tmp 108) (Go.Operand.const (Go.Value.bool true)) (Go.Operand.tmp 113), type := 4, pos := "law.go:95", after := #[{ on := 2, ground := Go.Ground.data }, { on := 7, ground := Go.Ground.data }], guard := none }) (v := .bool true) rfl (by rfl) ?_ ?_
            · intro w' hg; go_simp
            try simp only [Act.put, List.setIfInBounds_toArray, List.set_cons_zero, List.set_cons_succ]
            refine wpS_read (o := { dst := some 115, op := Go.Op.move (Go.Operand.tmp 114), type := 4, pos := "law.go:95", after := #[{ on := 8, ground := Go.Ground.data }, { on := 4, ground := Go.Ground.chain }], guard := none }) (v := .bool true) rfl (by rfl) ?_ ?_
            · intro w' hg; go_simp
            try simp only [Act.put, List.setIfInBounds_toArray, List.set_cons_zero, List.set_cons_succ]
            refine wpS_read (o := { dst := some 116, op := Go.Op.move (Go.Operand.tmp 18), type := 26, pos := "law.go:95", after := #[{ on := 9, ground := Go.Ground.guard }], guard := some (9, true) }) (v := .int .i64 (x2 : Int)) rfl (by rfl) ?_ ?_
            · intro w' hg; go_simp
            try simp only [Act.put, List.setIfInBounds_toArray, List.set_cons_zero, List.set_cons_succ]
            refine wpS_read (o := { dst := some 117, op := Go.Op.binOp Go.BinOp.neq 26 (Go.Operand.tmp 116) (Go.Operand.const (Go.Value.int Go.IntKind.i64 0)) 26, type := 4, pos := "law.go:95", after := #[{ on := 10, ground := Go.Ground.data }, { on := 9, ground := Go.Ground.guard }], guard := some (9, true) }) (v := .bool true) rfl (by rfl) ?_ ?_
            · intro w' hg; go_simp
            try simp only [Act.put, List.setIfInBounds_toArray, List.set_cons_zero, List.set_cons_succ]
            refine wpS_read (o := { dst := some 118, op := Go.Op.move (Go.Operand.tmp 117), type := 4, pos := "law.go:95", after := #[{ on := 11, ground := Go.Ground.data }, { on := 9, ground := Go.Ground.chain }, { on := 9, ground := Go.Ground.guard }], guard := some (9, true) }) (v := .bool true) rfl (by rfl) ?_ ?_
            · intro w' hg; go_simp
            try simp only [Act.put, List.setIfInBounds_toArray, List.set_cons_zero, List.set_cons_succ]
            refine wpS_skip (o := { dst := some 119, op := Go.Op.move (Go.Operand.tmp 17), type := 42, pos := "law.go:95", after := #[{ on := 12, ground := Go.Ground.guard }], guard := some (12, false) }) rfl (by rfl) ?_
            try simp only [Act.put, List.setIfInBounds_toArray, List.set_cons_zero, List.set_cons_succ]
            refine wpS_skip (o := { dst := some 122, op := Go.Op.move (Go.Operand.tmp 2), type := 23, pos := "law.go:95", after := #[{ on := 12, ground := Go.Ground.guard }], guard := some (12, false) }) rfl (by rfl) ?_
            try simp only [Act.put, List.setIfInBounds_toArray, List.set_cons_zero, List.set_cons_succ]
            refine wpS_skip (o := { dst := some 123, op := Go.Op.convert 23 9 (Go.Operand.tmp 122), type := 9, pos := "law.go:95", after := #[{ on := 16, ground := Go.Ground.data }, { on := 12, ground := Go.Ground.guard }], guard := some (12, false) }) rfl (by rfl) ?_
            try simp only [Act.put, List.setIfInBounds_toArray, List.set_cons_zero, List.set_cons_succ]
            refine wpS_skip (o := { dst := some 120, op := Go.Op.call { callee := Go.Callee.value (Go.Operand.func 27), args := #[Go.Operand.tmp 119], argTypes := #[42] }, type := 23, pos := "law.go:95", after := #[{ on := 13, ground := Go.Ground.data }, { on := 12, ground := Go.Ground.chain }, { on := 12, ground := Go.Ground.guard }], guard := some (12, false) }) rfl (by rfl) ?_
            try simp only [Act.put, List.setIfInBounds_toArray, List.set_cons_zero, List.set_cons_succ]
            refine wpS_skip (o := { dst := some 121, op := Go.Op.convert 23 9 (Go.Operand.tmp 120), type := 9, pos := "law.go:95", after := #[{ on := 14, ground := Go.Ground.data }, { on := 12, ground := Go.Ground.guard }], guard := some (12, false) }) rfl (by rfl) ?_
            try simp only [Act.put, List.setIfInBounds_toArray, List.set_cons_zero, List.set_cons_succ]
            refine wpS_skip (o := { dst := some 124, op := Go.Op.binOp Go.BinOp.eql 9 (Go.Operand.tmp 121) (Go.Operand.tmp 123) 9, type := 4, pos := "law.go:95", after := #[{ on := 15, ground := Go.Ground.data }, { on := 17, ground := Go.Ground.data }, { on := 12, ground := Go.Ground.guard }], guard := some (12, false) }) rfl (by rfl) ?_
            try simp only [Act.put, List.setIfInBounds_toArray, List.set_cons_zero, List.set_cons_succ]
            refine wpS_read (o := { dst := some 125, op := Go.Op.pick (Go.Operand.tmp 118) (Go.Operand.const (Go.Value.bool true)) (Go.Operand.tmp 124), type := 4, pos := "law.go:95", after := #[{ on := 12, ground := Go.Ground.data }, { on := 18, ground := Go.Ground.data }, { on := 9, ground := Go.Ground.guard }], guard := some (9, true) }) (v := .bool true) rfl (by rfl) ?_ ?_
            · intro w' hg; go_simp
            try simp only [Act.put, List.setIfInBounds_toArray, List.set_cons_zero, List.set_cons_succ]
            refine wpS_read (o := { dst := some 126, op := Go.Op.pick (Go.Operand.tmp 115) (Go.Operand.tmp 125) (Go.Operand.const (Go.Value.bool false)), type := 4, pos := "law.go:95", after := #[{ on := 9, ground := Go.Ground.data }, { on := 19, ground := Go.Ground.data }], guard := none }) (v := .bool true) rfl (by rfl) ?_ ?_
            · intro w' hg; go_simp
            try simp only [Act.put, List.setIfInBounds_toArray, List.set_cons_zero, List.set_cons_succ]
            refine wpS_read (o := { dst := some 127, op := Go.Op.move (Go.Operand.tmp 126), type := 4, pos := "law.go:95", after := #[{ on := 20, ground := Go.Ground.data }, { on := 14, ground := Go.Ground.chain }], guard := none }) (v := .bool true) rfl (by rfl) ?_ ?_
            · intro w' hg; go_simp
            try simp only [Act.put, List.setIfInBounds_toArray, List.set_cons_zero, List.set_cons_succ]
            refine wpS_read (o := { dst := some 128, op := Go.Op.move (Go.Operand.tmp 20), type := 26, pos := "law.go:95", after := #[{ on := 21, ground := Go.Ground.guard }], guard := some (21, true) }) (v := .int .i64 (x3 : Int)) rfl (by rfl) ?_ ?_
            · intro w' hg; go_simp
            try simp only [Act.put, List.setIfInBounds_toArray, List.set_cons_zero, List.set_cons_succ]
            refine wpS_read (o := { dst := some 129, op := Go.Op.binOp Go.BinOp.neq 26 (Go.Operand.tmp 128) (Go.Operand.const (Go.Value.int Go.IntKind.i64 0)) 26, type := 4, pos := "law.go:95", after := #[{ on := 22, ground := Go.Ground.data }, { on := 21, ground := Go.Ground.guard }], guard := some (21, true) }) (v := .bool false) rfl (by rfl) ?_ ?_
            · intro w' hg; go_simp
            try simp only [Act.put, List.setIfInBounds_toArray, List.set_cons_zero, List.set_cons_succ]
            refine wpS_read (o := { dst := some 130, op := Go.Op.move (Go.Operand.tmp 129), type := 4, pos := "law.go:95", after := #[{ on := 23, ground := Go.Ground.data }, { on := 21, ground := Go.Ground.chain }, { on := 21, ground := Go.Ground.guard }], guard := some (21, true) }) (v := .bool false) rfl (by rfl) ?_ ?_
            · intro w' hg; go_simp
            try simp only [Act.put, List.setIfInBounds_toArray, List.set_cons_zero, List.set_cons_succ]
            refine wpS_read (o := { dst := some 131, op := Go.Op.move (Go.Operand.tmp 21), type := 23, pos := "law.go:95", after := #[{ on := 24, ground := Go.Ground.guard }], guard := some (24, false) }) (v := .slice Az T.length cz) rfl (by rfl) ?_ ?_
            · intro w' hg; go_simp
            try simp only [Act.put, List.setIfInBounds_toArray, List.set_cons_zero, List.set_cons_succ]
            refine wpS_read (o := { dst := some 132, op := Go.Op.convert 23 9 (Go.Operand.tmp 131), type := 9, pos := "law.go:95", after := #[{ on := 25, ground := Go.Ground.data }, { on := 24, ground := Go.Ground.guard }], guard := some (24, false) }) (v := .string ⟨T.toArray⟩) rfl (by rfl) ?_ ?_
            · intro w' hg; have q0 := bty.conv (HZ2.out.below hg); go_simp
            try simp only [Act.put, List.setIfInBounds_toArray, List.set_cons_zero, List.set_cons_succ]
            refine wpS_read (o := { dst := some 133, op := Go.Op.move (Go.Operand.tmp 2), type := 23, pos := "law.go:95", after := #[{ on := 24, ground := Go.Ground.guard }], guard := some (24, false) }) (v := .slice D m d) rfl (by rfl) ?_ ?_
            · intro w' hg; go_simp
            try simp only [Act.put, List.setIfInBounds_toArray, List.set_cons_zero, List.set_cons_succ]
            refine wpS_read (o := { dst := some 134, op := Go.Op.convert 23 9 (Go.Operand.tmp 133), type := 9, pos := "law.go:95", after := #[{ on := 27, ground := Go.Ground.data }, { on := 24, ground := Go.Ground.guard }], guard := some (24, false) }) (v := .string ⟨T.toArray⟩) rfl (by rfl) ?_ ?_
            · intro w' hg; have q0 := bty.conv (HBB2.out.below hg); go_simp
            try simp only [Act.put, List.setIfInBounds_toArray, List.set_cons_zero, List.set_cons_succ]
            refine wpS_read (o := { dst := some 135, op := Go.Op.binOp Go.BinOp.eql 9 (Go.Operand.tmp 132) (Go.Operand.tmp 134) 9, type := 4, pos := "law.go:95", after := #[{ on := 26, ground := Go.Ground.data }, { on := 28, ground := Go.Ground.data }, { on := 24, ground := Go.Ground.guard }], guard := some (24, false) }) (v := .bool true) rfl (by rfl) ?_ ?_
            · intro w' hg; go_simp
            try simp only [Act.put, List.setIfInBounds_toArray, List.set_cons_zero, List.set_cons_succ]
            refine wpS_read (o := { dst := some 136, op := Go.Op.pick (Go.Operand.tmp 130) (Go.Operand.const (Go.Value.bool true)) (Go.Operand.tmp 135), type := 4, pos := "law.go:95", after := #[{ on := 24, ground := Go.Ground.data }, { on := 29, ground := Go.Ground.data }, { on := 21, ground := Go.Ground.guard }], guard := some (21, true) }) (v := .bool true) rfl (by rfl) ?_ ?_
            · intro w' hg; go_simp
            try simp only [Act.put, List.setIfInBounds_toArray, List.set_cons_zero, List.set_cons_succ]
            refine wpS_read (o := { dst := some 137, op := Go.Op.pick (Go.Operand.tmp 127) (Go.Operand.tmp 136) (Go.Operand.const (Go.Value.bool false)), type := 4, pos := "law.go:95", after := #[{ on := 21, ground := Go.Ground.data }, { on := 30, ground := Go.Ground.data }], guard := none }) (v := .bool true) rfl (by rfl) ?_ ?_
            · intro w' hg; go_simp
            try simp only [Act.put, List.setIfInBounds_toArray, List.set_cons_zero, List.set_cons_succ]
            refine wpS_read (o := { dst := some 23, op := Go.Op.assign (Go.Operand.tmp 137), type := 4, pos := "law.go:95", after := #[{ on := 31, ground := Go.Ground.data }, { on := 24, ground := Go.Ground.chain }, { on := 0, ground := Go.Ground.phase }, { on := 1, ground := Go.Ground.phase }, { on := 2, ground := Go.Ground.phase }, { on := 3, ground := Go.Ground.phase }, { on := 4, ground := Go.Ground.phase }, { on := 5, ground := Go.Ground.phase }, { on := 6, ground := Go.Ground.phase }, { on := 7, ground := Go.Ground.phase }, { on := 8, ground := Go.Ground.phase }, { on := 9, ground := Go.Ground.phase }, { on := 10, ground := Go.Ground.phase }, { on := 11, ground := Go.Ground.phase }, { on := 12, ground := Go.Ground.phase }, { on := 13, ground := Go.Ground.phase }, { on := 14, ground := Go.Ground.phase }, { on := 15, ground := Go.Ground.phase }, { on := 16, ground := Go.Ground.phase }, { on := 17, ground := Go.Ground.phase }, { on := 18, ground := Go.Ground.phase }, { on := 19, ground := Go.Ground.phase }, { on := 20, ground := Go.Ground.phase }, { on := 21, ground := Go.Ground.phase }, { on := 22, ground := Go.Ground.phase }, { on := 23, ground := Go.Ground.phase }, { on := 24, ground := Go.Ground.phase }, { on := 25, ground := Go.Ground.phase }, { on := 26, ground := Go.Ground.phase }, { on := 27, ground := Go.Ground.phase }, { on := 28, ground := Go.Ground.phase }, { on := 29, ground := Go.Ground.phase }, { on := 30, ground := Go.Ground.phase }, { on := 31, ground := Go.Ground.phase }], guard := none }) (v := .bool true) rfl (by rfl) ?_ ?_
            · intro w' hg; go_simp
            try simp only [Act.put, List.setIfInBounds_toArray, List.set_cons_zero, List.set_cons_succ]
            refine wpS_done ?_
            go_wp2_with fail
            go_meet
            exact ⟨by simp, HG2.out⟩
          · clear CZy
            have hx32 : ((x3 : Int) != 0) = true := by simp; omega
            have hx33 : ((x3 : Int) == 0) = false := by simp; omega
            clear hi hj hx3 hi0 hj0 hk0
            refine wp_region_sched [(false, 0), (false, 1), (false, 2), (false, 3), (false, 5), (false, 6), (true, 4), (false, 7), (false, 8), (false, 9), (false, 10), (false, 11), (false, 12), (false, 13), (false, 16), (false, 17), (true, 14), (false, 15), (false, 18), (false, 19), (false, 20), (false, 21), (false, 22), (false, 23), (false, 24), (false, 25), (false, 26), (false, 27), (false, 28), (false, 29), (false, 30), (false, 31), (false, 32)] (by kernel_rfl) (by kernel_rfl) (by kernel_rfl) (by kernel_rfl) (fun _ _ d _ _ h => by cases d <;> exact h) ?_
            have HBBd : Hid (Rb wz.drew wz.drew.heap.size D m d T) := HBB
            have HUd : Hid (RP wz.drew wz.drew.heap.size Au PL.length cu PL) := HU
            have HZd : Hid (Rb wz.drew wz.drew.heap.size Az Z.length cz Z) := HZ
            have HGd := Lib.hid (grow_drew wz)
            refine wpS_read (o := { dst := some 106, op := Go.Op.move (Go.Operand.tmp 16), type := 26, pos := "law.go:95", after := #[], guard := none }) (v := .int .i64 (x1 : Int)) rfl (by rfl) ?_ ?_
            · intro w' hg; go_simp
            try simp only [Act.put, List.setIfInBounds_toArray, List.set_cons_zero, List.set_cons_succ]
            refine wpS_read (o := { dst := some 107, op := Go.Op.binOp Go.BinOp.neq 26 (Go.Operand.tmp 106) (Go.Operand.const (Go.Value.int Go.IntKind.i64 0)) 26, type := 4, pos := "law.go:95", after := #[{ on := 0, ground := Go.Ground.data }], guard := none }) (v := .bool false) rfl (by rfl) ?_ ?_
            · intro w' hg; go_simp
            try simp only [Act.put, List.setIfInBounds_toArray, List.set_cons_zero, List.set_cons_succ]
            refine wpS_read (o := { dst := some 108, op := Go.Op.move (Go.Operand.tmp 107), type := 4, pos := "law.go:95", after := #[{ on := 1, ground := Go.Ground.data }], guard := none }) (v := .bool false) rfl (by rfl) ?_ ?_
            · intro w' hg; go_simp
            try simp only [Act.put, List.setIfInBounds_toArray, List.set_cons_zero, List.set_cons_succ]
            refine wpS_read (o := { dst := some 109, op := Go.Op.move (Go.Operand.tmp 15), type := 9, pos := "law.go:95", after := #[{ on := 2, ground := Go.Ground.guard }], guard := some (2, false) }) (v := .string ⟨T1.toArray⟩) rfl (by rfl) ?_ ?_
            · intro w' hg; go_simp
            try simp only [Act.put, List.setIfInBounds_toArray, List.set_cons_zero, List.set_cons_succ]
            refine wpS_read (o := { dst := some 111, op := Go.Op.move (Go.Operand.tmp 2), type := 23, pos := "law.go:95", after := #[{ on := 2, ground := Go.Ground.guard }], guard := some (2, false) }) (v := .slice D m d) rfl (by rfl) ?_ ?_
            · intro w' hg; go_simp
            try simp only [Act.put, List.setIfInBounds_toArray, List.set_cons_zero, List.set_cons_succ]
            refine wpS_read (o := { dst := some 112, op := Go.Op.convert 23 9 (Go.Operand.tmp 111), type := 9, pos := "law.go:95", after := #[{ on := 5, ground := Go.Ground.data }, { on := 2, ground := Go.Ground.guard }], guard := some (2, false) }) (v := .string ⟨T.toArray⟩) rfl (by rfl) ?_ ?_
            · intro w' hg; have q0 := bty.conv (HBBd.out.below hg); go_simp
            try simp only [Act.put, List.setIfInBounds_toArray, List.set_cons_zero, List.set_cons_succ]
            refine wpS_call (o := { dst := some 110, op := Go.Op.call { callee := Go.Callee.value (Go.Operand.func 19), args := #[Go.Operand.tmp 109], argTypes := #[9] }, type := 9, pos := "law.go:95", after := #[{ on := 3, ground := Go.Ground.data }, { on := 2, ground := Go.Ground.chain }, { on := 2, ground := Go.Ground.guard }], guard := some (2, false) }) rfl (by rfl) (fun K hK => ?_)
            go_simp
            go_at_call 19
            with_reducible refine (CE.out _).mono ?_
            rintro e w2 ⟨rfl, hb2⟩
            have HBB2 := Lib.hid ((HBBd.out.below hb2).more hb2.size); have HU2 := Lib.hid ((HUd.out.below hb2).more hb2.size); have HZ2 := Lib.hid ((HZd.out.below hb2).more hb2.size); have HG2 := Lib.hid (HGd.out.trans hb2)
            refine hK.out _ _ hb2 ?_
            clear hK K hb2
            try simp only [Act.put, List.setIfInBounds_toArray, List.set_cons_zero, List.set_cons_succ]
            refine wpS_read (o := { dst := some 113, op := Go.Op.binOp Go.BinOp.eql 9 (Go.Operand.tmp 110) (Go.Operand.tmp 112) 9, type := 4, pos := "law.go:95", after := #[{ on := 4, ground := Go.Ground.data }, { on := 6, ground := Go.Ground.data }, { on := 2, ground := Go.Ground.guard }], guard := some (2, false) }) (v := .bool true) rfl (by rfl) ?_ ?_
            · intro w' hg; go_simp
            try simp only [Act.put, List.setIfInBounds_toArray, List.set_cons_zero, List.set_cons_succ]
            refine wpS_read (o := { dst := some 114, op := Go.Op.pick (Go.Operand.tmp 108) (Go.Operand.const (Go.Value.bool true)) (Go.Operand.tmp 113), type := 4, pos := "law.go:95", after := #[{ on := 2, ground := Go.Ground.data }, { on := 7, ground := Go.Ground.data }], guard := none }) (v := .bool true) rfl (by rfl) ?_ ?_
            · intro w' hg; go_simp
            try simp only [Act.put, List.setIfInBounds_toArray, List.set_cons_zero, List.set_cons_succ]
            refine wpS_read (o := { dst := some 115, op := Go.Op.move (Go.Operand.tmp 114), type := 4, pos := "law.go:95", after := #[{ on := 8, ground := Go.Ground.data }, { on := 4, ground := Go.Ground.chain }], guard := none }) (v := .bool true) rfl (by rfl) ?_ ?_
            · intro w' hg; go_simp
            try simp only [Act.put, List.setIfInBounds_toArray, List.set_cons_zero, List.set_cons_succ]
            refine wpS_read (o := { dst := some 116, op := Go.Op.move (Go.Operand.tmp 18), type := 26, pos := "law.go:95", after := #[{ on := 9, ground := Go.Ground.guard }], guard := some (9, true) }) (v := .int .i64 (x2 : Int)) rfl (by rfl) ?_ ?_
            · intro w' hg; go_simp
            try simp only [Act.put, List.setIfInBounds_toArray, List.set_cons_zero, List.set_cons_succ]
            refine wpS_read (o := { dst := some 117, op := Go.Op.binOp Go.BinOp.neq 26 (Go.Operand.tmp 116) (Go.Operand.const (Go.Value.int Go.IntKind.i64 0)) 26, type := 4, pos := "law.go:95", after := #[{ on := 10, ground := Go.Ground.data }, { on := 9, ground := Go.Ground.guard }], guard := some (9, true) }) (v := .bool true) rfl (by rfl) ?_ ?_
            · intro w' hg; go_simp
            try simp only [Act.put, List.setIfInBounds_toArray, List.set_cons_zero, List.set_cons_succ]
            refine wpS_read (o := { dst := some 118, op := Go.Op.move (Go.Operand.tmp 117), type := 4, pos := "law.go:95", after := #[{ on := 11, ground := Go.Ground.data }, { on := 9, ground := Go.Ground.chain }, { on := 9, ground := Go.Ground.guard }], guard := some (9, true) }) (v := .bool true) rfl (by rfl) ?_ ?_
            · intro w' hg; go_simp
            try simp only [Act.put, List.setIfInBounds_toArray, List.set_cons_zero, List.set_cons_succ]
            refine wpS_skip (o := { dst := some 119, op := Go.Op.move (Go.Operand.tmp 17), type := 42, pos := "law.go:95", after := #[{ on := 12, ground := Go.Ground.guard }], guard := some (12, false) }) rfl (by rfl) ?_
            try simp only [Act.put, List.setIfInBounds_toArray, List.set_cons_zero, List.set_cons_succ]
            refine wpS_skip (o := { dst := some 122, op := Go.Op.move (Go.Operand.tmp 2), type := 23, pos := "law.go:95", after := #[{ on := 12, ground := Go.Ground.guard }], guard := some (12, false) }) rfl (by rfl) ?_
            try simp only [Act.put, List.setIfInBounds_toArray, List.set_cons_zero, List.set_cons_succ]
            refine wpS_skip (o := { dst := some 123, op := Go.Op.convert 23 9 (Go.Operand.tmp 122), type := 9, pos := "law.go:95", after := #[{ on := 16, ground := Go.Ground.data }, { on := 12, ground := Go.Ground.guard }], guard := some (12, false) }) rfl (by rfl) ?_
            try simp only [Act.put, List.setIfInBounds_toArray, List.set_cons_zero, List.set_cons_succ]
            refine wpS_skip (o := { dst := some 120, op := Go.Op.call { callee := Go.Callee.value (Go.Operand.func 27), args := #[Go.Operand.tmp 119], argTypes := #[42] }, type := 23, pos := "law.go:95", after := #[{ on := 13, ground := Go.Ground.data }, { on := 12, ground := Go.Ground.chain }, { on := 12, ground := Go.Ground.guard }], guard := some (12, false) }) rfl (by rfl) ?_
            try simp only [Act.put, List.setIfInBounds_toArray, List.set_cons_zero, List.set_cons_succ]
            refine wpS_skip (o := { dst := some 121, op := Go.Op.convert 23 9 (Go.Operand.tmp 120), type := 9, pos := "law.go:95", after := #[{ on := 14, ground := Go.Ground.data }, { on := 12, ground := Go.Ground.guard }], guard := some (12, false) }) rfl (by rfl) ?_
            try simp only [Act.put, List.setIfInBounds_toArray, List.set_cons_zero, List.set_cons_succ]
            refine wpS_skip (o := { dst := some 124, op := Go.Op.binOp Go.BinOp.eql 9 (Go.Operand.tmp 121) (Go.Operand.tmp 123) 9, type := 4, pos := "law.go:95", after := #[{ on := 15, ground := Go.Ground.data }, { on := 17, ground := Go.Ground.data }, { on := 12, ground := Go.Ground.guard }], guard := some (12, false) }) rfl (by rfl) ?_
            try simp only [Act.put, List.setIfInBounds_toArray, List.set_cons_zero, List.set_cons_succ]
            refine wpS_read (o := { dst := some 125, op := Go.Op.pick (Go.Operand.tmp 118) (Go.Operand.const (Go.Value.bool true)) (Go.Operand.tmp 124), type := 4, pos := "law.go:95", after := #[{ on := 12, ground := Go.Ground.data }, { on := 18, ground := Go.Ground.data }, { on := 9, ground := Go.Ground.guard }], guard := some (9, true) }) (v := .bool true) rfl (by rfl) ?_ ?_
            · intro w' hg; go_simp
            try simp only [Act.put, List.setIfInBounds_toArray, List.set_cons_zero, List.set_cons_succ]
            refine wpS_read (o := { dst := some 126, op := Go.Op.pick (Go.Operand.tmp 115) (Go.Operand.tmp 125) (Go.Operand.const (Go.Value.bool false)), type := 4, pos := "law.go:95", after := #[{ on := 9, ground := Go.Ground.data }, { on := 19, ground := Go.Ground.data }], guard := none }) (v := .bool true) rfl (by rfl) ?_ ?_
            · intro w' hg; go_simp
            try simp only [Act.put, List.setIfInBounds_toArray, List.set_cons_zero, List.set_cons_succ]
            refine wpS_read (o := { dst := some 127, op := Go.Op.move (Go.Operand.tmp 126), type := 4, pos := "law.go:95", after := #[{ on := 20, ground := Go.Ground.data }, { on := 14, ground := Go.Ground.chain }], guard := none }) (v := .bool true) rfl (by rfl) ?_ ?_
            · intro w' hg; go_simp
            try simp only [Act.put, List.setIfInBounds_toArray, List.set_cons_zero, List.set_cons_succ]
            refine wpS_read (o := { dst := some 128, op := Go.Op.move (Go.Operand.tmp 20), type := 26, pos := "law.go:95", after := #[{ on := 21, ground := Go.Ground.guard }], guard := some (21, true) }) (v := .int .i64 (x3 : Int)) rfl (by rfl) ?_ ?_
            · intro w' hg; go_simp
            try simp only [Act.put, List.setIfInBounds_toArray, List.set_cons_zero, List.set_cons_succ]
            refine wpS_read (o := { dst := some 129, op := Go.Op.binOp Go.BinOp.neq 26 (Go.Operand.tmp 128) (Go.Operand.const (Go.Value.int Go.IntKind.i64 0)) 26, type := 4, pos := "law.go:95", after := #[{ on := 22, ground := Go.Ground.data }, { on := 21, ground := Go.Ground.guard }], guard := some (21, true) }) (v := .bool true) rfl (by rfl) ?_ ?_
            · intro w' hg; go_simp
            try simp only [Act.put, List.setIfInBounds_toArray, List.set_cons_zero, List.set_cons_succ]
            refine wpS_read (o := { dst := some 130, op := Go.Op.move (Go.Operand.tmp 129), type := 4, pos := "law.go:95", after := #[{ on := 23, ground := Go.Ground.data }, { on := 21, ground := Go.Ground.chain }, { on := 21, ground := Go.Ground.guard }], guard := some (21, true) }) (v := .bool true) rfl (by rfl) ?_ ?_
            · intro w' hg; go_simp
            try simp only [Act.put, List.setIfInBounds_toArray, List.set_cons_zero, List.set_cons_succ]
            refine wpS_skip (o := { dst := some 131, op := Go.Op.move (Go.Operand.tmp 21), type := 23, pos := "law.go:95", after := #[{ on := 24, ground := Go.Ground.guard }], guard := some (24, false) }) rfl (by rfl) ?_
            try simp only [Act.put, List.setIfInBounds_toArray, List.set_cons_zero, List.set_cons_succ]
            refine wpS_skip (o := { dst := some 132, op := Go.Op.convert 23 9 (Go.Operand.tmp 131), type := 9, pos := "law.go:95", after := #[{ on := 25, ground := Go.Ground.data }, { on := 24, ground := Go.Ground.guard }], guard := some (24, false) }) rfl (by rfl) ?_
            try simp only [Act.put, List.setIfInBounds_toArray, List.set_cons_zero, List.set_cons_succ]
            refine wpS_skip (o := { dst := some 133, op := Go.Op.move (Go.Operand.tmp 2), type := 23, pos := "law.go:95", after := #[{ on := 24, ground := Go.Ground.guard }], guard := some (24, false) }) rfl (by rfl) ?_
            try simp only [Act.put, List.setIfInBounds_toArray, List.set_cons_zero, List.set_cons_succ]
            refine wpS_skip (o := { dst := some 134, op := Go.Op.convert 23 9 (Go.Operand.tmp 133), type := 9, pos := "law.go:95", after := #[{ on := 27, ground := Go.Ground.data }, { on := 24, ground := Go.Ground.guard }], guard := some (24, false) }) rfl (by rfl) ?_
            try simp only [Act.put, List.setIfInBounds_toArray, List.set_cons_zero, List.set_cons_succ]
            refine wpS_skip (o := { dst := some 135, op := Go.Op.binOp Go.BinOp.eql 9 (Go.Operand.tmp 132) (Go.Operand.tmp 134) 9, type := 4, pos := "law.go:95", after := #[{ on := 26, ground := Go.Ground.data }, { on := 28, ground := Go.Ground.data }, { on := 24, ground := Go.Ground.guard }], guard := some (24, false) }) rfl (by rfl) ?_
            try simp only [Act.put, List.setIfInBounds_toArray, List.set_cons_zero, List.set_cons_succ]
            refine wpS_read (o := { dst := some 136, op := Go.Op.pick (Go.Operand.tmp 130) (Go.Operand.const (Go.Value.bool true)) (Go.Operand.tmp 135), type := 4, pos := "law.go:95", after := #[{ on := 24, ground := Go.Ground.data }, { on := 29, ground := Go.Ground.data }, { on := 21, ground := Go.Ground.guard }], guard := some (21, true) }) (v := .bool true) rfl (by rfl) ?_ ?_
            · intro w' hg; go_simp
            try simp only [Act.put, List.setIfInBounds_toArray, List.set_cons_zero, List.set_cons_succ]
            refine wpS_read (o := { dst := some 137, op := Go.Op.pick (Go.Operand.tmp 127) (Go.Operand.tmp 136) (Go.Operand.const (Go.Value.bool false)), type := 4, pos := "law.go:95", after := #[{ on := 21, ground := Go.Ground.data }, { on := 30, ground := Go.Ground.data }], guard := none }) (v := .bool true) rfl (by rfl) ?_ ?_
            · intro w' hg; go_simp
            try simp only [Act.put, List.setIfInBounds_toArray, List.set_cons_zero, List.set_cons_succ]
            refine wpS_read (o := { dst := some 23, op := Go.Op.assign (Go.Operand.tmp 137), type := 4, pos := "law.go:95", after := #[{ on := 31, ground := Go.Ground.data }, { on := 24, ground := Go.Ground.chain }, { on := 0, ground := Go.Ground.phase }, { on := 1, ground := Go.Ground.phase }, { on := 2, ground := Go.Ground.phase }, { on := 3, ground := Go.Ground.phase }, { on := 4, ground := Go.Ground.phase }, { on := 5, ground := Go.Ground.phase }, { on := 6, ground := Go.Ground.phase }, { on := 7, ground := Go.Ground.phase }, { on := 8, ground := Go.Ground.phase }, { on := 9, ground := Go.Ground.phase }, { on := 10, ground := Go.Ground.phase }, { on := 11, ground := Go.Ground.phase }, { on := 12, ground := Go.Ground.phase }, { on := 13, ground := Go.Ground.phase }, { on := 14, ground := Go.Ground.phase }, { on := 15, ground := Go.Ground.phase }, { on := 16, ground := Go.Ground.phase }, { on := 17, ground := Go.Ground.phase }, { on := 18, ground := Go.Ground.phase }, { on := 19, ground := Go.Ground.phase }, { on := 20, ground := Go.Ground.phase }, { on := 21, ground := Go.Ground.phase }, { on := 22, ground := Go.Ground.phase }, { on := 23, ground := Go.Ground.phase }, { on := 24, ground := Go.Ground.phase }, { on := 25, ground := Go.Ground.phase }, { on := 26, ground := Go.Ground.phase }, { on := 27, ground := Go.Ground.phase }, { on := 28, ground := Go.Ground.phase }, { on := 29, ground := Go.Ground.phase }, { on := 30, ground := Go.Ground.phase }, { on := 31, ground := Go.Ground.phase }], guard := none }) (v := .bool true) rfl (by rfl) ?_ ?_
            · intro w' hg; go_simp
            try simp only [Act.put, List.setIfInBounds_toArray, List.set_cons_zero, List.set_cons_succ]
            refine wpS_done ?_
            go_wp2_with fail
            go_meet
            exact ⟨by simp, HG2.out⟩
      · clear CEy
        have hx12 : ((x1 : Int) != 0) = true := by simp; omega
        have hx13 : ((x1 : Int) == 0) = false := by simp; omega
        by_cases hj0 : x2 = 0
        · have hL1 := CLy.out hj0; have CL := Lib.hid hL1; clear hL1
          have hx22 : ((x2 : Int) != 0) = false := by simp [hj0]
          have hx23 : ((x2 : Int) == 0) = true := by simp [hj0]
          by_cases hk0 : x3 = 0
          · have hZT : T = Z := (CZy.out hk0).symm
            subst hZT
            have hx32 : ((x3 : Int) != 0) = false := by simp [hk0]
            have hx33 : ((x3 : Int) == 0) = true := by simp [hk0]
            clear hi hj hx3 hi0 hj0 hk0
            refine wp_region_sched [(false, 0), (false, 1), (false, 2), (false, 3), (false, 5), (false, 6), (true, 4), (false, 7), (false, 8), (false, 9), (false, 10), (false, 11), (false, 12), (false, 13), (false, 16), (false, 17), (true, 14), (false, 15), (false, 18), (false, 19), (false, 20), (false, 21), (false, 22), (false, 23), (false, 24), (false, 25), (false, 26), (false, 27), (false, 28), (false, 29), (false, 30), (false, 31), (false, 32)] (by kernel_rfl) (by kernel_rfl) (by kernel_rfl) (by kernel_rfl) (fun _ _ d _ _ h => by cases d <;> exact h) ?_
            have HBBd : Hid (Rb wz.drew wz.drew.heap.size D m d T) := HBB
            have HUd : Hid (RP wz.drew wz.drew.heap.size Au PL.length cu PL) := HU
            have HZd : Hid (Rb wz.drew wz.drew.heap.size Az T.length cz T) := HZ
            have HGd := Lib.hid (grow_drew wz)
            refine wpS_read (o := { dst := some 106, op := Go.Op.move (Go.Operand.tmp 16), type := 26, pos := "law.go:95", after := #[], guard := none }) (v := .int .i64 (x1 : Int)) rfl (by rfl) ?_ ?_
            · intro w' hg; go_simp
            try simp only [Act.put, List.setIfInBounds_toArray, List.set_cons_zero, List.set_cons_succ]
            refine wpS_read (o := { dst := some 107, op := Go.Op.binOp Go.BinOp.neq 26 (Go.Operand.tmp 106) (Go.Operand.const (Go.Value.int Go.IntKind.i64 0)) 26, type := 4, pos := "law.go:95", after := #[{ on := 0, ground := Go.Ground.data }], guard := none }) (v := .bool true) rfl (by rfl) ?_ ?_
            · intro w' hg; go_simp
            try simp only [Act.put, List.setIfInBounds_toArray, List.set_cons_zero, List.set_cons_succ]
            refine wpS_read (o := { dst := some 108, op := Go.Op.move (Go.Operand.tmp 107), type := 4, pos := "law.go:95", after := #[{ on := 1, ground := Go.Ground.data }], guard := none }) (v := .bool true) rfl (by rfl) ?_ ?_
            · intro w' hg; go_simp
            try simp only [Act.put, List.setIfInBounds_toArray, List.set_cons_zero, List.set_cons_succ]
            refine wpS_skip (o := { dst := some 109, op := Go.Op.move (Go.Operand.tmp 15), type := 9, pos := "law.go:95", after := #[{ on := 2, ground := Go.Ground.guard }], guard := some (2, false) }) rfl (by rfl) ?_
            try simp only [Act.put, List.setIfInBounds_toArray, List.set_cons_zero, List.set_cons_succ]
            refine wpS_skip (o := { dst := some 111, op := Go.Op.move (Go.Operand.tmp 2), type := 23, pos := "law.go:95", after := #[{ on := 2, ground := Go.Ground.guard }], guard := some (2, false) }) rfl (by rfl) ?_
            try simp only [Act.put, List.setIfInBounds_toArray, List.set_cons_zero, List.set_cons_succ]
            refine wpS_skip (o := { dst := some 112, op := Go.Op.convert 23 9 (Go.Operand.tmp 111), type := 9, pos := "law.go:95", after := #[{ on := 5, ground := Go.Ground.data }, { on := 2, ground := Go.Ground.guard }], guard := some (2, false) }) rfl (by rfl) ?_
            try simp only [Act.put, List.setIfInBounds_toArray, List.set_cons_zero, List.set_cons_succ]
            refine wpS_skip (o := { dst := some 110, op := Go.Op.call { callee := Go.Callee.value (Go.Operand.func 19), args := #[Go.Operand.tmp 109], argTypes := #[9] }, type := 9, pos := "law.go:95", after := #[{ on := 3, ground := Go.Ground.data }, { on := 2, ground := Go.Ground.chain }, { on := 2, ground := Go.Ground.guard }], guard := some (2, false) }) rfl (by rfl) ?_
            try simp only [Act.put, List.setIfInBounds_toArray, List.set_cons_zero, List.set_cons_succ]
            refine wpS_skip (o := { dst := some 113, op := Go.Op.binOp Go.BinOp.eql 9 (Go.Operand.tmp 110) (Go.Operand.tmp 112) 9, type := 4, pos := "law.go:95", after := #[{ on := 4, ground := Go.Ground.data }, { on := 6, ground := Go.Ground.data }, { on := 2, ground := Go.Ground.guard }], guard := some (2, false) }) rfl (by rfl) ?_
            try simp only [Act.put, List.setIfInBounds_toArray, List.set_cons_zero, List.set_cons_succ]
            refine wpS_read (o := { dst := some 114, op := Go.Op.pick (Go.Operand.tmp 108) (Go.Operand.const (Go.Value.bool true)) (Go.Operand.tmp 113), type := 4, pos := "law.go:95", after := #[{ on := 2, ground := Go.Ground.data }, { on := 7, ground := Go.Ground.data }], guard := none }) (v := .bool true) rfl (by rfl) ?_ ?_
            · intro w' hg; go_simp
            try simp only [Act.put, List.setIfInBounds_toArray, List.set_cons_zero, List.set_cons_succ]
            refine wpS_read (o := { dst := some 115, op := Go.Op.move (Go.Operand.tmp 114), type := 4, pos := "law.go:95", after := #[{ on := 8, ground := Go.Ground.data }, { on := 4, ground := Go.Ground.chain }], guard := none }) (v := .bool true) rfl (by rfl) ?_ ?_
            · intro w' hg; go_simp
            try simp only [Act.put, List.setIfInBounds_toArray, List.set_cons_zero, List.set_cons_succ]
            refine wpS_read (o := { dst := some 116, op := Go.Op.move (Go.Operand.tmp 18), type := 26, pos := "law.go:95", after := #[{ on := 9, ground := Go.Ground.guard }], guard := some (9, true) }) (v := .int .i64 (x2 : Int)) rfl (by rfl) ?_ ?_
            · intro w' hg; go_simp
            try simp only [Act.put, List.setIfInBounds_toArray, List.set_cons_zero, List.set_cons_succ]
            refine wpS_read (o := { dst := some 117, op := Go.Op.binOp Go.BinOp.neq 26 (Go.Operand.tmp 116) (Go.Operand.const (Go.Value.int Go.IntKind.i64 0)) 26, type := 4, pos := "law.go:95", after := #[{ on := 10, ground := Go.Ground.data }, { on := 9, ground := Go.Ground.guard }], guard := some (9, true) }) (v := .bool false) rfl (by rfl) ?_ ?_
            · intro w' hg; go_simp
            try simp only [Act.put, List.setIfInBounds_toArray, List.set_cons_zero, List.set_cons_succ]
            refine wpS_read (o := { dst := some 118, op := Go.Op.move (Go.Operand.tmp 117), type := 4, pos := "law.go:95", after := #[{ on := 11, ground := Go.Ground.data }, { on := 9, ground := Go.Ground.chain }, { on := 9, ground := Go.Ground.guard }], guard := some (9, true) }) (v := .bool false) rfl (by rfl) ?_ ?_
            · intro w' hg; go_simp
            try simp only [Act.put, List.setIfInBounds_toArray, List.set_cons_zero, List.set_cons_succ]
            refine wpS_read (o := { dst := some 119, op := Go.Op.move (Go.Operand.tmp 17), type := 42, pos := "law.go:95", after := #[{ on := 12, ground := Go.Ground.guard }], guard := some (12, false) }) (v := .slice Au PL.length cu) rfl (by rfl) ?_ ?_
            · intro w' hg; go_simp
            try simp only [Act.put, List.setIfInBounds_toArray, List.set_cons_zero, List.set_cons_succ]
            refine wpS_read (o := { dst := some 122, op := Go.Op.move (Go.Operand.tmp 2), type := 23, pos := "law.go:95", after := #[{ on := 12, ground := Go.Ground.guard }], guard := some (12, false) }) (v := .slice D m d) rfl (by rfl) ?_ ?_
            · intro w' hg; go_simp
            try simp only [Act.put, List.setIfInBounds_toArray, List.set_cons_zero, List.set_cons_succ]
            refine wpS_read (o := { dst := some 123, op := Go.Op.convert 23 9 (Go.Operand.tmp 122), type := 9, pos := "law.go:95", after := #[{ on := 16, ground := Go.Ground.data }, { on := 12, ground := Go.Ground.guard }], guard := some (12, false) }) (v := .string ⟨T.toArray⟩) rfl (by rfl) ?_ ?_
            · intro w' hg; have q0 := bty.conv (HBBd.out.below hg); go_simp
            try simp only [Act.put, List.setIfInBounds_toArray, List.set_cons_zero, List.set_cons_succ]
            refine wpS_call (o := { dst := some 120, op := Go.Op.call { callee := Go.Callee.value (Go.Operand.func 27), args := #[Go.Operand.tmp 119], argTypes := #[42] }, type := 23, pos := "law.go:95", after := #[{ on := 13, ground := Go.Ground.data }, { on := 12, ground := Go.Ground.chain }, { on := 12, ground := Go.Ground.guard }], guard := some (12, false) }) rfl (by rfl) (fun K hK => ?_)
            go_simp
            go_at_call 27
            with_reducible refine (CL.out _ Au cu HUd.out).mono ?_
            rintro e w3 ⟨A3, c3, rfl, hown3, hb3⟩
            have Hs3 := Lib.hid hown3.rb; clear hown3
            have HBB3 := Lib.hid ((HBBd.out.below hb3).more hb3.size); have HU3 := Lib.hid ((HUd.out.below hb3).more hb3.size); have HZ3 := Lib.hid ((HZd.out.below hb3).more hb3.size); have HG3 := Lib.hid (HGd.out.trans hb3)
            refine hK.out _ _ hb3 ?_
            clear hK K hb3
            try simp only [Act.put, List.setIfInBounds_toArray, List.set_cons_zero, List.set_cons_succ]
            refine wpS_read (o := { dst := some 121, op := Go.Op.convert 23 9 (Go.Operand.tmp 120), type := 9, pos := "law.go:95", after := #[{ on := 14, ground := Go.Ground.data }, { on := 12, ground := Go.Ground.guard }], guard := some (12, false) }) (v := .string ⟨T.toArray⟩) rfl (by rfl) ?_ ?_
            · intro w' hg; have q0 := bty.conv (Hs3.out.below hg); go_simp
            try simp only [Act.put, List.setIfInBounds_toArray, List.set_cons_zero, List.set_cons_succ]
            refine wpS_read (o := { dst := some 124, op := Go.Op.binOp Go.BinOp.eql 9 (Go.Operand.tmp 121) (Go.Operand.tmp 123) 9, type := 4, pos := "law.go:95", after := #[{ on := 15, ground := Go.Ground.data }, { on := 17, ground := Go.Ground.data }, { on := 12, ground := Go.Ground.guard }], guard := some (12, false) }) (v := .bool true) rfl (by rfl) ?_ ?_
            · intro w' hg; go_simp
            try simp only [Act.put, List.setIfInBounds_toArray, List.set_cons_zero, List.set_cons_succ]
            refine wpS_read (o := { dst := some 125, op := Go.Op.pick (Go.Operand.tmp 118) (Go.Operand.const (Go.Value.bool true)) (Go.Operand.tmp 124), type := 4, pos := "law.go:95", after := #[{ on := 12, ground := Go.Ground.data }, { on := 18, ground := Go.Ground.data }, { on := 9, ground := Go.Ground.guard }], guard := some (9, true) }) (v := .bool true) rfl (by rfl) ?_ ?_
            · intro w' hg; go_simp
            try simp only [Act.put, List.setIfInBounds_toArray, List.set_cons_zero, List.set_cons_succ]
            refine wpS_read (o := { dst := some 126, op := Go.Op.pick (Go.Operand.tmp 115) (Go.Operand.tmp 125) (Go.Operand.const (Go.Value.bool false)), type := 4, pos := "law.go:95", after := #[{ on := 9, ground := Go.Ground.data }, { on := 19, ground := Go.Ground.data }], guard := none }) (v := .bool true) rfl (by rfl) ?_ ?_
            · intro w' hg; go_simp
            try simp only [Act.put, List.setIfInBounds_toArray, List.set_cons_zero, List.set_cons_succ]
            refine wpS_read (o := { dst := some 127, op := Go.Op.move (Go.Operand.tmp 126), type := 4, pos := "law.go:95", after := #[{ on := 20, ground := Go.Ground.data }, { on := 14, ground := Go.Ground.chain }], guard := none }) (v := .bool true) rfl (by rfl) ?_ ?_
            · intro w' hg; go_simp
            try simp only [Act.put, List.setIfInBounds_toArray, List.set_cons_zero, List.set_cons_succ]
            refine wpS_read (o := { dst := some 128, op := Go.Op.move (Go.Operand.tmp 20), type := 26, pos := "law.go:95", after := #[{ on := 21, ground := Go.Ground.guard }], guard := some (21, true) }) (v := .int .i64 (x3 : Int)) rfl (by rfl) ?_ ?_
            · intro w' hg; go_simp
            try simp only [Act.put, List.setIfInBounds_toArray, List.set_cons_zero, List.set_cons_succ]
            refine wpS_read (o := { dst := some 129, op := Go.Op.binOp Go.BinOp.neq 26 (Go.Operand.tmp 128) (Go.Operand.const (Go.Value.int Go.IntKind.i64 0)) 26, type := 4, pos := "law.go:95", after := #[{ on := 22, ground := Go.Ground.data }, { on := 21, ground := Go.Ground.guard }], guard := some (21, true) }) (v := .bool false) rfl (by rfl) ?_ ?_
            · intro w' hg; go_simp
            try simp only [Act.put, List.setIfInBounds_toArray, List.set_cons_zero, List.set_cons_succ]
            refine wpS_read (o := { dst := some 130, op := Go.Op.move (Go.Operand.tmp 129), type := 4, pos := "law.go:95", after := #[{ on := 23, ground := Go.Ground.data }, { on := 21, ground := Go.Ground.chain }, { on := 21, ground := Go.Ground.guard }], guard := some (21, true) }) (v := .bool false) rfl (by rfl) ?_ ?_
            · intro w' hg; go_simp
            try simp only [Act.put, List.setIfInBounds_toArray, List.set_cons_zero, List.set_cons_succ]
            refine wpS_read (o := { dst := some 131, op := Go.Op.move (Go.Operand.tmp 21), type := 23, pos := "law.go:95", after := #[{ on := 24, ground := Go.Ground.guard }], guard := some (24, false) }) (v := .slice Az T.length cz) rfl (by rfl) ?_ ?_
            · intro w' hg; go_simp
            try simp only [Act.put, List.setIfInBounds_toArray, List.set_cons_zero, List.set_cons_succ]
            refine wpS_read (o := { dst := some 132, op := Go.Op.convert 23 9 (Go.Operand.tmp 131), type := 9, pos := "law.go:95", after := #[{ on := 25, ground := Go.Ground.data }, { on := 24, ground := Go.Ground.guard }], guard := some (24, false) }) (v := .string ⟨T.toArray⟩) rfl (by rfl) ?_ ?_
            · intro w' hg; have q0 := bty.conv (HZ3.out.below hg); go_simp
            try simp only [Act.put, List.setIfInBounds_toArray, List.set_cons_zero, List.set_cons_succ]
            refine wpS_read (o := { dst := some 133, op := Go.Op.move (Go.Operand.tmp 2), type := 23, pos := "law.go:95", after := #[{ on := 24, ground := Go.Ground.guard }], guard := some (24, false) }) (v := .slice D m d) rfl (by rfl) ?_ ?_
            · intro w' hg; go_simp
            try simp only [Act.put, List.setIfInBounds_toArray, List.set_cons_zero, List.set_cons_succ]
            refine wpS_read (o := { dst := some 134, op := Go.Op.convert 23 9 (Go.Operand.tmp 133), type := 9, pos := "law.go:95", after := #[{ on := 27, ground := Go.Ground.data }, { on := 24, ground := Go.Ground.guard }], guard := some (24, false) }) (v := .string ⟨T.toArray⟩) rfl (by rfl) ?_ ?_
            · intro w' hg; have q0 := bty.conv (HBB3.out.below hg); go_simp
            try simp only [Act.put, List.setIfInBounds_toArray, List.set_cons_zero, List.set_cons_succ]
            refine wpS_read (o := { dst := some 135, op := Go.Op.binOp Go.BinOp.eql 9 (Go.Operand.tmp 132) (Go.Operand.tmp 134) 9, type := 4, pos := "law.go:95", after := #[{ on := 26, ground := Go.Ground.data }, { on := 28, ground := Go.Ground.data }, { on := 24, ground := Go.Ground.guard }], guard := some (24, false) }) (v := .bool true) rfl (by rfl) ?_ ?_
            · intro w' hg; go_simp
            try simp only [Act.put, List.setIfInBounds_toArray, List.set_cons_zero, List.set_cons_succ]
            refine wpS_read (o := { dst := some 136, op := Go.Op.pick (Go.Operand.tmp 130) (Go.Operand.const (Go.Value.bool true)) (Go.Operand.tmp 135), type := 4, pos := "law.go:95", after := #[{ on := 24, ground := Go.Ground.data }, { on := 29, ground := Go.Ground.data }, { on := 21, ground := Go.Ground.guard }], guard := some (21, true) }) (v := .bool true) rfl (by rfl) ?_ ?_
            · intro w' hg; go_simp
            try simp only [Act.put, List.setIfInBounds_toArray, List.set_cons_zero, List.set_cons_succ]
            refine wpS_read (o := { dst := some 137, op := Go.Op.pick (Go.Operand.tmp 127) (Go.Operand.tmp 136) (Go.Operand.const (Go.Value.bool false)), type := 4, pos := "law.go:95", after := #[{ on := 21, ground := Go.Ground.data }, { on := 30, ground := Go.Ground.data }], guard := none }) (v := .bool true) rfl (by rfl) ?_ ?_
            · intro w' hg; go_simp
            try simp only [Act.put, List.setIfInBounds_toArray, List.set_cons_zero, List.set_cons_succ]
            refine wpS_read (o := { dst := some 23, op := Go.Op.assign (Go.Operand.tmp 137), type := 4, pos := "law.go:95", after := #[{ on := 31, ground := Go.Ground.data }, { on := 24, ground := Go.Ground.chain }, { on := 0, ground := Go.Ground.phase }, { on := 1, ground := Go.Ground.phase }, { on := 2, ground := Go.Ground.phase }, { on := 3, ground := Go.Ground.phase }, { on := 4, ground := Go.Ground.phase }, { on := 5, ground := Go.Ground.phase }, { on := 6, ground := Go.Ground.phase }, { on := 7, ground := Go.Ground.phase }, { on := 8, ground := Go.Ground.phase }, { on := 9, ground := Go.Ground.phase }, { on := 10, ground := Go.Ground.phase }, { on := 11, ground := Go.Ground.phase }, { on := 12, ground := Go.Ground.phase }, { on := 13, ground := Go.Ground.phase }, { on := 14, ground := Go.Ground.phase }, { on := 15, ground := Go.Ground.phase }, { on := 16, ground := Go.Ground.phase }, { on := 17, ground := Go.Ground.phase }, { on := 18, ground := Go.Ground.phase }, { on := 19, ground := Go.Ground.phase }, { on := 20, ground := Go.Ground.phase }, { on := 21, ground := Go.Ground.phase }, { on := 22, ground := Go.Ground.phase }, { on := 23, ground := Go.Ground.phase }, { on := 24, ground := Go.Ground.phase }, { on := 25, ground := Go.Ground.phase }, { on := 26, ground := Go.Ground.phase }, { on := 27, ground := Go.Ground.phase }, { on := 28, ground := Go.Ground.phase }, { on := 29, ground := Go.Ground.phase }, { on := 30, ground := Go.Ground.phase }, { on := 31, ground := Go.Ground.phase }], guard := none }) (v := .bool true) rfl (by rfl) ?_ ?_
            · intro w' hg; go_simp
            try simp only [Act.put, List.setIfInBounds_toArray, List.set_cons_zero, List.set_cons_succ]
            refine wpS_done ?_
            go_wp2_with fail
            go_meet
            exact ⟨by simp, HG3.out⟩
          · clear CZy
            have hx32 : ((x3 : Int) != 0) = true := by simp; omega
            have hx33 : ((x3 : Int) == 0) = false := by simp; omega
            clear hi hj hx3 hi0 hj0 hk0
            refine wp_region_sched [(false, 0), (false, 1), (false, 2), (false, 3), (false, 5), (false, 6), (true, 4), (false, 7), (false, 8), (false, 9), (false, 10), (false, 11), (false, 12), (false, 13), (false, 16), (false, 17), (true, 14), (false, 15), (false, 18), (false, 19), (false, 20), (false, 21), (false, 22), (false, 23), (false, 24), (false, 25), (false, 26), (false, 27), (false, 28), (false, 29), (false, 30), (false, 31), (false, 32)] (by kernel_rfl) (by kernel_rfl) (by kernel_rfl) (by kernel_rfl) (fun _ _ d _ _ h => by cases d <;> exact h) ?_
            have HBBd : Hid (Rb wz.drew wz.drew.heap.size D m d T) := HBB
            have HUd : Hid (RP wz.drew wz.drew.heap.size Au PL.length cu PL) := HU
            have HZd : Hid (Rb wz.drew wz.drew.heap.size Az Z.length cz Z) := HZ
            have HGd := Lib.hid (grow_drew wz)
            refine wpS_read (o := { dst := some 106, op := Go.Op.move (Go.Operand.tmp 16), type := 26, pos := "law.go:95", after := #[], guard := none }) (v := .int .i64 (x1 : Int)) rfl (by rfl) ?_ ?_
            · intro w' hg; go_simp
            try simp only [Act.put, List.setIfInBounds_toArray, List.set_cons_zero, List.set_cons_succ]
            refine wpS_read (o := { dst := some 107, op := Go.Op.binOp Go.BinOp.neq 26 (Go.Operand.tmp 106) (Go.Operand.const (Go.Value.int Go.IntKind.i64 0)) 26, type := 4, pos := "law.go:95", after := #[{ on := 0, ground := Go.Ground.data }], guard := none }) (v := .bool true) rfl (by rfl) ?_ ?_
            · intro w' hg; go_simp
            try simp only [Act.put, List.setIfInBounds_toArray, List.set_cons_zero, List.set_cons_succ]
            refine wpS_read (o := { dst := some 108, op := Go.Op.move (Go.Operand.tmp 107), type := 4, pos := "law.go:95", after := #[{ on := 1, ground := Go.Ground.data }], guard := none }) (v := .bool true) rfl (by rfl) ?_ ?_
            · intro w' hg; go_simp
            try simp only [Act.put, List.setIfInBounds_toArray, List.set_cons_zero, List.set_cons_succ]
            refine wpS_skip (o := { dst := some 109, op := Go.Op.move (Go.Operand.tmp 15), type := 9, pos := "law.go:95", after := #[{ on := 2, ground := Go.Ground.guard }], guard := some (2, false) }) rfl (by rfl) ?_
            try simp only [Act.put, List.setIfInBounds_toArray, List.set_cons_zero, List.set_cons_succ]
            refine wpS_skip (o := { dst := some 111, op := Go.Op.move (Go.Operand.tmp 2), type := 23, pos := "law.go:95", after := #[{ on := 2, ground := Go.Ground.guard }], guard := some (2, false) }) rfl (by rfl) ?_
            try simp only [Act.put, List.setIfInBounds_toArray, List.set_cons_zero, List.set_cons_succ]
            refine wpS_skip (o := { dst := some 112, op := Go.Op.convert 23 9 (Go.Operand.tmp 111), type := 9, pos := "law.go:95", after := #[{ on := 5, ground := Go.Ground.data }, { on := 2, ground := Go.Ground.guard }], guard := some (2, false) }) rfl (by rfl) ?_
            try simp only [Act.put, List.setIfInBounds_toArray, List.set_cons_zero, List.set_cons_succ]
            refine wpS_skip (o := { dst := some 110, op := Go.Op.call { callee := Go.Callee.value (Go.Operand.func 19), args := #[Go.Operand.tmp 109], argTypes := #[9] }, type := 9, pos := "law.go:95", after := #[{ on := 3, ground := Go.Ground.data }, { on := 2, ground := Go.Ground.chain }, { on := 2, ground := Go.Ground.guard }], guard := some (2, false) }) rfl (by rfl) ?_
            try simp only [Act.put, List.setIfInBounds_toArray, List.set_cons_zero, List.set_cons_succ]
            refine wpS_skip (o := { dst := some 113, op := Go.Op.binOp Go.BinOp.eql 9 (Go.Operand.tmp 110) (Go.Operand.tmp 112) 9, type := 4, pos := "law.go:95", after := #[{ on := 4, ground := Go.Ground.data }, { on := 6, ground := Go.Ground.data }, { on := 2, ground := Go.Ground.guard }], guard := some (2, false) }) rfl (by rfl) ?_
            try simp only [Act.put, List.setIfInBounds_toArray, List.set_cons_zero, List.set_cons_succ]
            refine wpS_read (o := { dst := some 114, op := Go.Op.pick (Go.Operand.tmp 108) (Go.Operand.const (Go.Value.bool true)) (Go.Operand.tmp 113), type := 4, pos := "law.go:95", after := #[{ on := 2, ground := Go.Ground.data }, { on := 7, ground := Go.Ground.data }], guard := none }) (v := .bool true) rfl (by rfl) ?_ ?_
            · intro w' hg; go_simp
            try simp only [Act.put, List.setIfInBounds_toArray, List.set_cons_zero, List.set_cons_succ]
            refine wpS_read (o := { dst := some 115, op := Go.Op.move (Go.Operand.tmp 114), type := 4, pos := "law.go:95", after := #[{ on := 8, ground := Go.Ground.data }, { on := 4, ground := Go.Ground.chain }], guard := none }) (v := .bool true) rfl (by rfl) ?_ ?_
            · intro w' hg; go_simp
            try simp only [Act.put, List.setIfInBounds_toArray, List.set_cons_zero, List.set_cons_succ]
            refine wpS_read (o := { dst := some 116, op := Go.Op.move (Go.Operand.tmp 18), type := 26, pos := "law.go:95", after := #[{ on := 9, ground := Go.Ground.guard }], guard := some (9, true) }) (v := .int .i64 (x2 : Int)) rfl (by rfl) ?_ ?_
            · intro w' hg; go_simp
            try simp only [Act.put, List.setIfInBounds_toArray, List.set_cons_zero, List.set_cons_succ]
            refine wpS_read (o := { dst := some 117, op := Go.Op.binOp Go.BinOp.neq 26 (Go.Operand.tmp 116) (Go.Operand.const (Go.Value.int Go.IntKind.i64 0)) 26, type := 4, pos := "law.go:95", after := #[{ on := 10, ground := Go.Ground.data }, { on := 9, ground := Go.Ground.guard }], guard := some (9, true) }) (v := .bool false) rfl (by rfl) ?_ ?_
            · intro w' hg; go_simp
            try simp only [Act.put, List.setIfInBounds_toArray, List.set_cons_zero, List.set_cons_succ]
            refine wpS_read (o := { dst := some 118, op := Go.Op.move (Go.Operand.tmp 117), type := 4, pos := "law.go:95", after := #[{ on := 11, ground := Go.Ground.data }, { on := 9, ground := Go.Ground.chain }, { on := 9, ground := Go.Ground.guard }], guard := some (9, true) }) (v := .bool false) rfl (by rfl) ?_ ?_
            · intro w' hg; go_simp
            try simp only [Act.put, List.setIfInBounds_toArray, List.set_cons_zero, List.set_cons_succ]
            refine wpS_read (o := { dst := some 119, op := Go.Op.move (Go.Operand.tmp 17), type := 42, pos := "law.go:95", after := #[{ on := 12, ground := Go.Ground.guard }], guard := some (12, false) }) (v := .slice Au PL.length cu) rfl (by rfl) ?_ ?_
            · intro w' hg; go_simp
            try simp only [Act.put, List.setIfInBounds_toArray, List.set_cons_zero, List.set_cons_succ]
            refine wpS_read (o := { dst := some 122, op := Go.Op.move (Go.Operand.tmp 2), type := 23, pos := "law.go:95", after := #[{ on := 12, ground := Go.Ground.guard }], guard := some (12, false) }) (v := .slice D m d) rfl (by rfl) ?_ ?_
            · intro w' hg; go_simp
            try simp only [Act.put, List.setIfInBounds_toArray, List.set_cons_zero, List.set_cons_succ]
            refine wpS_read (o := { dst := some 123, op := Go.Op.convert 23 9 (Go.Operand.tmp 122), type := 9, pos := "law.go:95", after := #[{ on := 16, ground := Go.Ground.data }, { on := 12, ground := Go.Ground.guard }], guard := some (12, false) }) (v := .string ⟨T.toArray⟩) rfl (by rfl) ?_ ?_
            · intro w' hg; have q0 := bty.conv (HBBd.out.below hg); go_simp
            try simp only [Act.put, List.setIfInBounds_toArray, List.set_cons_zero, List.set_cons_succ]
            refine wpS_call (o := { dst := some 120, op := Go.Op.call { callee := Go.Callee.value (Go.Operand.func 27), args := #[Go.Operand.tmp 119], argTypes := #[42] }, type := 23, pos := "law.go:95", after := #[{ on := 13, ground := Go.Ground.data }, { on := 12, ground := Go.Ground.chain }, { on := 12, ground := Go.Ground.guard }], guard := some (12, false) }) rfl (by rfl) (fun K hK => ?_)
            go_simp
            go_at_call 27
            with_reducible refine (CL.out _ Au cu HUd.out).mono ?_
            rintro e w3 ⟨A3, c3, rfl, hown3, hb3⟩
            have Hs3 := Lib.hid hown3.rb; clear hown3
            have HBB3 := Lib.hid ((HBBd.out.below hb3).more hb3.size); have HU3 := Lib.hid ((HUd.out.below hb3).more hb3.size); have HZ3 := Lib.hid ((HZd.out.below hb3).more hb3.size); have HG3 := Lib.hid (HGd.out.trans hb3)
            refine hK.out _ _ hb3 ?_
            clear hK K hb3
            try simp only [Act.put, List.setIfInBounds_toArray, List.set_cons_zero, List.set_cons_succ]
            refine wpS_read (o := { dst := some 121, op := Go.Op.convert 23 9 (Go.Operand.tmp 120), type := 9, pos := "law.go:95", after := #[{ on := 14, ground := Go.Ground.data }, { on := 12, ground := Go.Ground.guard }], guard := some (12, false) }) (v := .string ⟨T.toArray⟩) rfl (by rfl) ?_ ?_
            · intro w' hg; have q0 := bty.conv (Hs3.out.below hg); go_simp
            try simp only [Act.put, List.setIfInBounds_toArray, List.set_cons_zero, List.set_cons_succ]
            refine wpS_read (o := { dst := some 124, op := Go.Op.binOp Go.BinOp.eql 9 (Go.Operand.tmp 121) (Go.Operand.tmp 123) 9, type := 4, pos := "law.go:95", after := #[{ on := 15, ground := Go.Ground.data }, { on := 17, ground := Go.Ground.data }, { on := 12, ground := Go.Ground.guard }], guard := some (12, false) }) (v := .bool true) rfl (by rfl) ?_ ?_
            · intro w' hg; go_simp
            try simp only [Act.put, List.setIfInBounds_toArray, List.set_cons_zero, List.set_cons_succ]
            refine wpS_read (o := { dst := some 125, op := Go.Op.pick (Go.Operand.tmp 118) (Go.Operand.const (Go.Value.bool true)) (Go.Operand.tmp 124), type := 4, pos := "law.go:95", after := #[{ on := 12, ground := Go.Ground.data }, { on := 18, ground := Go.Ground.data }, { on := 9, ground := Go.Ground.guard }], guard := some (9, true) }) (v := .bool true) rfl (by rfl) ?_ ?_
            · intro w' hg; go_simp
            try simp only [Act.put, List.setIfInBounds_toArray, List.set_cons_zero, List.set_cons_succ]
            refine wpS_read (o := { dst := some 126, op := Go.Op.pick (Go.Operand.tmp 115) (Go.Operand.tmp 125) (Go.Operand.const (Go.Value.bool false)), type := 4, pos := "law.go:95", after := #[{ on := 9, ground := Go.Ground.data }, { on := 19, ground := Go.Ground.data }], guard := none }) (v := .bool true) rfl (by rfl) ?_ ?_
            · intro w' hg; go_simp
            try simp only [Act.put, List.setIfInBounds_toArray, List.set_cons_zero, List.set_cons_succ]
            refine wpS_read (o := { dst := some 127, op := Go.Op.move (Go.Operand.tmp 126), type := 4, pos := "law.go:95", after := #[{ on := 20, ground := Go.Ground.data }, { on := 14, ground := Go.Ground.chain }], guard := none }) (v := .bool true) rfl (by rfl) ?_ ?_
            · intro w' hg; go_simp
            try simp only [Act.put, List.setIfInBounds_toArray, List.set_cons_zero, List.set_cons_succ]
            refine wpS_read (o := { dst := some 128, op := Go.Op.move (Go.Operand.tmp 20), type := 26, pos := "law.go:95", after := #[{ on := 21, ground := Go.Ground.guard }], guard := some (21, true) }) (v := .int .i64 (x3 : Int)) rfl (by rfl) ?_ ?_
            · intro w' hg; go_simp
            try simp only [Act.put, List.setIfInBounds_toArray, List.set_cons_zero, List.set_cons_succ]
            refine wpS_read (o := { dst := some 129, op := Go.Op.binOp Go.BinOp.neq 26 (Go.Operand.tmp 128) (Go.Operand.const (Go.Value.int Go.IntKind.i64 0)) 26, type := 4, pos := "law.go:95", after := #[{ on := 22, ground := Go.Ground.data }, { on := 21, ground := Go.Ground.guard }], guard := some (21, true) }) (v := .bool true) rfl (by rfl) ?_ ?_
            · intro w' hg; go_simp
            try simp only [Act.put, List.setIfInBounds_toArray, List.set_cons_zero, List.set_cons_succ]
            refine wpS_read (o := { dst := some 130, op := Go.Op.move (Go.Operand.tmp 129), type := 4, pos := "law.go:95", after := #[{ on := 23, ground := Go.Ground.data }, { on := 21, ground := Go.Ground.chain }, { on := 21, ground := Go.Ground.guard }], guard := some (21, true) }) (v := .bool true) rfl (by rfl) ?_ ?_
            · intro w' hg; go_simp
            try simp only [Act.put, List.setIfInBounds_toArray, List.set_cons_zero, List.set_cons_succ]
            refine wpS_skip (o := { dst := some 131, op := Go.Op.move (Go.Operand.tmp 21), type := 23, pos := "law.go:95", after := #[{ on := 24, ground := Go.Ground.guard }], guard := some (24, false) }) rfl (by rfl) ?_
            try simp only [Act.put, List.setIfInBounds_toArray, List.set_cons_zero, List.set_cons_succ]
            refine wpS_skip (o := { dst := some 132, op := Go.Op.convert 23 9 (Go.Operand.tmp 131), type := 9, pos := "law.go:95", after := #[{ on := 25, ground := Go.Ground.data }, { on := 24, ground := Go.Ground.guard }], guard := some (24, false) }) rfl (by rfl) ?_
            try simp only [Act.put, List.setIfInBounds_toArray, List.set_cons_zero, List.set_cons_succ]
            refine wpS_skip (o := { dst := some 133, op := Go.Op.move (Go.Operand.tmp 2), type := 23, pos := "law.go:95", after := #[{ on := 24, ground := Go.Ground.guard }], guard := some (24, false) }) rfl (by rfl) ?_
            try simp only [Act.put, List.setIfInBounds_toArray, List.set_cons_zero, List.set_cons_succ]
            refine wpS_skip (o := { dst := some 134, op := Go.Op.convert 23 9 (Go.Operand.tmp 133), type := 9, pos := "law.go:95", after := #[{ on := 27, ground := Go.Ground.data }, { on := 24, ground := Go.Ground.guard }], guard := some (24, false) }) rfl (by rfl) ?_
            try simp only [Act.put, List.setIfInBounds_toArray, List.set_cons_zero, List.set_cons_succ]
            refine wpS_skip (o := { dst := some 135, op := Go.Op.binOp Go.BinOp.eql 9 (Go.Operand.tmp 132) (Go.Operand.tmp 134) 9, type := 4, pos := "law.go:95", after := #[{ on := 26, ground := Go.Ground.data }, { on := 28, ground := Go.Ground.data }, { on := 24, ground := Go.Ground.guard }], guard := some (24, false) }) rfl (by rfl) ?_
            try simp only [Act.put, List.setIfInBounds_toArray, List.set_cons_zero, List.set_cons_succ]
            refine wpS_read (o := { dst := some 136, op := Go.Op.pick (Go.Operand.tmp 130) (Go.Operand.const (Go.Value.bool true)) (Go.Operand.tmp 135), type := 4, pos := "law.go:95", after := #[{ on := 24, ground := Go.Ground.data }, { on := 29, ground := Go.Ground.data }, { on := 21, ground := Go.Ground.guard }], guard := some (21, true) }) (v := .bool true) rfl (by rfl) ?_ ?_
            · intro w' hg; go_simp
            try simp only [Act.put, List.setIfInBounds_toArray, List.set_cons_zero, List.set_cons_succ]
            refine wpS_read (o := { dst := some 137, op := Go.Op.pick (Go.Operand.tmp 127) (Go.Operand.tmp 136) (Go.Operand.const (Go.Value.bool false)), type := 4, pos := "law.go:95", after := #[{ on := 21, ground := Go.Ground.data }, { on := 30, ground := Go.Ground.data }], guard := none }) (v := .bool true) rfl (by rfl) ?_ ?_
            · intro w' hg; go_simp
            try simp only [Act.put, List.setIfInBounds_toArray, List.set_cons_zero, List.set_cons_succ]
            refine wpS_read (o := { dst := some 23, op := Go.Op.assign (Go.Operand.tmp 137), type := 4, pos := "law.go:95", after := #[{ on := 31, ground := Go.Ground.data }, { on := 24, ground := Go.Ground.chain }, { on := 0, ground := Go.Ground.phase }, { on := 1, ground := Go.Ground.phase }, { on := 2, ground := Go.Ground.phase }, { on := 3, ground := Go.Ground.phase }, { on := 4, ground := Go.Ground.phase }, { on := 5, ground := Go.Ground.phase }, { on := 6, ground := Go.Ground.phase }, { on := 7, ground := Go.Ground.phase }, { on := 8, ground := Go.Ground.phase }, { on := 9, ground := Go.Ground.phase }, { on := 10, ground := Go.Ground.phase }, { on := 11, ground := Go.Ground.phase }, { on := 12, ground := Go.Ground.phase }, { on := 13, ground := Go.Ground.phase }, { on := 14, ground := Go.Ground.phase }, { on := 15, ground := Go.Ground.phase }, { on := 16, ground := Go.Ground.phase }, { on := 17, ground := Go.Ground.phase }, { on := 18, ground := Go.Ground.phase }, { on := 19, ground := Go.Ground.phase }, { on := 20, ground := Go.Ground.phase }, { on := 21, ground := Go.Ground.phase }, { on := 22, ground := Go.Ground.phase }, { on := 23, ground := Go.Ground.phase }, { on := 24, ground := Go.Ground.phase }, { on := 25, ground := Go.Ground.phase }, { on := 26, ground := Go.Ground.phase }, { on := 27, ground := Go.Ground.phase }, { on := 28, ground := Go.Ground.phase }, { on := 29, ground := Go.Ground.phase }, { on := 30, ground := Go.Ground.phase }, { on := 31, ground := Go.Ground.phase }], guard := none }) (v := .bool true) rfl (by rfl) ?_ ?_
            · intro w' hg; go_simp
            try simp only [Act.put, List.setIfInBounds_toArray, List.set_cons_zero, List.set_cons_succ]
            refine wpS_done ?_
            go_wp2_with fail
            go_meet
            exact ⟨by simp, HG3.out⟩
        · clear CLy
          have hx22 : ((x2 : Int) != 0) = true := by simp; omega
          have hx23 : ((x2 : Int) == 0) = false := by simp; omega
          by_cases hk0 : x3 = 0
          · have hZT : T = Z := (CZy.out hk0).symm
            subst hZT
            have hx32 : ((x3 : Int) != 0) = false := by simp [hk0]
            have hx33 : ((x3 : Int) == 0) = true := by simp [hk0]
            clear hi hj hx3 hi0 hj0 hk0
            refine wp_region_sched [(false, 0), (false, 1), (false, 2), (false, 3), (false, 5), (false, 6), (true, 4), (false, 7), (false, 8), (false, 9), (false, 10), (false, 11), (false, 12), (false, 13), (false, 16), (false, 17), (true, 14), (false, 15), (false, 18), (false, 19), (false, 20), (false, 21), (false, 22), (false, 23), (false, 24), (false, 25), (false, 26), (false, 27), (false, 28), (false, 29), (false, 30), (false, 31), (false, 32)] (by kernel_rfl) (by kernel_rfl) (by kernel_rfl) (by kernel_rfl) (fun _ _ d _ _ h => by cases d <;> exact h) ?_
            have HBBd : Hid (Rb wz.drew wz.drew.heap.size D m d T) := HBB
            have HUd : Hid (RP wz.drew wz.drew.heap.size Au PL.length cu PL) := HU
            have HZd : Hid (Rb wz.drew wz.drew.heap.size Az T.length cz T) := HZ
            have HGd := Lib.hid (grow_drew wz)
            refine wpS_read (o := { dst := some 106, op := Go.Op.move (Go.Operand.tmp 16), type := 26, pos := "law.go:95", after := #[], guard := none }) (v := .int .i64 (x1 : Int)) rfl (by rfl) ?_ ?_
            · intro w' hg; go_simp
            try simp only [Act.put, List.setIfInBounds_toArray, List.set_cons_zero, List.set_cons_succ]
            refine wpS_read (o := { dst := some 107, op := Go.Op.binOp Go.BinOp.neq 26 (Go.Operand.tmp 106) (Go.Operand.const (Go.Value.int Go.IntKind.i64 0)) 26, type := 4, pos := "law.go:95", after := #[{ on := 0, ground := Go.Ground.data }], guard := none }) (v := .bool true) rfl (by rfl) ?_ ?_
            · intro w' hg; go_simp
            try simp only [Act.put, List.setIfInBounds_toArray, List.set_cons_zero, List.set_cons_succ]
            refine wpS_read (o := { dst := some 108, op := Go.Op.move (Go.Operand.tmp 107), type := 4, pos := "law.go:95", after := #[{ on := 1, ground := Go.Ground.data }], guard := none }) (v := .bool true) rfl (by rfl) ?_ ?_
            · intro w' hg; go_simp
            try simp only [Act.put, List.setIfInBounds_toArray, List.set_cons_zero, List.set_cons_succ]
            refine wpS_skip (o := { dst := some 109, op := Go.Op.move (Go.Operand.tmp 15), type := 9, pos := "law.go:95", after := #[{ on := 2, ground := Go.Ground.guard }], guard := some (2, false) }) rfl (by rfl) ?_
            try simp only [Act.put, List.setIfInBounds_toArray, List.set_cons_zero, List.set_cons_succ]
            refine wpS_skip (o := { dst := some 111, op := Go.Op.move (Go.Operand.tmp 2), type := 23, pos := "law.go:95", after := #[{ on := 2, ground := Go.Ground.guard }], guard := some (2, false) }) rfl (by rfl) ?_
            try simp only [Act.put, List.setIfInBounds_toArray, List.set_cons_zero, List.set_cons_succ]
            refine wpS_skip (o := { dst := some 112, op := Go.Op.convert 23 9 (Go.Operand.tmp 111), type := 9, pos := "law.go:95", after := #[{ on := 5, ground := Go.Ground.data }, { on := 2, ground := Go.Ground.guard }], guard := some (2, false) }) rfl (by rfl) ?_
            try simp only [Act.put, List.setIfInBounds_toArray, List.set_cons_zero, List.set_cons_succ]
            refine wpS_skip (o := { dst := some 110, op := Go.Op.call { callee := Go.Callee.value (Go.Operand.func 19), args := #[Go.Operand.tmp 109], argTypes := #[9] }, type := 9, pos := "law.go:95", after := #[{ on := 3, ground := Go.Ground.data }, { on := 2, ground := Go.Ground.chain }, { on := 2, ground := Go.Ground.guard }], guard := some (2, false) }) rfl (by rfl) ?_
            try simp only [Act.put, List.setIfInBounds_toArray, List.set_cons_zero, List.set_cons_succ]
            refine wpS_skip (o := { dst := some 113, op := Go.Op.binOp Go.BinOp.eql 9 (Go.Operand.tmp 110) (Go.Operand.tmp 112) 9, type := 4, pos := "law.go:95", after := #[{ on := 4, ground := Go.Ground.data }, { on := 6, ground := Go.Ground.data }, { on := 2, ground := Go.Ground.guard }], guard := some (2, false) }) rfl (by rfl) ?_
            try simp only [Act.put, List.setIfInBounds_toArray, List.set_cons_zero, List.set_cons_succ]
            refine wpS_read (o := { dst := some 114, op := Go.Op.pick (Go.Operand.tmp 108) (Go.Operand.const (Go.Value.bool true)) (Go.Operand.tmp 113), type := 4, pos := "law.go:95", after := #[{ on := 2, ground := Go.Ground.data }, { on := 7, ground := Go.Ground.data }], guard := none }) (v := .bool true) rfl (by rfl) ?_ ?_
            · intro w' hg; go_simp
            try simp only [Act.put, List.setIfInBounds_toArray, List.set_cons_zero, List.set_cons_succ]
            refine wpS_read (o := { dst := some 115, op := Go.Op.move (Go.Operand.tmp 114), type := 4, pos := "law.go:95", after := #[{ on := 8, ground := Go.Ground.data }, { on := 4, ground := Go.Ground.chain }], guard := none }) (v := .bool true) rfl (by rfl) ?_ ?_
            · intro w' hg; go_simp
            try simp only [Act.put, List.setIfInBounds_toArray, List.set_cons_zero, List.set_cons_succ]
            refine wpS_read (o := { dst := some 116, op := Go.Op.move (Go.Operand.tmp 18), type := 26, pos := "law.go:95", after := #[{ on := 9, ground := Go.Ground.guard }], guard := some (9, true) }) (v := .int .i64 (x2 : Int)) rfl (by rfl) ?_ ?_
            · intro w' hg; go_simp
            try simp only [Act.put, List.setIfInBounds_toArray, List.set_cons_zero, List.set_cons_succ]
            refine wpS_read (o := { dst := some 117, op := Go.Op.binOp Go.BinOp.neq 26 (Go.Operand.tmp 116) (Go.Operand.const (Go.Value.int Go.IntKind.i64 0)) 26, type := 4, pos := "law.go:95", after := #[{ on := 10, ground := Go.Ground.data }, { on := 9, ground := Go.Ground.guard }], guard := some (9, true) }) (v := .bool true) rfl (by rfl) ?_ ?_
            · intro w' hg; go_simp
            try simp only [Act.put, List.setIfInBounds_toArray, List.set_cons_zero, List.set_cons_succ]
            refine wpS_read (o := { dst := some 118, op := Go.Op.move (Go.Operand.tmp 117), type := 4, pos := "law.go:95", after := #[{ on := 11, ground := Go.Ground.data }, { on := 9, ground := Go.Ground.chain }, { on := 9, ground := Go.Ground.guard }], guard := some (9, true) }) (v := .bool true) rfl (by rfl) ?_ ?_
            · intro w' hg; go_simp
            try simp only [Act.put, List.setIfInBounds_toArray, List.set_cons_zero, List.set_cons_succ]
            refine wpS_skip (o := { dst := some 119, op := Go.Op.move (Go.Operand.tmp 17), type := 42, pos := "law.go:95", after := #[{ on := 12, ground := Go.Ground.guard }], guard := some (12, false) }) rfl (by rfl) ?_
            try simp only [Act.put, List.setIfInBounds_toArray, List.set_cons_zero, List.set_cons_succ]
            refine wpS_skip (o := { dst := some 122, op := Go.Op.move (Go.Operand.tmp 2), type := 23, pos := "law.go:95", after := #[{ on := 12, ground := Go.Ground.guard }], guard := some (12, false) }) rfl (by rfl) ?_
            try simp only [Act.put, List.setIfInBounds_toArray, List.set_cons_zero, List.set_cons_succ]
            refine wpS_skip (o := { dst := some 123, op := Go.Op.convert 23 9 (Go.Operand.tmp 122), type := 9, pos := "law.go:95", after := #[{ on := 16, ground := Go.Ground.data }, { on := 12, ground := Go.Ground.guard }], guard := some (12, false) }) rfl (by rfl) ?_
            try simp only [Act.put, List.setIfInBounds_toArray, List.set_cons_zero, List.set_cons_succ]
            refine wpS_skip (o := { dst := some 120, op := Go.Op.call { callee := Go.Callee.value (Go.Operand.func 27), args := #[Go.Operand.tmp 119], argTypes := #[42] }, type := 23, pos := "law.go:95", after := #[{ on := 13, ground := Go.Ground.data }, { on := 12, ground := Go.Ground.chain }, { on := 12, ground := Go.Ground.guard }], guard := some (12, false) }) rfl (by rfl) ?_
            try simp only [Act.put, List.setIfInBounds_toArray, List.set_cons_zero, List.set_cons_succ]
            refine wpS_skip (o := { dst := some 121, op := Go.Op.convert 23 9 (Go.Operand.tmp 120), type := 9, pos := "law.go:95", after := #[{ on := 14, ground := Go.Ground.data }, { on := 12, ground := Go.Ground.guard }], guard := some (12, false) }) rfl (by rfl) ?_
            try simp only [Act.put, List.setIfInBounds_toArray, List.set_cons_zero, List.set_cons_succ]
            refine wpS_skip (o := { dst := some 124, op := Go.Op.binOp Go.BinOp.eql 9 (Go.Operand.tmp 121) (Go.Operand.tmp 123) 9, type := 4, pos := "law.go:95", after := #[{ on := 15, ground := Go.Ground.data }, { on := 17, ground := Go.Ground.data }, { on := 12, ground := Go.Ground.guard }], guard := some (12, false) }) rfl (by rfl) ?_
            try simp only [Act.put, List.setIfInBounds_toArray, List.set_cons_zero, List.set_cons_succ]
            refine wpS_read (o := { dst := some 125, op := Go.Op.pick (Go.Operand.tmp 118) (Go.Operand.const (Go.Value.bool true)) (Go.Operand.tmp 124), type := 4, pos := "law.go:95", after := #[{ on := 12, ground := Go.Ground.data }, { on := 18, ground := Go.Ground.data }, { on := 9, ground := Go.Ground.guard }], guard := some (9, true) }) (v := .bool true) rfl (by rfl) ?_ ?_
            · intro w' hg; go_simp
            try simp only [Act.put, List.setIfInBounds_toArray, List.set_cons_zero, List.set_cons_succ]
            refine wpS_read (o := { dst := some 126, op := Go.Op.pick (Go.Operand.tmp 115) (Go.Operand.tmp 125) (Go.Operand.const (Go.Value.bool false)), type := 4, pos := "law.go:95", after := #[{ on := 9, ground := Go.Ground.data }, { on := 19, ground := Go.Ground.data }], guard := none }) (v := .bool true) rfl (by rfl) ?_ ?_
            · intro w' hg; go_simp
            try simp only [Act.put, List.setIfInBounds_toArray, List.set_cons_zero, List.set_cons_succ]
            refine wpS_read (o := { dst := some 127, op := Go.Op.move (Go.Operand.tmp 126), type := 4, pos := "law.go:95", after := #[{ on := 20, ground := Go.Ground.data }, { on := 14, ground := Go.Ground.chain }], guard := none }) (v := .bool true) rfl (by rfl) ?_ ?_
            · intro w' hg; go_simp
            try simp only [Act.put, List.setIfInBounds_toArray, List.set_cons_zero, List.set_cons_succ]
            refine wpS_read (o := { dst := some 128, op := Go.Op.move (Go.Operand.tmp 20), type := 26, pos := "law.go:95", after := #[{ on := 21, ground := Go.Ground.guard }], guard := some (21, true) }) (v := .int .i64 (x3 : Int)) rfl (by rfl) ?_ ?_
            · intro w' hg; go_simp
            try simp only [Act.put, List.setIfInBounds_toArray, List.set_cons_zero, List.set_cons_succ]
            refine wpS_read (o := { dst := some 129, op := Go.Op.binOp Go.BinOp.neq 26 (Go.Operand.tmp 128) (Go.Operand.const (Go.Value.int Go.IntKind.i64 0)) 26, type := 4, pos := "law.go:95", after := #[{ on := 22, ground := Go.Ground.data }, { on := 21, ground := Go.Ground.guard }], guard := some (21, true) }) (v := .bool false) rfl (by rfl) ?_ ?_
            · intro w' hg; go_simp
            try simp only [Act.put, List.setIfInBounds_toArray, List.set_cons_zero, List.set_cons_succ]
            refine wpS_read (o := { dst := some 130, op := Go.Op.move (Go.Operand.tmp 129), type := 4, pos := "law.go:95", after := #[{ on := 23, ground := Go.Ground.data }, { on := 21, ground := Go.Ground.chain }, { on := 21, ground := Go.Ground.guard }], guard := some (21, true) }) (v := .bool false) rfl (by rfl) ?_ ?_
            · intro w' hg; go_simp
            try simp only [Act.put, List.setIfInBounds_toArray, List.set_cons_zero, List.set_cons_succ]
            refine wpS_read (o := { dst := some 131, op := Go.Op.move (Go.Operand.tmp 21), type := 23, pos := "law.go:95", after := #[{ on := 24, ground := Go.Ground.guard }], guard := some (24, false) }) (v := .slice Az T.length cz) rfl (by rfl) ?_ ?_
            · intro w' hg; go_simp
            try simp only [Act.put, List.setIfInBounds_toArray, List.set_cons_zero, List.set_cons_succ]
            refine wpS_read (o := { dst := some 132, op := Go.Op.convert 23 9 (Go.Operand.tmp 131), type := 9, pos := "law.go:95", after := #[{ on := 25, ground := Go.Ground.data }, { on := 24, ground := Go.Ground.guard }], guard := some (24, false) }) (v := .string ⟨T.toArray⟩) rfl (by rfl) ?_ ?_
            · intro w' hg; have q0 := bty.conv (HZd.out.below hg); go_simp
            try simp only [Act.put, List.setIfInBounds_toArray, List.set_cons_zero, List.set_cons_succ]
            refine wpS_read (o := { dst := some 133, op := Go.Op.move (Go.Operand.tmp 2), type := 23, pos := "law.go:95", after := #[{ on := 24, ground := Go.Ground.guard }], guard := some (24, false) }) (v := .slice D m d) rfl (by rfl) ?_ ?_
            · intro w' hg; go_simp
            try simp only [Act.put, List.setIfInBounds_toArray, List.set_cons_zero, List.set_cons_succ]
            refine wpS_read (o := { dst := some 134, op := Go.Op.convert 23 9 (Go.Operand.tmp 133), type := 9, pos := "law.go:95", after := #[{ on := 27, ground := Go.Ground.data }, { on := 24, ground := Go.Ground.guard }], guard := some (24, false) }) (v := .string ⟨T.toArray⟩) rfl (by rfl) ?_ ?_
            · intro w' hg; have q0 := bty.conv (HBBd.out.below hg); go_simp
            try simp only [Act.put, List.setIfInBounds_toArray, List.set_cons_zero, List.set_cons_succ]
            refine wpS_read (o := { dst := some 135, op := Go.Op.binOp Go.BinOp.eql 9 (Go.Operand.tmp 132) (Go.Operand.tmp 134) 9, type := 4, pos := "law.go:95", after := #[{ on := 26, ground := Go.Ground.data }, { on := 28, ground := Go.Ground.data }, { on := 24, ground := Go.Ground.guard }], guard := some (24, false) }) (v := .bool true) rfl (by rfl) ?_ ?_
            · intro w' hg; go_simp
            try simp only [Act.put, List.setIfInBounds_toArray, List.set_cons_zero, List.set_cons_succ]
            refine wpS_read (o := { dst := some 136, op := Go.Op.pick (Go.Operand.tmp 130) (Go.Operand.const (Go.Value.bool true)) (Go.Operand.tmp 135), type := 4, pos := "law.go:95", after := #[{ on := 24, ground := Go.Ground.data }, { on := 29, ground := Go.Ground.data }, { on := 21, ground := Go.Ground.guard }], guard := some (21, true) }) (v := .bool true) rfl (by rfl) ?_ ?_
            · intro w' hg; go_simp
            try simp only [Act.put, List.setIfInBounds_toArray, List.set_cons_zero, List.set_cons_succ]
            refine wpS_read (o := { dst := some 137, op := Go.Op.pick (Go.Operand.tmp 127) (Go.Operand.tmp 136) (Go.Operand.const (Go.Value.bool false)), type := 4, pos := "law.go:95", after := #[{ on := 21, ground := Go.Ground.data }, { on := 30, ground := Go.Ground.data }], guard := none }) (v := .bool true) rfl (by rfl) ?_ ?_
            · intro w' hg; go_simp
            try simp only [Act.put, List.setIfInBounds_toArray, List.set_cons_zero, List.set_cons_succ]
            refine wpS_read (o := { dst := some 23, op := Go.Op.assign (Go.Operand.tmp 137), type := 4, pos := "law.go:95", after := #[{ on := 31, ground := Go.Ground.data }, { on := 24, ground := Go.Ground.chain }, { on := 0, ground := Go.Ground.phase }, { on := 1, ground := Go.Ground.phase }, { on := 2, ground := Go.Ground.phase }, { on := 3, ground := Go.Ground.phase }, { on := 4, ground := Go.Ground.phase }, { on := 5, ground := Go.Ground.phase }, { on := 6, ground := Go.Ground.phase }, { on := 7, ground := Go.Ground.phase }, { on := 8, ground := Go.Ground.phase }, { on := 9, ground := Go.Ground.phase }, { on := 10, ground := Go.Ground.phase }, { on := 11, ground := Go.Ground.phase }, { on := 12, ground := Go.Ground.phase }, { on := 13, ground := Go.Ground.phase }, { on := 14, ground := Go.Ground.phase }, { on := 15, ground := Go.Ground.phase }, { on := 16, ground := Go.Ground.phase }, { on := 17, ground := Go.Ground.phase }, { on := 18, ground := Go.Ground.phase }, { on := 19, ground := Go.Ground.phase }, { on := 20, ground := Go.Ground.phase }, { on := 21, ground := Go.Ground.phase }, { on := 22, ground := Go.Ground.phase }, { on := 23, ground := Go.Ground.phase }, { on := 24, ground := Go.Ground.phase }, { on := 25, ground := Go.Ground.phase }, { on := 26, ground := Go.Ground.phase }, { on := 27, ground := Go.Ground.phase }, { on := 28, ground := Go.Ground.phase }, { on := 29, ground := Go.Ground.phase }, { on := 30, ground := Go.Ground.phase }, { on := 31, ground := Go.Ground.phase }], guard := none }) (v := .bool true) rfl (by rfl) ?_ ?_
            · intro w' hg; go_simp
            try simp only [Act.put, List.setIfInBounds_toArray, List.set_cons_zero, List.set_cons_succ]
            refine wpS_done ?_
            go_wp2_with fail
            go_meet
            exact ⟨by simp, HGd.out⟩
          · clear CZy
            have hx32 : ((x3 : Int) != 0) = true := by simp; omega
            have hx33 : ((x3 : Int) == 0) = false := by simp; omega
            clear hi hj hx3 hi0 hj0 hk0
            refine wp_region_sched [(false, 0), (false, 1), (false, 2), (false, 3), (false, 5), (false, 6), (true, 4), (false, 7), (false, 8), (false, 9), (false, 10), (false, 11), (false, 12), (false, 13), (false, 16), (false, 17), (true, 14), (false, 15), (false, 18), (false, 19), (false, 20), (false, 21), (false, 22), (false, 23), (false, 24), (false, 25), (false, 26), (false, 27), (false, 28), (false, 29), (false, 30), (false, 31), (false, 32)] (by kernel_rfl) (by kernel_rfl) (by kernel_rfl) (by kernel_rfl) (fun _ _ d _ _ h => by cases d <;> exact h) ?_
            have HBBd : Hid (Rb wz.drew wz.drew.heap.size D m d T) := HBB
            have HUd : Hid (RP wz.drew wz.drew.heap.size Au PL.length cu PL) := HU
            have HZd : Hid (Rb wz.drew wz.drew.heap.size Az Z.length cz Z) := HZ
            have HGd := Lib.hid (grow_drew wz)
            refine wpS_read (o := { dst := some 106, op := Go.Op.move (Go.Operand.tmp 16), type := 26, pos := "law.go:95", after := #[], guard := none }) (v := .int .i64 (x1 : Int)) rfl (by rfl) ?_ ?_
            · intro w' hg; go_simp
            try simp only [Act.put, List.setIfInBounds_toArray, List.set_cons_zero, List.set_cons_succ]
            refine wpS_read (o := { dst := some 107, op := Go.Op.binOp Go.BinOp.neq 26 (Go.Operand.tmp 106) (Go.Operand.const (Go.Value.int Go.IntKind.i64 0)) 26, type := 4, pos := "law.go:95", after := #[{ on := 0, ground := Go.Ground.data }], guard := none }) (v := .bool true) rfl (by rfl) ?_ ?_
            · intro w' hg; go_simp
            try simp only [Act.put, List.setIfInBounds_toArray, List.set_cons_zero, List.set_cons_succ]
            refine wpS_read (o := { dst := some 108, op := Go.Op.move (Go.Operand.tmp 107), type := 4, pos := "law.go:95", after := #[{ on := 1, ground := Go.Ground.data }], guard := none }) (v := .bool true) rfl (by rfl) ?_ ?_
            · intro w' hg; go_simp
            try simp only [Act.put, List.setIfInBounds_toArray, List.set_cons_zero, List.set_cons_succ]
            refine wpS_skip (o := { dst := some 109, op := Go.Op.move (Go.Operand.tmp 15), type := 9, pos := "law.go:95", after := #[{ on := 2, ground := Go.Ground.guard }], guard := some (2, false) }) rfl (by rfl) ?_
            try simp only [Act.put, List.setIfInBounds_toArray, List.set_cons_zero, List.set_cons_succ]
            refine wpS_skip (o := { dst := some 111, op := Go.Op.move (Go.Operand.tmp 2), type := 23, pos := "law.go:95", after := #[{ on := 2, ground := Go.Ground.guard }], guard := some (2, false) }) rfl (by rfl) ?_
            try simp only [Act.put, List.setIfInBounds_toArray, List.set_cons_zero, List.set_cons_succ]
            refine wpS_skip (o := { dst := some 112, op := Go.Op.convert 23 9 (Go.Operand.tmp 111), type := 9, pos := "law.go:95", after := #[{ on := 5, ground := Go.Ground.data }, { on := 2, ground := Go.Ground.guard }], guard := some (2, false) }) rfl (by rfl) ?_
            try simp only [Act.put, List.setIfInBounds_toArray, List.set_cons_zero, List.set_cons_succ]
            refine wpS_skip (o := { dst := some 110, op := Go.Op.call { callee := Go.Callee.value (Go.Operand.func 19), args := #[Go.Operand.tmp 109], argTypes := #[9] }, type := 9, pos := "law.go:95", after := #[{ on := 3, ground := Go.Ground.data }, { on := 2, ground := Go.Ground.chain }, { on := 2, ground := Go.Ground.guard }], guard := some (2, false) }) rfl (by rfl) ?_
            try simp only [Act.put, List.setIfInBounds_toArray, List.set_cons_zero, List.set_cons_succ]
            refine wpS_skip (o := { dst := some 113, op := Go.Op.binOp Go.BinOp.eql 9 (Go.Operand.tmp 110) (Go.Operand.tmp 112) 9, type := 4, pos := "law.go:95", after := #[{ on := 4, ground := Go.Ground.data }, { on := 6, ground := Go.Ground.data }, { on := 2, ground := Go.Ground.guard }], guard := some (2, false) }) rfl (by rfl) ?_
            try simp only [Act.put, List.setIfInBounds_toArray, List.set_cons_zero, List.set_cons_succ]
            refine wpS_read (o := { dst := some 114, op := Go.Op.pick (Go.Operand.tmp 108) (Go.Operand.const (Go.Value.bool true)) (Go.Operand.tmp 113), type := 4, pos := "law.go:95", after := #[{ on := 2, ground := Go.Ground.data }, { on := 7, ground := Go.Ground.data }], guard := none }) (v := .bool true) rfl (by rfl) ?_ ?_
            · intro w' hg; go_simp
            try simp only [Act.put, List.setIfInBounds_toArray, List.set_cons_zero, List.set_cons_succ]
            refine wpS_read (o := { dst := some 115, op := Go.Op.move (Go.Operand.tmp 114), type := 4, pos := "law.go:95", after := #[{ on := 8, ground := Go.Ground.data }, { on := 4, ground := Go.Ground.chain }], guard := none }) (v := .bool true) rfl (by rfl) ?_ ?_
            · intro w' hg; go_simp
            try simp only [Act.put, List.setIfInBounds_toArray, List.set_cons_zero, List.set_cons_succ]
            refine wpS_read (o := { dst := some 116, op := Go.Op.move (Go.Operand.tmp 18), type := 26, pos := "law.go:95", after := #[{ on := 9, ground := Go.Ground.guard }], guard := some (9, true) }) (v := .int .i64 (x2 : Int)) rfl (by rfl) ?_ ?_
            · intro w' hg; go_simp
            try simp only [Act.put, List.setIfInBounds_toArray, List.set_cons_zero, List.set_cons_succ]
            refine wpS_read (o := { dst := some 117, op := Go.Op.binOp Go.BinOp.neq 26 (Go.Operand.tmp 116) (Go.Operand.const (Go.Value.int Go.IntKind.i64 0)) 26, type := 4, pos := "law.go:95", after := #[{ on := 10, ground := Go.Ground.data }, { on := 9, ground := Go.Ground.guard }], guard := some (9, true) }) (v := .bool true) rfl (by rfl) ?_ ?_
            · intro w' hg; go_simp
            try simp only [Act.put, List.setIfInBounds_toArray, List.set_cons_zero, List.set_cons_succ]
            refine wpS_read (o := { dst := some 118, op := Go.Op.move (Go.Operand.tmp 117), type := 4, pos := "law.go:95", after := #[{ on := 11, ground := Go.Ground.data }, { on := 9, ground := Go.Ground.chain }, { on := 9, ground := Go.Ground.guard }], guard := some (9, true) }) (v := .bool true) rfl (by rfl) ?_ ?_
            · intro w' hg; go_simp
            try simp only [Act.put, List.setIfInBounds_toArray, List.set_cons_zero, List.set_cons_succ]
            refine wpS_skip (o := { dst := some 119, op := Go.Op.move (Go.Operand.tmp 17), type := 42, pos := "law.go:95", after := #[{ on := 12, ground := Go.Ground.guard }], guard := some (12, false) }) rfl (by rfl) ?_
            try simp only [Act.put, List.setIfInBounds_toArray, List.set_cons_zero, List.set_cons_succ]
            refine wpS_skip (o := { dst := some 122, op := Go.Op.move (Go.Operand.tmp 2), type := 23, pos := "law.go:95", after := #[{ on := 12, ground := Go.Ground.guard }], guard := some (12, false) }) rfl (by rfl) ?_
            try simp only [Act.put, List.setIfInBounds_toArray, List.set_cons_zero, List.set_cons_succ]
            refine wpS_skip (o := { dst := some 123, op := Go.Op.convert 23 9 (Go.Operand.tmp 122), type := 9, pos := "law.go:95", after := #[{ on := 16, ground := Go.Ground.data }, { on := 12, ground := Go.Ground.guard }], guard := some (12, false) }) rfl (by rfl) ?_
            try simp only [Act.put, List.setIfInBounds_toArray, List.set_cons_zero, List.set_cons_succ]
            refine wpS_skip (o := { dst := some 120, op := Go.Op.call { callee := Go.Callee.value (Go.Operand.func 27), args := #[Go.Operand.tmp 119], argTypes := #[42] }, type := 23, pos := "law.go:95", after := #[{ on := 13, ground := Go.Ground.data }, { on := 12, ground := Go.Ground.chain }, { on := 12, ground := Go.Ground.guard }], guard := some (12, false) }) rfl (by rfl) ?_
            try simp only [Act.put, List.setIfInBounds_toArray, List.set_cons_zero, List.set_cons_succ]
            refine wpS_skip (o := { dst := some 121, op := Go.Op.convert 23 9 (Go.Operand.tmp 120), type := 9, pos := "law.go:95", after := #[{ on := 14, ground := Go.Ground.data }, { on := 12, ground := Go.Ground.guard }], guard := some (12, false) }) rfl (by rfl) ?_
            try simp only [Act.put, List.setIfInBounds_toArray, List.set_cons_zero, List.set_cons_succ]
            refine wpS_skip (o := { dst := some 124, op := Go.Op.binOp Go.BinOp.eql 9 (Go.Operand.tmp 121) (Go.Operand.tmp 123) 9, type := 4, pos := "law.go:95", after := #[{ on := 15, ground := Go.Ground.data }, { on := 17, ground := Go.Ground.data }, { on := 12, ground := Go.Ground.guard }], guard := some (12, false) }) rfl (by rfl) ?_
            try simp only [Act.put, List.setIfInBounds_toArray, List.set_cons_zero, List.set_cons_succ]
            refine wpS_read (o := { dst := some 125, op := Go.Op.pick (Go.Operand.tmp 118) (Go.Operand.const (Go.Value.bool true)) (Go.Operand.tmp 124), type := 4, pos := "law.go:95", after := #[{ on := 12, ground := Go.Ground.data }, { on := 18, ground := Go.Ground.data }, { on := 9, ground := Go.Ground.guard }], guard := some (9, true) }) (v := .bool true) rfl (by rfl) ?_ ?_
            · intro w' hg; go_simp
            try simp only [Act.put, List.setIfInBounds_toArray, List.set_cons_zero, List.set_cons_succ]
            refine wpS_read (o := { dst := some 126, op := Go.Op.pick (Go.Operand.tmp 115) (Go.Operand.tmp 125) (Go.Operand.const (Go.Value.bool false)), type := 4, pos := "law.go:95", after := #[{ on := 9, ground := Go.Ground.data }, { on := 19, ground := Go.Ground.data }], guard := none }) (v := .bool true) rfl (by rfl) ?_ ?_
            · intro w' hg; go_simp
            try simp only [Act.put, List.setIfInBounds_toArray, List.set_cons_zero, List.set_cons_succ]
            refine wpS_read (o := { dst := some 127, op := Go.Op.move (Go.Operand.tmp 126), type := 4, pos := "law.go:95", after := #[{ on := 20, ground := Go.Ground.data }, { on := 14, ground := Go.Ground.chain }], guard := none }) (v := .bool true) rfl (by rfl) ?_ ?_
            · intro w' hg; go_simp
            try simp only [Act.put, List.setIfInBounds_toArray, List.set_cons_zero, List.set_cons_succ]
            refine wpS_read (o := { dst := some 128, op := Go.Op.move (Go.Operand.tmp 20), type := 26, pos := "law.go:95", after := #[{ on := 21, ground := Go.Ground.guard }], guard := some (21, true) }) (v := .int .i64 (x3 : Int)) rfl (by rfl) ?_ ?_
            · intro w' hg; go_simp
            try simp only [Act.put, List.setIfInBounds_toArray, List.set_cons_zero, List.set_cons_succ]
            refine wpS_read (o := { dst := some 129, op := Go.Op.binOp Go.BinOp.neq 26 (Go.Operand.tmp 128) (Go.Operand.const (Go.Value.int Go.IntKind.i64 0)) 26, type := 4, pos := "law.go:95", after := #[{ on := 22, ground := Go.Ground.data }, { on := 21, ground := Go.Ground.guard }], guard := some (21, true) }) (v := .bool true) rfl (by rfl) ?_ ?_
            · intro w' hg; go_simp
            try simp only [Act.put, List.setIfInBounds_toArray, List.set_cons_zero, List.set_cons_succ]
            refine wpS_read (o := { dst := some 130, op := Go.Op.move (Go.Operand.tmp 129), type := 4, pos := "law.go:95", after := #[{ on := 23, ground := Go.Ground.data }, { on := 21, ground := Go.Ground.chain }, { on := 21, ground := Go.Ground.guard }], guard := some (21, true) }) (v := .bool true) rfl (by rfl) ?_ ?_
            · intro w' hg; go_simp
            try simp only [Act.put, List.setIfInBounds_toArray, List.set_cons_zero, List.set_cons_succ]
            refine wpS_skip (o := { dst := some 131, op := Go.Op.move (Go.Operand.tmp 21), type := 23, pos := "law.go:95", after := #[{ on := 24, ground := Go.Ground.guard }], guard := some (24, false) }) rfl (by rfl) ?_
            try simp only [Act.put, List.setIfInBounds_toArray, List.set_cons_zero, List.set_cons_succ]
            refine wpS_skip (o := { dst := some 132, op := Go.Op.convert 23 9 (Go.Operand.tmp 131), type := 9, pos := "law.go:95", after := #[{ on := 25, ground := Go.Ground.data }, { on := 24, ground := Go.Ground.guard }], guard := some (24, false) }) rfl (by rfl) ?_
            try simp only [Act.put, List.setIfInBounds_toArray, List.set_cons_zero, List.set_cons_succ]
            refine wpS_skip (o := { dst := some 133, op := Go.Op.move (Go.Operand.tmp 2), type := 23, pos := "law.go:95", after := #[{ on := 24, ground := Go.Ground.guard }], guard := some (24, false) }) rfl (by rfl) ?_
            try simp only [Act.put, List.setIfInBounds_toArray, List.set_cons_zero, List.set_cons_succ]
            refine wpS_skip (o := { dst := some 134, op := Go.Op.convert 23 9 (Go.Operand.tmp 133), type := 9, pos := "law.go:95", after := #[{ on := 27, ground := Go.Ground.data }, { on := 24, ground := Go.Ground.guard }], guard := some (24, false) }) rfl (by rfl) ?_
            try simp only [Act.put, List.setIfInBounds_toArray, List.set_cons_zero, List.set_cons_succ]
            refine wpS_skip (o := { dst := some 135, op := Go.Op.binOp Go.BinOp.eql 9 (Go.Operand.tmp 132) (Go.Operand.tmp 134) 9, type := 4, pos := "law.go:95", after := #[{ on := 26, ground := Go.Ground.data }, { on := 28, ground := Go.Ground.data }, { on := 24, ground := Go.Ground.guard }], guard := some (24, false) }) rfl (by rfl) ?_
            try simp only [Act.put, List.setIfInBounds_toArray, List.set_cons_zero, List.set_cons_succ]
            refine wpS_read (o := { dst := some 136, op := Go.Op.pick (Go.Operand.tmp 130) (Go.Operand.const (Go.Value.bool true)) (Go.Operand.tmp 135), type := 4, pos := "law.go:95", after := #[{ on := 24, ground := Go.Ground.data }, { on := 29, ground := Go.Ground.data }, { on := 21, ground := Go.Ground.guard }], guard := some (21, true) }) (v := .bool true) rfl (by rfl) ?_ ?_
            · intro w' hg; go_simp
            try simp only [Act.put, List.setIfInBounds_toArray, List.set_cons_zero, List.set_cons_succ]
            refine wpS_read (o := { dst := some 137, op := Go.Op.pick (Go.Operand.tmp 127) (Go.Operand.tmp 136) (Go.Operand.const (Go.Value.bool false)), type := 4, pos := "law.go:95", after := #[{ on := 21, ground := Go.Ground.data }, { on := 30, ground := Go.Ground.data }], guard := none }) (v := .bool true) rfl (by rfl) ?_ ?_
            · intro w' hg; go_simp
            try simp only [Act.put, List.setIfInBounds_toArray, List.set_cons_zero, List.set_cons_succ]
            refine wpS_read (o := { dst := some 23, op := Go.Op.assign (Go.Operand.tmp 137), type := 4, pos := "law.go:95", after := #[{ on := 31, ground := Go.Ground.data }, { on := 24, ground := Go.Ground.chain }, { on := 0, ground := Go.Ground.phase }, { on := 1, ground := Go.Ground.phase }, { on := 2, ground := Go.Ground.phase }, { on := 3, ground := Go.Ground.phase }, { on := 4, ground := Go.Ground.phase }, { on := 5, ground := Go.Ground.phase }, { on := 6, ground := Go.Ground.phase }, { on := 7, ground := Go.Ground.phase }, { on := 8, ground := Go.Ground.phase }, { on := 9, ground := Go.Ground.phase }, { on := 10, ground := Go.Ground.phase }, { on := 11, ground := Go.Ground.phase }, { on := 12, ground := Go.Ground.phase }, { on := 13, ground := Go.Ground.phase }, { on := 14, ground := Go.Ground.phase }, { on := 15, ground := Go.Ground.phase }, { on := 16, ground := Go.Ground.phase }, { on := 17, ground := Go.Ground.phase }, { on := 18, ground := Go.Ground.phase }, { on := 19, ground := Go.Ground.phase }, { on := 20, ground := Go.Ground.phase }, { on := 21, ground := Go.Ground.phase }, { on := 22, ground := Go.Ground.phase }, { on := 23, ground := Go.Ground.phase }, { on := 24, ground := Go.Ground.phase }, { on := 25, ground := Go.Ground.phase }, { on := 26, ground := Go.Ground.phase }, { on := 27, ground := Go.Ground.phase }, { on := 28, ground := Go.Ground.phase }, { on := 29, ground := Go.Ground.phase }, { on := 30, ground := Go.Ground.phase }, { on := 31, ground := Go.Ground.phase }], guard := none }) (v := .bool true) rfl (by rfl) ?_ ?_
            · intro w' hg; go_simp
            try simp only [Act.put, List.setIfInBounds_toArray, List.set_cons_zero, List.set_cons_succ]
            refine wpS_done ?_
            go_wp2_with fail
            go_meet
            exact ⟨by simp, HGd.out⟩
    case rest =>
      obtain ⟨rfl, hgx⟩ := hcut
      have bx : Below w.heap.size w wc := B11.out.trans (Below.mono hgx B11.out.size)
      have Bx := Lib.hid bx; clear hgx bx
      go_wp2_with fail
      refine (alive_c _).mono ?_
      rintro e w12 ⟨rfl, hb12⟩
      have b12 : Below w.heap.size w w12 := Bx.out.trans (hb12.mono Bx.out.size)
      have cv12 := bty.conv (HrD.out.below b12)
      clear hb12
      go_wp2
      go_ret
      exact ⟨rfl, b12⟩

theorem fieldBack_walk (A : Option Addr) (n c : Nat) (l : List (List (List UInt8))) (Ap : Option Addr) (np cp : Nat) (P : List (List UInt8 × List UInt8)) (D : Option Addr) (m d : Nat) (T : List UInt8) (w : World)
    (hr : RL w w.heap.size A n c l) (hz : ∀ r ∈ l, ∀ q ∈ r, q.length ≤ 140737488355328) (hrP : RP w w.heap.size Ap np cp P) (hzP : ∀ p ∈ P, p.1.length ≤ 140737488355328 ∧ p.2.length ≤ 140737488355328) (hrD : Rb w w.heap.size D m d T) :
    Calls Try.prog 6 #[.slice A n c, .slice Ap np cp, .slice D m d] w fun e w' => e = .returned (.bool true) ∧ Below w.heap.size w w' := by
  by_cases h : ¬ (wL l ≤ 4000 ∧ l.length ≤ 120) ∨ ¬ wP P ≤ 4000 ∨ 4000 < m
  · exact fieldBack_alive A Ap D n c np cp m d l P w hr hz hrP hzP (Nat.le_trans hrD.2.1 hrD.2.2.1) h
  · have h1 : wL l ≤ 4000 ∧ l.length ≤ 120 := Decidable.not_not.1 (fun q => h (.inl q))
    have h2 : wP P ≤ 4000 := Decidable.not_not.1 (fun q => h (.inr (.inl q)))
    have h3 : m ≤ 4000 := by
      rcases Nat.lt_or_ge 4000 m with q | q
      · exact absurd (.inr (.inr q)) h
      · exact q
    have e1 := hr.len
    have e2 := hrP.len
    subst e1 e2
    exact fieldBack_short A Ap D c cp m d l P T w hr hz hrP hzP hrD h1 h2 h3
end Go.Proofs.Ytihfejjkkgnneaa

