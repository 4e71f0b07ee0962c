/-
  The walk of the law CsvQuotes.
-/
import Derived.Test.YtpjnkbfjnonkhaaDoorDz
import Derived.Test.YtpjnkbfjnonkhaaDoorDa
import Derived.Lib.ConvBytes
namespace Go.Proofs.YtpjnkbfjnonkhaaDoor
open Go.RowKit

/-- '[]byte(s)' -/
theorem conv_bytes (w : World) (s : ByteArray) (hs : s.size ≤ 1000000) : ∃ c w', (convert 9 22 (.string s)).run Tryd.prog w = .ok (.slice (some ⟨w.heap.size, 0, none⟩) s.size c) w' ∧ Rb w' w'.heap.size (some ⟨w.heap.size, 0, none⟩) s.size c s.data.toList ∧ Below w.heap.size w w' := by
  refine ⟨_, _, Lib.run_convert_string_bytes w 9 22 5 s Tryd.underlying9 Tryd.underlying22 Tryd.underlying5, ⟨str_len s, grownCap_ge _ _ _ _, grownCap_le_maxLen _ _ _ _ (by unfold maxLen; omega), fun _ => ⟨_, _, rfl, by rw [Lib.bytesWorld_size]; omega, fun j x hx => ?_⟩⟩, ⟨rfl, rfl, rfl, by rw [Lib.bytesWorld_size]; omega, fun k hk => Lib.bytesWorld_at_old w _ s k hk⟩⟩
  have hj : j < s.data.toList.length := by
    rcases Nat.lt_or_ge j s.data.toList.length with h' | h'
    · exact h'
    · rw [List.getElem?_eq_none h'] at hx; cases hx
  rw [Nat.zero_add, Lib.bytesWorld_cell w _ s j (by rw [← str_len]; exact hj)]
  rw [List.getD_eq_getElem?_getD, hx]; rfl

/-- A literal of one record of two texts: two new blocks. -/
theorem two_lit (w : World) (s t : ByteArray) (te tr : TypeId) (w5 w6 : World) (h5 : w5 = w.alloc (.cells #[.string s, .string t] te)) (h6 : w6 = w5.alloc (.cells #[.slice (some ⟨w.heap.size, 0, none⟩) 2 2] tr)) :
    w6.heap.size = w.heap.size + 2 ∧ Below w.heap.size w w6 ∧ RL w6 w6.heap.size (some ⟨w.heap.size + 1, 0, none⟩) 1 1 [[s.data.toList, t.data.toList]] := by
  have z5 : w5.heap.size = w.heap.size + 1 := by rw [h5]; simp
  have z6 : w6.heap.size = w.heap.size + 2 := by rw [h6]; simp [z5]
  have b6 : Below w.heap.size w w6 := by
    rw [h6, h5]
    exact ((Below.refl _ _).alloc (Nat.le_refl _) _).alloc (by simp) _
  have r5 : Rc 1 w5 (w.heap.size + 1) (some ⟨w.heap.size, 0, none⟩) 2 2 (lvs [s.data.toList, t.data.toList]) := by
    have h := Rc.lit (z := 1) w te #[.string s, .string t] 2 rfl (by simp [maxLen])
    rw [← h5] at h
    have e : lvs [s.data.toList, t.data.toList] = (#[.string s, .string t] : Array Value).toList := by
      have e1 : ∀ s : ByteArray, (⟨s.data.toList.toArray⟩ : ByteArray) = s := fun s => by cases s; simp
      simp only [lvs, List.map_cons, List.map_nil, e1]
    rw [e]; exact h
  refine ⟨z6, b6, [.slice (some ⟨w.heap.size, 0, none⟩) 2 2], ?_, Rrs.snoc (Rrs.nil _ _) ⟨_, _, _, rfl, ?_⟩⟩
  · have h := Rc.lit (z := 1) w5 tr #[.slice (some ⟨w.heap.size, 0, none⟩) 2 2] 1 rfl (by simp [maxLen])
    rw [← h6, z5] at h
    exact h.more (by omega)
  · have := r5.alloc (by omega) (.cells #[.slice (some ⟨w.heap.size, 0, none⟩) 2 2] tr)
    rw [← h6] at this
    exact this.more (by omega)

theorem PLS.pl' {w : World} {base : Nat} {A : Option Addr} {n c : Nat} {l : List (Nat × List (List (List UInt8)))} (h : PLS w (Fr base w) A n c l) : PL w w.heap.size A n c l := PLS.keep h (stays_weak fr_lt)

set_option maxRecDepth 100000 in
set_option maxHeartbeats 4000000 in
theorem csvQuotes_walk (s t : ByteArray) (x : Int) (w : World) (hs : s.size ≤ maxLen) (ht : t.size ≤ maxLen) (hx : 0 ≤ x ∧ x < 256) (hmx : Mx w) :
    Calls Tryd.prog 6 #[.string s, .string t, .int .u8 x] w fun e w' => e = .returned (.bool true) ∧ Below w.heap.size w w' := by
  have hsm : s.size ≤ 9223372036854775807 := by unfold maxLen at hs; omega
  have htm : t.size ≤ 9223372036854775807 := by unfold maxLen at ht; omega
  clear hs ht
  by_cases h1 : 500 < s.size
  · have d1 : (500 : Int) < (s.size : Int) := by omega
    clear hmx hx
    go_enter Tryd.func6, Tryd.ntmps6
    go_wp2_with fail
    refine (alive_c _).mono ?_
    rintro e w2 ⟨rfl, hb2⟩
    go_wp2
    go_ret
    exact ⟨rfl, hb2⟩
  · have d1 : ¬ (500 : Int) < (s.size : Int) := by omega
    by_cases h2 : 500 < t.size
    · have d2 : (500 : Int) < (t.size : Int) := by omega
      clear hmx hx
      go_enter Tryd.func6, Tryd.ntmps6
      go_wp2_with fail
      refine (alive_c _).mono ?_
      rintro e w2 ⟨rfl, hb2⟩
      go_wp2
      go_ret
      exact ⟨rfl, hb2⟩
    · have d2 : ¬ (500 : Int) < (t.size : Int) := by omega
      have q1 := fun W m => quote_c s (by omega) W m
      have q2 := fun W m => quote_c t (by omega) W m
      have q3 := fun W m => quote_c ⟨#[97, 98, 99]⟩ (by decide) W m
      have hsl := Cv.qt_len s.data.toList
      have htl := Cv.qt_len t.data.toList
      rw [str_len] at hsl htl
      obtain ⟨S, hS⟩ : ∃ S, S = Cv.qt s.data.toList := ⟨_, rfl⟩
      obtain ⟨T, hT⟩ : ∃ T, T = Cv.qt t.data.toList := ⟨_, rfl⟩
      rw [← hS] at q1 hsl
      rw [← hT] at q2 htl
      have k1 : ¬ 9223372036854775807 < S.length + 1 := by omega
      have k2 : ¬ 9223372036854775807 < S.length + 1 + T.length := by omega
      have k3 : ¬ 9223372036854775807 < S.length + 1 + T.length + 1 := by omega
      have k4 : ¬ 9223372036854775807 < S.length + 1 + T.length + 2 := by omega
      have q3' : ∀ W, Mx W → Calls Tryd.prog 18 #[.string ⟨#[97, 98, 99]⟩] W fun e w' => e = .returned (.string ⟨#[97, 98, 99]⟩) ∧ Below W.heap.size W w' := fun W m => q3 W m
      have hsc : ∀ e : List UInt8, (e = [] ∨ e = [10] ∨ e = [13, 10]) → ∀ N, N = S.length + 1 + T.length + e.length → ∀ W A1 c1, Rb W W.heap.size A1 N c1 (S ++ 44 :: T ++ e) → Calls Tryd.prog 8 #[.slice A1 N c1] W fun en w' => ∃ A2 c2, en = .returned (.tuple #[.slice A2 1 c2, .int .i64 (N : Int), .int .i64 0]) ∧ PL w' w'.heap.size A2 1 c2 [(0, [[s.data.toList, t.data.toList]])] ∧ Below W.heap.size W w' := fun e he N hN W A1 c1 h => by
        have hel : e.length ≤ 2 := by rcases he with rfl | rfl | rfl <;> simp
        obtain ⟨g1, g2, g3⟩ := Cv.ls_pair s.data.toList t.data.toList e (by rw [str_len]; omega) (by rw [str_len]; omega) he
        rw [← hS, ← hT] at g1 g2 g3
        refine (scan_c A1 N c1 _ W h (by omega)).mono fun en w' hp => ?_
        obtain ⟨A2, c2, hen, hp, hb⟩ := hp
        rw [g1] at hen hp
        rw [g2, g3, h.len] at hen
        exact ⟨A2, c2, hen, hp.pl', hb⟩
      have Q1 := Lib.hid q1; have Q2 := Lib.hid q2; have Q3 := Lib.hid q3'; have Hmx := Lib.hid hmx; have Hsc := Lib.hid hsc
      clear q1 q2 q3 q3' hmx hS hT hsc
      have h3 : x % 3 = 0 ∨ x % 3 = 1 ∨ x % 3 = 2 := by omega
      rcases h3 with h3 | h3 | h3
      · have hx0 := hx.1
        go_enter Tryd.func6, Tryd.ntmps6
        go_wp2_with fail
        refine (Q1.out _ Hmx.out).mono ?_
        rintro e w1 ⟨rfl, hb1⟩
        have z1 := hb1.size
        have m1 := Hmx.out.below' hb1
        have M1 := Lib.hid m1; clear m1
        go_wp2_with fail
        refine (Q2.out _ M1.out).mono ?_
        rintro e w2 ⟨rfl, hb2⟩
        have z2 := hb2.size
        have m2 := M1.out.below' hb2
        obtain ⟨cc, w3, hcv, hr3, hb3⟩ := conv_bytes w2 (⟨S.toArray⟩ ++ ⟨#[44]⟩ ++ ⟨T.toArray⟩) (by simp [ByteArray.size]; omega)
        have hlist : (⟨S.toArray⟩ ++ ⟨#[44]⟩ ++ ⟨T.toArray⟩ : ByteArray).data.toList = S ++ 44 :: T ++ [] := by simp
        have hsize : (⟨S.toArray⟩ ++ ⟨#[44]⟩ ++ ⟨T.toArray⟩ : ByteArray).size = S.length + 1 + T.length := by simp [ByteArray.size]; omega
        rw [hlist, hsize] at hr3
        rw [hsize] at hcv
        have z3 := hb3.size
        have m3 := m2.below' hb3
        have b3 := (hb1.trans (hb2.mono z1)).trans (hb3.mono (by omega))
        have hsc3 := Hsc.out [] (by simp) (S.length + 1 + T.length) (by simp) w3 _ cc hr3
        have M3 := Lib.hid m3; have Hsc3 := Lib.hid hsc3; clear m2 m3 hr3 hsc3 hlist hsize
        go_wp2_with fail
        refine Hsc3.out.mono ?_
        rintro e w4 ⟨A4, c4, rfl, hp4, hb4⟩
        have z4 := hb4.size
        have Hp4 := Lib.hid hp4; clear hp4
        go_wp2_with fail
        refine (alive_c _).mono ?_
        rintro e w5 ⟨rfl, hb5⟩
        have z5 := hb5.size
        have b5 := (b3.trans (hb4.mono (by omega))).trans (hb5.mono (by omega))
        have m5 := (M3.out.below' hb4).below' hb5
        obtain ⟨b, off, p, D, m, d, rfl, hS4, hc1, hc2, hx4, hl4⟩ := (Hp4.out.below hb5).at_ (k := 0) (by omega)
        obtain rfl : p = (0, [[s.data.toList, t.data.toList]]) := by simpa using hx4.symm
        have hl5 : RL w5 w4.heap.size D m d [[s.data.toList, t.data.toList]] := hl4
        have hm := hl5.len
        simp only [List.length_cons, List.length_nil, Nat.zero_add] at hm
        subst hm
        rw [Nat.zero_mul, Nat.add_zero] at hc2
        obtain ⟨w6, h6⟩ : ∃ w6, w6 = w5.alloc (.cells #[.string s, .string t] 9) := ⟨_, rfl⟩
        obtain ⟨w7, h7⟩ : ∃ w7, w7 = w6.alloc (.cells #[.slice (some ⟨w5.heap.size, 0, none⟩) 2 2] 34) := ⟨_, rfl⟩
        obtain ⟨z7, b7, hlit⟩ := two_lit w5 s t _ _ w6 w7 h6 h7
        have hl7 := (hl5.more (show w4.heap.size ≤ w5.heap.size by omega)).below b7 |>.more (show w5.heap.size ≤ w7.heap.size by omega)
        have m7 := m5.below' b7
        have bw7 := b5.trans (b7.mono (by omega))
        have H6 := Lib.hid h6; have H7 := Lib.hid h7; have Hlit := Lib.hid hlit; have Hl7 := Lib.hid hl7; have M7 := Lib.hid m7; clear h6 h7 hlit hl7 m7 m5 hl5 hl4 hx4 hc1
        go_wp2_with fail
        rw [← H6.out, ← H7.out]
        refine (recs_c D _ 1 d 1 [[s.data.toList, t.data.toList]] _ Hl7.out Hlit.out (by omega) (by simp)).mono ?_
        rintro e w8 ⟨rfl, q, hw8⟩
        have m8 : Mx w8 := by rw [hw8]; exact M7.out
        have b8 : Below w.heap.size w w8 := by rw [hw8]; exact below_drewN bw7 q
        have M8 := Lib.hid m8; clear m8 hw8
        go_wp2_with fail
        refine (Q3.out _ M8.out).mono ?_
        rintro e w9 ⟨rfl, hb9⟩
        go_wp2
        go_ret
        exact ⟨rfl, b8.trans (hb9.mono b8.size)⟩
      · have hx0 := hx.1
        go_enter Tryd.func6, Tryd.ntmps6
        go_wp2_with fail
        refine (Q1.out _ Hmx.out).mono ?_
        rintro e w1 ⟨rfl, hb1⟩
        have z1 := hb1.size
        have m1 := Hmx.out.below' hb1
        have M1 := Lib.hid m1; clear m1
        go_wp2_with fail
        refine (Q2.out _ M1.out).mono ?_
        rintro e w2 ⟨rfl, hb2⟩
        have z2 := hb2.size
        have m2 := M1.out.below' hb2
        obtain ⟨cc, w3, hcv, hr3, hb3⟩ := conv_bytes w2 (⟨S.toArray⟩ ++ ⟨#[44]⟩ ++ ⟨T.toArray⟩ ++ ⟨#[10]⟩) (by simp [ByteArray.size]; omega)
        have hlist : (⟨S.toArray⟩ ++ ⟨#[44]⟩ ++ ⟨T.toArray⟩ ++ ⟨#[10]⟩ : ByteArray).data.toList = S ++ 44 :: T ++ [10] := by simp
        have hsize : (⟨S.toArray⟩ ++ ⟨#[44]⟩ ++ ⟨T.toArray⟩ ++ ⟨#[10]⟩ : ByteArray).size = S.length + 1 + T.length + 1 := by simp [ByteArray.size]; omega
        rw [hlist, hsize] at hr3
        rw [hsize] at hcv
        have z3 := hb3.size
        have m3 := m2.below' hb3
        have b3 := (hb1.trans (hb2.mono z1)).trans (hb3.mono (by omega))
        have hsc3 := Hsc.out [10] (by simp) (S.length + 1 + T.length + 1) (by simp) w3 _ cc hr3
        have M3 := Lib.hid m3; have Hsc3 := Lib.hid hsc3; clear m2 m3 hr3 hsc3 hlist hsize
        go_wp2_with fail
        refine Hsc3.out.mono ?_
        rintro e w4 ⟨A4, c4, rfl, hp4, hb4⟩
        have z4 := hb4.size
        have Hp4 := Lib.hid hp4; clear hp4
        go_wp2_with fail
        refine (alive_c _).mono ?_
        rintro e w5 ⟨rfl, hb5⟩
        have z5 := hb5.size
        have b5 := (b3.trans (hb4.mono (by omega))).trans (hb5.mono (by omega))
        have m5 := (M3.out.below' hb4).below' hb5
        obtain ⟨b, off, p, D, m, d, rfl, hS4, hc1, hc2, hx4, hl4⟩ := (Hp4.out.below hb5).at_ (k := 0) (by omega)
        obtain rfl : p = (0, [[s.data.toList, t.data.toList]]) := by simpa using hx4.symm
        have hl5 : RL w5 w4.heap.size D m d [[s.data.toList, t.data.toList]] := hl4
        have hm := hl5.len
        simp only [List.length_cons, List.length_nil, Nat.zero_add] at hm
        subst hm
        rw [Nat.zero_mul, Nat.add_zero] at hc2
        obtain ⟨w6, h6⟩ : ∃ w6, w6 = w5.alloc (.cells #[.string s, .string t] 9) := ⟨_, rfl⟩
        obtain ⟨w7, h7⟩ : ∃ w7, w7 = w6.alloc (.cells #[.slice (some ⟨w5.heap.size, 0, none⟩) 2 2] 34) := ⟨_, rfl⟩
        obtain ⟨z7, b7, hlit⟩ := two_lit w5 s t _ _ w6 w7 h6 h7
        have hl7 := (hl5.more (show w4.heap.size ≤ w5.heap.size by omega)).below b7 |>.more (show w5.heap.size ≤ w7.heap.size by omega)
        have m7 := m5.below' b7
        have bw7 := b5.trans (b7.mono (by omega))
        have H6 := Lib.hid h6; have H7 := Lib.hid h7; have Hlit := Lib.hid hlit; have Hl7 := Lib.hid hl7; have M7 := Lib.hid m7; clear h6 h7 hlit hl7 m7 m5 hl5 hl4 hx4 hc1
        go_wp2_with fail
        rw [← H6.out, ← H7.out]
        refine (recs_c D _ 1 d 1 [[s.data.toList, t.data.toList]] _ Hl7.out Hlit.out (by omega) (by simp)).mono ?_
        rintro e w8 ⟨rfl, q, hw8⟩
        have m8 : Mx w8 := by rw [hw8]; exact M7.out
        have b8 : Below w.heap.size w w8 := by rw [hw8]; exact below_drewN bw7 q
        have M8 := Lib.hid m8; clear m8 hw8
        go_wp2_with fail
        refine (Q3.out _ M8.out).mono ?_
        rintro e w9 ⟨rfl, hb9⟩
        go_wp2
        go_ret
        exact ⟨rfl, b8.trans (hb9.mono b8.size)⟩
      · have hx0 := hx.1
        go_enter Tryd.func6, Tryd.ntmps6
        go_wp2_with fail
        refine (Q1.out _ Hmx.out).mono ?_
        rintro e w1 ⟨rfl, hb1⟩
        have z1 := hb1.size
        have m1 := Hmx.out.below' hb1
        have M1 := Lib.hid m1; clear m1
        go_wp2_with fail
        refine (Q2.out _ M1.out).mono ?_
        rintro e w2 ⟨rfl, hb2⟩
        have z2 := hb2.size
        have m2 := M1.out.below' hb2
        obtain ⟨cc, w3, hcv, hr3, hb3⟩ := conv_bytes w2 (⟨S.toArray⟩ ++ ⟨#[44]⟩ ++ ⟨T.toArray⟩ ++ ⟨#[13, 10]⟩) (by simp [ByteArray.size]; omega)
        have hlist : (⟨S.toArray⟩ ++ ⟨#[44]⟩ ++ ⟨T.toArray⟩ ++ ⟨#[13, 10]⟩ : ByteArray).data.toList = S ++ 44 :: T ++ [13, 10] := by simp
        have hsize : (⟨S.toArray⟩ ++ ⟨#[44]⟩ ++ ⟨T.toArray⟩ ++ ⟨#[13, 10]⟩ : ByteArray).size = S.length + 1 + T.length + 2 := by simp [ByteArray.size]; omega
        rw [hlist, hsize] at hr3
        rw [hsize] at hcv
        have z3 := hb3.size
        have m3 := m2.below' hb3
        have b3 := (hb1.trans (hb2.mono z1)).trans (hb3.mono (by omega))
        have hsc3 := Hsc.out [13, 10] (by simp) (S.length + 1 + T.length + 2) (by simp) w3 _ cc hr3
        have M3 := Lib.hid m3; have Hsc3 := Lib.hid hsc3; clear m2 m3 hr3 hsc3 hlist hsize
        go_wp2_with fail
        refine Hsc3.out.mono ?_
        rintro e w4 ⟨A4, c4, rfl, hp4, hb4⟩
        have z4 := hb4.size
        have Hp4 := Lib.hid hp4; clear hp4
        go_wp2_with fail
        refine (alive_c _).mono ?_
        rintro e w5 ⟨rfl, hb5⟩
        have z5 := hb5.size
        have b5 := (b3.trans (hb4.mono (by omega))).trans (hb5.mono (by omega))
        have m5 := (M3.out.below' hb4).below' hb5
        obtain ⟨b, off, p, D, m, d, rfl, hS4, hc1, hc2, hx4, hl4⟩ := (Hp4.out.below hb5).at_ (k := 0) (by omega)
        obtain rfl : p = (0, [[s.data.toList, t.data.toList]]) := by simpa using hx4.symm
        have hl5 : RL w5 w4.heap.size D m d [[s.data.toList, t.data.toList]] := hl4
        have hm := hl5.len
        simp only [List.length_cons, List.length_nil, Nat.zero_add] at hm
        subst hm
        rw [Nat.zero_mul, Nat.add_zero] at hc2
        obtain ⟨w6, h6⟩ : ∃ w6, w6 = w5.alloc (.cells #[.string s, .string t] 9) := ⟨_, rfl⟩
        obtain ⟨w7, h7⟩ : ∃ w7, w7 = w6.alloc (.cells #[.slice (some ⟨w5.heap.size, 0, none⟩) 2 2] 34) := ⟨_, rfl⟩
        obtain ⟨z7, b7, hlit⟩ := two_lit w5 s t _ _ w6 w7 h6 h7
        have hl7 := (hl5.more (show w4.heap.size ≤ w5.heap.size by omega)).below b7 |>.more (show w5.heap.size ≤ w7.heap.size by omega)
        have m7 := m5.below' b7
        have bw7 := b5.trans (b7.mono (by omega))
        have H6 := Lib.hid h6; have H7 := Lib.hid h7; have Hlit := Lib.hid hlit; have Hl7 := Lib.hid hl7; have M7 := Lib.hid m7; clear h6 h7 hlit hl7 m7 m5 hl5 hl4 hx4 hc1
        go_wp2_with fail
        rw [← H6.out, ← H7.out]
        refine (recs_c D _ 1 d 1 [[s.data.toList, t.data.toList]] _ Hl7.out Hlit.out (by omega) (by simp)).mono ?_
        rintro e w8 ⟨rfl, q, hw8⟩
        have m8 : Mx w8 := by rw [hw8]; exact M7.out
        have b8 : Below w.heap.size w w8 := by rw [hw8]; exact below_drewN bw7 q
        have M8 := Lib.hid m8; clear m8 hw8
        go_wp2_with fail
        refine (Q3.out _ M8.out).mono ?_
        rintro e w9 ⟨rfl, hb9⟩
        go_wp2
        go_ret
        exact ⟨rfl, b8.trans (hb9.mono b8.size)⟩
end Go.Proofs.YtpjnkbfjnonkhaaDoor
