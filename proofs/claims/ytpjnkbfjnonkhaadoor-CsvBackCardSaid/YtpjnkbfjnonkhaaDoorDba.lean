/-
  The walk of the law CsvBack.
-/
import Derived.Test.YtpjnkbfjnonkhaaDoorDsc
namespace Go.Proofs.YtpjnkbfjnonkhaaDoor
open Go.RowKit

theorem few_weak {l : List (List (List UInt8))} (h : wL l ≤ 3000) : ∀ r ∈ l, r.length ≤ 1000000 := fun r hr => by
  have h1 := wL_mem l r hr
  have h2 := wR_len r
  omega

set_option maxRecDepth 100000 in
set_option maxHeartbeats 4000000 in
/-- What follows the first half: a file's records, written, are it just if it is canonical. -/
theorem csvBack_walk (A : Option Addr) (n c : Nat) (l : List (List (List UInt8))) (A' : Option Addr) (m d : Nat) (b : List UInt8) (w : World) (hr : RL w w.heap.size A n c l) (hz : ∀ r ∈ l, ∀ q ∈ r, q.length ≤ 140737488355328) (hb : Rb w w.heap.size A' m d b) (hmx : Mx w) :
    Calls Tryd.prog 5 #[.slice A n c, .slice A' m d] w fun e w' => e = .returned (.bool true) ∧ Below w.heap.size w w' := by
  obtain rfl := hb.len
  obtain rfl := hr.len
  have hmax : b.length ≤ 9223372036854775807 := by have h2 := hb.2.1; have h3 := hb.2.2.1; unfold maxLen at h3; omega
  have hmax2 : l.length ≤ 9223372036854775807 := by obtain ⟨vs, h1, _⟩ := hr; have h2 := h1.2.1; have h3 := h1.2.2.1; unfold maxLen at h3; omega
  by_cases h1 : wL l ≤ 3000 ∧ l.length ≤ 120
  · by_cases h2 : 3000 < b.length
    · have d2 : (3000 : Int) < (b.length : Int) := by omega
      have Hr := Lib.hid hr; have Hz := Lib.hid hz; have Ho := Lib.hid (decide_eq_true h1).symm; clear hr hz h1 hb hmx
      go_enter Tryd.func5, Tryd.ntmps5
      go_wp2_with fail
      refine (fewR_c A _ c _ l _ Hr.out Hz.out true Ho.out).mono ?_
      rintro e w1 ⟨rfl, rfl⟩
      go_wp2_with fail
      refine (alive_c _).mono ?_
      rintro e w2 ⟨rfl, hb2⟩
      go_wp2
      go_ret
      exact ⟨rfl, hb2⟩
    · have d2 : ¬ (3000 : Int) < (b.length : Int) := by omega
      have hbn : b.length ≤ 3000 := by omega
      obtain ⟨hw3, h120⟩ := h1
      -- the second half, wherever it begins
      have hlsb := Cv.ls_len b
      have hwtb := Cv.ls_wt b
      have hokb := Cv.ls_ok b
      have hcan := Cv.canon_def b
      have herb := Cv.er_or b
      obtain ⟨R, hR⟩ : ∃ R, R = (Cv.ls b).map (·.2) := ⟨_, rfl⟩
      obtain ⟨P, hP⟩ : ∃ P, P = Cv.ls b := ⟨_, rfl⟩
      obtain ⟨G, hG⟩ : ∃ G, G = Cv.good b := ⟨_, rfl⟩
      obtain ⟨E, hE⟩ : ∃ E, E = Cv.er b := ⟨_, rfl⟩
      obtain ⟨X, hX⟩ : ∃ X, X = Cv.wr R := ⟨_, rfl⟩
      have hRz : ∀ r ∈ R, ∀ q ∈ r, q.length ≤ 140737488355328 := by
        rw [hR]
        intro r hr q hq
        obtain ⟨p, hp, rfl⟩ := List.mem_map.1 hr
        have := (Cv.ls_few hp).2.2 q hq
        omega
      have hXl : X.length ≤ 18000 := by
        rw [hX]
        have h1 := Cv.wr_len R (by rw [hR]; exact hokb)
        rw [hR] at h1 ⊢
        omega
      have hXc : Cv.canon X = true := by rw [hX]; exact Cv.canon_wr (by rw [hR]; exact hokb)
      have s1 : ∀ W, Rb W W.heap.size A' b.length d b → Calls Tryd.prog 8 #[.slice A' b.length d] W (RetSc W b) := fun W h => scan_c A' _ d b W h (by omega)
      unfold RetSc at s1
      have s2 : ∀ W A1 c1, PL W W.heap.size A1 P.length c1 (P.map Cv.pc) → Calls Tryd.prog 21 #[.slice A1 P.length c1] W (RetA W R) := fun W A1 c1 h => by
        have := rall_c A1 P.length c1 (P.map Cv.pc) W h (by rw [hP]; omega) (by rw [Cv.all_pc, List.length_map, hP]; omega)
        rw [Cv.all_pc, hP, ← hR, ← hP] at this; exact this
      have s3 : ∀ W A1 c1, RL W W.heap.size A1 R.length c1 R → Mx W → Calls Tryd.prog 16 #[.slice A1 R.length c1] W (RetW W (X, 0)) := fun W A1 c1 h m => by
        have := write_c A1 _ c1 R W h hRz m (by rw [hR]; omega)
        rw [Cv.wrS_ok (by rw [hR]; exact hokb), ← hX] at this; exact this
      have s4 : ∀ W, Rb W W.heap.size A' b.length d b → Mx W → Calls Tryd.prog 11 #[.slice A' b.length d] W fun e w' => e = .returned (.bool (Cv.canon b)) ∧ Below W.heap.size W w' := fun W h m => canon_c A' _ d b W h (by omega) m
      have s5 : ∀ W A1 c1, Rb W W.heap.size A1 X.length c1 X → Mx W → Calls Tryd.prog 11 #[.slice A1 X.length c1] W fun e w' => e = .returned (.bool true) ∧ Below W.heap.size W w' := fun W A1 c1 h m => by
        have := canon_c A1 _ c1 X W h (by omega) m
        rw [hXc] at this; exact this
      rw [← hP, ← hG, ← hE] at s1
      rw [← hE, ← hR, ← hX] at hcan
      rw [← hE] at herb
      obtain ⟨C, hC⟩ : ∃ C, C = Cv.canon b := ⟨_, rfl⟩
      rw [← hC] at s4 hcan
      have hE3 : E = 0 ∨ E = 3 ∨ E = 5 := by omega
      -- the first half
      obtain ⟨Y, hY⟩ : ∃ Y, Y = Cv.wrS l := ⟨_, rfl⟩
      have t1 := write_c A _ c l w hr hz hmx (by omega)
      rw [← hY] at t1
      have hb0 := hb
      have S1 := Lib.hid s1; have S2 := Lib.hid s2; have S3 := Lib.hid s3; have S4 := Lib.hid s4; have S5 := Lib.hid s5
      have Hcan := Lib.hid hcan; have T1 := Lib.hid t1
      have Hr := Lib.hid hr; have Hz := Lib.hid hz; have Hb := Lib.hid hb; have Hmx := Lib.hid hmx; have Ho := Lib.hid (decide_eq_true (show wL l ≤ 3000 ∧ l.length ≤ 120 from ⟨hw3, h120⟩)).symm
      clear s1 s2 s3 s4 s5 hcan t1 hz hb hmx hP hG hR hE hX hC hRz hXl hXc hokb hlsb hwtb herb hb0
      by_cases hok : l.all Cv.okR = true
      · obtain ⟨Z, hZ⟩ : ∃ Z, Z = Cv.wr l := ⟨_, rfl⟩
        have hZl : Z.length ≤ 9000 := by rw [hZ]; have := Cv.wr_len l hok; omega
        obtain ⟨e1, e2, e3⟩ := Cv.ls_wr hok
        rw [← hZ] at e1 e2 e3
        have hYZ : Y = (Z, 0) := by rw [hY, Cv.wrS_ok hok, hZ]
        subst hYZ
        obtain ⟨PZ, hPZ⟩ : ∃ PZ, PZ = Cv.ls Z := ⟨_, rfl⟩
        rw [← hPZ] at e1
        have hPZl : PZ.length = l.length := by rw [← e1, List.length_map]
        have u1 : ∀ W A1 c1, Rb W W.heap.size A1 Z.length c1 Z → Calls Tryd.prog 8 #[.slice A1 Z.length c1] W fun e w' => ∃ A2 c2, e = .returned (.tuple #[.slice A2 PZ.length c2, .int .i64 (Z.length : Int), .int .i64 0]) ∧ PL w' w'.heap.size A2 PZ.length c2 (PZ.map Cv.pc) ∧ Below W.heap.size W w' := fun W A1 c1 h => (scan_c A1 _ c1 Z W h (by omega)).mono fun e w' hp => by
          obtain ⟨A2, c2, he, hp, hb⟩ := hp
          rw [← hPZ] at he hp
          rw [e2, e3] at he
          exact ⟨A2, c2, he, hp.pl, hb⟩
        have u2 : ∀ W A1 c1, Rb W W.heap.size A1 Z.length c1 Z → Mx W → Calls Tryd.prog 11 #[.slice A1 Z.length c1] W fun e w' => e = .returned (.bool true) ∧ Below W.heap.size W w' := fun W A1 c1 h m => by
          have := canon_c A1 _ c1 Z W h (by omega) m
          rw [hZ, Cv.canon_wr hok, ← hZ] at this; exact this
        have u3 : ∀ W A1 c1, PL W W.heap.size A1 PZ.length c1 (PZ.map Cv.pc) → Calls Tryd.prog 21 #[.slice A1 PZ.length c1] W (RetA W l) := fun W A1 c1 h => by
          have := rall_c A1 PZ.length c1 (PZ.map Cv.pc) W h (by omega) (by rw [Cv.all_pc, List.length_map]; omega)
          rw [Cv.all_pc, e1] at this; exact this
        have hlz := few_weak hw3
        have U1 := Lib.hid u1; have U2 := Lib.hid u2; have U3 := Lib.hid u3; have Hlz := Lib.hid hlz
        clear u1 u2 u3 hlz e1 e2 e3 hPZ hZ hok hY hr hPZl
        go_enter Tryd.func5, Tryd.ntmps5
        go_wp2_with fail
        refine (fewR_c A _ c _ l _ Hr.out Hz.out true Ho.out).mono ?_
        rintro e w0 ⟨rfl, rfl⟩
        go_wp2_with fail
        refine T1.out.mono ?_
        rintro e w1 ⟨A1, c1, rfl, hown1, hb1⟩
        have z1 := hb1.size
        have m1 := Hmx.out.below' hb1
        have H1 := Lib.hid hown1.rb; have M1 := Lib.hid m1; clear hown1 m1
        go_wp2_with fail
        refine (U1.out w1 A1 c1 H1.out).mono ?_
        rintro e w2 ⟨A2, c2, rfl, hp2, hb2⟩
        have z2 := hb2.size
        have Hp2 := Lib.hid hp2; clear hp2
        go_wp2_with fail
        refine (U2.out w2 A1 c1 ((H1.out.below hb2).more z2) (M1.out.below' hb2)).mono ?_
        rintro e w3 ⟨rfl, hb3⟩
        have z3 := hb3.size
        go_wp2_with fail
        refine (U3.out w3 A2 c2 ((Hp2.out.below hb3).more z3)).mono ?_
        rintro e w4 ⟨A4, c4, rfl, hp4, hb4⟩
        have z4 := hb4.size
        have Hp4 := Lib.hid hp4; clear hp4
        have b14 := (hb2.trans (hb3.mono z2)).trans (hb4.mono (by omega))
        have b4 := hb1.trans (b14.mono z1)
        go_wp2_with fail
        refine (recs_c A4 A _ c4 c l _ Hp4.out ((Hr.out.below b4).more (by omega)) (by omega) Hlz.out).mono ?_
        rintro e w5 ⟨rfl, q, hw5⟩
        have b5 : Below w.heap.size w w5 := by rw [hw5]; exact below_drewN b4 q
        clear hw5 b14 b4 hb1 hb2 hb3 hb4 z1 z2 z3 z4
        have z5 := b5.size
        rcases hE3 with rfl | rfl | rfl
        · by_cases hXb : X = b
          · have hCt : C = true := by rw [Hcan.out, hXb]; simp
            subst hCt
            subst hXb
            go_wp2_with fail
            refine (S1.out w5 ((Hb.out.below b5).more z5)).mono ?_
            rintro e w6 ⟨A6, c6, rfl, hp6, hb6⟩
            have z6 := hb6.size
            have Hp6 := Lib.hid hp6.pl; clear hp6
            go_wp2_with fail
            refine (S2.out w6 A6 c6 Hp6.out).mono ?_
            rintro e w7 ⟨A7, c7, rfl, hp7, hb7⟩
            have z7 := hb7.size
            have Hp7 := Lib.hid hp7; clear hp7
            have b7 := (b5.trans (hb6.mono z5)).trans (hb7.mono (by omega))
            go_wp2_with fail
            refine (S3.out w7 A7 c7 Hp7.out (Hmx.out.below' b7)).mono ?_
            rintro e w8 ⟨A8, c8, rfl, hown8, hb8⟩
            have z8 := hb8.size
            have H8 := Lib.hid hown8.rb; clear hown8
            go_wp2_with fail
            refine (alive_c _).mono ?_
            rintro e w9 ⟨rfl, hb9⟩
            have z9 := hb9.size
            have b9 := (b7.trans (hb8.mono (by omega))).trans (hb9.mono (by omega))
            go_wp2_with fail
            refine (S4.out w9 ((Hb.out.below b9).more (by omega)) (Hmx.out.below' b9)).mono ?_
            rintro e w10 ⟨rfl, hb10⟩
            have z10 := hb10.size
            have b10 := b9.trans (hb10.mono (by omega))
            have b810 := hb9.trans (hb10.mono z9)
            have cv1 := bty.conv (H8.out.below b810)
            have cv2 := bty.conv (Hb.out.below b10)
            go_wp2_with fail
            refine (S5.out w10 A8 c8 ((H8.out.below b810).more (by omega)) (Hmx.out.below' b10)).mono ?_
            rintro e w11 ⟨rfl, hb11⟩
            have bz := b10.trans (hb11.mono (by omega))
            go_wp2
            go_ret
            exact ⟨rfl, bz⟩
          · have hCf : C = false := by rw [Hcan.out]; simp [hXb]
            subst hCf
            have hne := (show (X == b) = false by simpa using hXb)
            go_wp2_with fail
            refine (S1.out w5 ((Hb.out.below b5).more z5)).mono ?_
            rintro e w6 ⟨A6, c6, rfl, hp6, hb6⟩
            have z6 := hb6.size
            have Hp6 := Lib.hid hp6.pl; clear hp6
            go_wp2_with fail
            refine (S2.out w6 A6 c6 Hp6.out).mono ?_
            rintro e w7 ⟨A7, c7, rfl, hp7, hb7⟩
            have z7 := hb7.size
            have Hp7 := Lib.hid hp7; clear hp7
            have b7 := (b5.trans (hb6.mono z5)).trans (hb7.mono (by omega))
            go_wp2_with fail
            refine (S3.out w7 A7 c7 Hp7.out (Hmx.out.below' b7)).mono ?_
            rintro e w8 ⟨A8, c8, rfl, hown8, hb8⟩
            have z8 := hb8.size
            have H8 := Lib.hid hown8.rb; clear hown8
            go_wp2_with fail
            refine (alive_c _).mono ?_
            rintro e w9 ⟨rfl, hb9⟩
            have z9 := hb9.size
            have b9 := (b7.trans (hb8.mono (by omega))).trans (hb9.mono (by omega))
            go_wp2_with fail
            refine (S4.out w9 ((Hb.out.below b9).more (by omega)) (Hmx.out.below' b9)).mono ?_
            rintro e w10 ⟨rfl, hb10⟩
            have z10 := hb10.size
            have b10 := b9.trans (hb10.mono (by omega))
            have b810 := hb9.trans (hb10.mono z9)
            have cv1 := bty.conv (H8.out.below b810)
            have cv2 := bty.conv (Hb.out.below b10)
            go_wp2_with fail
            refine (S5.out w10 A8 c8 ((H8.out.below b810).more (by omega)) (Hmx.out.below' b10)).mono ?_
            rintro e w11 ⟨rfl, hb11⟩
            have bz := b10.trans (hb11.mono (by omega))
            go_wp2
            go_ret
            exact ⟨rfl, bz⟩
        all_goals
          have hCf : C = false := by rw [Hcan.out]; rfl
          subst hCf
          go_wp2_with fail
          refine (S1.out w5 ((Hb.out.below b5).more z5)).mono ?_
          rintro e w6 ⟨A6, c6, rfl, hp6, hb6⟩
          have z6 := hb6.size
          have Hp6 := Lib.hid hp6.pl; clear hp6
          go_wp2_with fail
          refine (S2.out w6 A6 c6 Hp6.out).mono ?_
          rintro e w7 ⟨A7, c7, rfl, hp7, hb7⟩
          have z7 := hb7.size
          have Hp7 := Lib.hid hp7; clear hp7
          have b7 := (b5.trans (hb6.mono z5)).trans (hb7.mono (by omega))
          go_wp2_with fail
          refine (S3.out w7 A7 c7 Hp7.out (Hmx.out.below' b7)).mono ?_
          rintro e w8 ⟨A8, c8, rfl, hown8, hb8⟩
          have z8 := hb8.size
          have H8 := Lib.hid hown8.rb; clear hown8
          go_wp2_with fail
          refine (alive_c _).mono ?_
          rintro e w9 ⟨rfl, hb9⟩
          have z9 := hb9.size
          have b9 := (b7.trans (hb8.mono (by omega))).trans (hb9.mono (by omega))
          go_wp2_with fail
          refine (S4.out w9 ((Hb.out.below b9).more (by omega)) (Hmx.out.below' b9)).mono ?_
          rintro e w10 ⟨rfl, hb10⟩
          have z10 := hb10.size
          have b10 := b9.trans (hb10.mono (by omega))
          have b810 := hb9.trans (hb10.mono z9)
          go_wp2_with fail
          refine (S5.out w10 A8 c8 ((H8.out.below b810).more (by omega)) (Hmx.out.below' b10)).mono ?_
          rintro e w11 ⟨rfl, hb11⟩
          have bz := b10.trans (hb11.mono (by omega))
          go_wp2
          go_ret
          exact ⟨rfl, bz⟩
      · have hYe : Y = ([], 10) := by rw [hY, Cv.wrS_err (by simpa using hok)]
        subst hYe
        clear hY hok hr
        go_enter Tryd.func5, Tryd.ntmps5
        go_wp2_with fail
        refine (fewR_c A _ c _ l _ Hr.out Hz.out true Ho.out).mono ?_
        rintro e w0 ⟨rfl, rfl⟩
        go_wp2_with fail
        refine T1.out.mono ?_
        rintro e w5 ⟨A1, c1, rfl, hown1, b5⟩
        clear hown1
        have z5 := b5.size
        rcases hE3 with rfl | rfl | rfl
        · by_cases hXb : X = b
          · have hCt : C = true := by rw [Hcan.out, hXb]; simp
            subst hCt
            subst hXb
            go_wp2_with fail
            refine (S1.out w5 ((Hb.out.below b5).more z5)).mono ?_
            rintro e w6 ⟨A6, c6, rfl, hp6, hb6⟩
            have z6 := hb6.size
            have Hp6 := Lib.hid hp6.pl; clear hp6
            go_wp2_with fail
            refine (S2.out w6 A6 c6 Hp6.out).mono ?_
            rintro e w7 ⟨A7, c7, rfl, hp7, hb7⟩
            have z7 := hb7.size
            have Hp7 := Lib.hid hp7; clear hp7
            have b7 := (b5.trans (hb6.mono z5)).trans (hb7.mono (by omega))
            go_wp2_with fail
            refine (S3.out w7 A7 c7 Hp7.out (Hmx.out.below' b7)).mono ?_
            rintro e w8 ⟨A8, c8, rfl, hown8, hb8⟩
            have z8 := hb8.size
            have H8 := Lib.hid hown8.rb; clear hown8
            go_wp2_with fail
            refine (alive_c _).mono ?_
            rintro e w9 ⟨rfl, hb9⟩
            have z9 := hb9.size
            have b9 := (b7.trans (hb8.mono (by omega))).trans (hb9.mono (by omega))
            go_wp2_with fail
            refine (S4.out w9 ((Hb.out.below b9).more (by omega)) (Hmx.out.below' b9)).mono ?_
            rintro e w10 ⟨rfl, hb10⟩
            have z10 := hb10.size
            have b10 := b9.trans (hb10.mono (by omega))
            have b810 := hb9.trans (hb10.mono z9)
            have cv1 := bty.conv (H8.out.below b810)
            have cv2 := bty.conv (Hb.out.below b10)
            go_wp2_with fail
            refine (S5.out w10 A8 c8 ((H8.out.below b810).more (by omega)) (Hmx.out.below' b10)).mono ?_
            rintro e w11 ⟨rfl, hb11⟩
            have bz := b10.trans (hb11.mono (by omega))
            go_wp2
            go_ret
            exact ⟨rfl, bz⟩
          · have hCf : C = false := by rw [Hcan.out]; simp [hXb]
            subst hCf
            have hne := (show (X == b) = false by simpa using hXb)
            go_wp2_with fail
            refine (S1.out w5 ((Hb.out.below b5).more z5)).mono ?_
            rintro e w6 ⟨A6, c6, rfl, hp6, hb6⟩
            have z6 := hb6.size
            have Hp6 := Lib.hid hp6.pl; clear hp6
            go_wp2_with fail
            refine (S2.out w6 A6 c6 Hp6.out).mono ?_
            rintro e w7 ⟨A7, c7, rfl, hp7, hb7⟩
            have z7 := hb7.size
            have Hp7 := Lib.hid hp7; clear hp7
            have b7 := (b5.trans (hb6.mono z5)).trans (hb7.mono (by omega))
            go_wp2_with fail
            refine (S3.out w7 A7 c7 Hp7.out (Hmx.out.below' b7)).mono ?_
            rintro e w8 ⟨A8, c8, rfl, hown8, hb8⟩
            have z8 := hb8.size
            have H8 := Lib.hid hown8.rb; clear hown8
            go_wp2_with fail
            refine (alive_c _).mono ?_
            rintro e w9 ⟨rfl, hb9⟩
            have z9 := hb9.size
            have b9 := (b7.trans (hb8.mono (by omega))).trans (hb9.mono (by omega))
            go_wp2_with fail
            refine (S4.out w9 ((Hb.out.below b9).more (by omega)) (Hmx.out.below' b9)).mono ?_
            rintro e w10 ⟨rfl, hb10⟩
            have z10 := hb10.size
            have b10 := b9.trans (hb10.mono (by omega))
            have b810 := hb9.trans (hb10.mono z9)
            have cv1 := bty.conv (H8.out.below b810)
            have cv2 := bty.conv (Hb.out.below b10)
            go_wp2_with fail
            refine (S5.out w10 A8 c8 ((H8.out.below b810).more (by omega)) (Hmx.out.below' b10)).mono ?_
            rintro e w11 ⟨rfl, hb11⟩
            have bz := b10.trans (hb11.mono (by omega))
            go_wp2
            go_ret
            exact ⟨rfl, bz⟩
        all_goals
          have hCf : C = false := by rw [Hcan.out]; rfl
          subst hCf
          go_wp2_with fail
          refine (S1.out w5 ((Hb.out.below b5).more z5)).mono ?_
          rintro e w6 ⟨A6, c6, rfl, hp6, hb6⟩
          have z6 := hb6.size
          have Hp6 := Lib.hid hp6.pl; clear hp6
          go_wp2_with fail
          refine (S2.out w6 A6 c6 Hp6.out).mono ?_
          rintro e w7 ⟨A7, c7, rfl, hp7, hb7⟩
          have z7 := hb7.size
          have Hp7 := Lib.hid hp7; clear hp7
          have b7 := (b5.trans (hb6.mono z5)).trans (hb7.mono (by omega))
          go_wp2_with fail
          refine (S3.out w7 A7 c7 Hp7.out (Hmx.out.below' b7)).mono ?_
          rintro e w8 ⟨A8, c8, rfl, hown8, hb8⟩
          have z8 := hb8.size
          have H8 := Lib.hid hown8.rb; clear hown8
          go_wp2_with fail
          refine (alive_c _).mono ?_
          rintro e w9 ⟨rfl, hb9⟩
          have z9 := hb9.size
          have b9 := (b7.trans (hb8.mono (by omega))).trans (hb9.mono (by omega))
          go_wp2_with fail
          refine (S4.out w9 ((Hb.out.below b9).more (by omega)) (Hmx.out.below' b9)).mono ?_
          rintro e w10 ⟨rfl, hb10⟩
          have z10 := hb10.size
          have b10 := b9.trans (hb10.mono (by omega))
          have b810 := hb9.trans (hb10.mono z9)
          go_wp2_with fail
          refine (S5.out w10 A8 c8 ((H8.out.below b810).more (by omega)) (Hmx.out.below' b10)).mono ?_
          rintro e w11 ⟨rfl, hb11⟩
          have bz := b10.trans (hb11.mono (by omega))
          go_wp2
          go_ret
          exact ⟨rfl, bz⟩
  · have Hr := Lib.hid hr; have Hz := Lib.hid hz; have Ho := Lib.hid (decide_eq_false h1).symm; clear hr hz h1 hb hmx
    go_enter Tryd.func5, Tryd.ntmps5
    go_wp2_with fail
    refine (fewR_c A _ c _ l _ Hr.out Hz.out false Ho.out).mono ?_
    rintro e w1 ⟨rfl, rfl⟩
    go_wp2_with fail
    refine (alive_c _).mono ?_
    rintro e w2 ⟨rfl, hb2⟩
    go_wp2
    go_ret
    exact ⟨rfl, hb2⟩
end Go.Proofs.YtpjnkbfjnonkhaaDoor
