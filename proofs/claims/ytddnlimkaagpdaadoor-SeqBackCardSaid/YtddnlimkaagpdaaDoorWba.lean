/-
  The walk of the law SeqBack.
-/
import Derived.Test.YtddnlimkaagpdaaDoorVb
import Derived.Test.YtddnlimkaagpdaaDoorFw
namespace Go.Proofs.YtddnlimkaagpdaaDoor
open Go.RowKit

theorem few_weak {l : List (List (List UInt8))} (h : wL l ≤ 3000) : ∀ r ∈ l, r.length ≤ 1000000 := fun r hr => by
  have h1 := wL_mem l r hr
  have h2 := wR_len r
  omega

set_option maxRecDepth 100000 in
set_option maxHeartbeats 4000000 in
theorem seqBack_walk (A : Option Addr) (n c : Nat) (l : List (List (List UInt8))) (A' : Option Addr) (m d : Nat) (b : List UInt8) (w : World) (hr : RL w w.heap.size A n c l) (hz : ∀ r ∈ l, ∀ q ∈ r, q.length ≤ 140737488355328) (hb : Rb w w.heap.size A' m d b) (hx : Mx w) :
    Calls Tryd.prog 6 #[.slice A n c, .slice A' m d] w fun e w' => e = .returned (.bool true) ∧ Below w.heap.size w w' := by
  obtain rfl := hb.len
  obtain rfl := hr.len
  have hmax : b.length ≤ 9223372036854775807 := by have h2 := hb.2.1; have h3 := hb.2.2.1; unfold maxLen at h3; omega
  have hmax2 : l.length ≤ 9223372036854775807 := by obtain ⟨vs, h1, _⟩ := hr; have h2 := h1.2.1; have h3 := h1.2.2.1; unfold maxLen at h3; omega
  by_cases h1 : wL l ≤ 3000 ∧ l.length ≤ 120
  · by_cases h2 : 3000 < b.length
    · have d2 : (3000 : Int) < (b.length : Int) := by omega
      have Hr := Lib.hid hr; have Hz := Lib.hid hz; have Hx := Lib.hid hx; have Ho := Lib.hid (decide_eq_true h1).symm; clear hr hz h1 hb hx
      go_enter Tryd.func6, Tryd.ntmps6
      go_wp2_with fail
      refine (fewR_c A _ c _ l _ Hr.out Hz.out true Ho.out).mono ?_
      rintro e w1 ⟨rfl, rfl⟩
      go_wp2_with fail
      refine (alive_c _ Hx.out).mono ?_
      rintro e w2 ⟨rfl, hb2⟩
      go_wp2
      go_ret
      exact ⟨rfl, hb2⟩
    · have d2 : ¬ (3000 : Int) < (b.length : Int) := by omega
      have hbn : b.length ≤ 3000 := by omega
      obtain ⟨hw3, h120⟩ := h1
      -- the second half
      obtain ⟨S, hS⟩ : ∃ S, S = Sm.esc b := ⟨_, rfl⟩
      have hSl : S.length ≤ 6000 := by rw [hS]; have := Sm.esc_len b; omega
      have hSm : Sm.nxt S (clamp 0 S.length) = S.length := by
        rw [show clamp 0 S.length = 0 from clamp_at 0 _ (Nat.zero_le _)]
        unfold Sm.nxt
        rw [List.drop_zero, Nat.zero_add, hS, Sm.mark_esc_nil]
      have hSu : unS S = (b, 0) := unS_some (by rw [hS]; exact Sm.une_back b)
      have s1 : ∀ W, Rb W W.heap.size A' b.length d b → Mx W → Calls Tryd.prog 19 #[.slice A' b.length d] W (RetB W.heap.size W S) := fun W h h2 => by rw [hS]; exact esc_c A' _ d b W h (by omega) h2
      have s2 : ∀ W A1 c1, Rb W W.heap.size A1 S.length c1 S → Calls Tryd.prog 17 #[.slice A1 S.length c1] W (RetE W.heap.size W (b, 0)) := fun W A1 c1 h => by rw [← hSu]; exact unesc_c A1 _ c1 S W h (by omega)
      have s3 : ∀ W A1 c1, Rb W W.heap.size A1 S.length c1 S → Mx W → Calls Tryd.prog 25 #[.slice A1 S.length c1, .int .i64 0] W fun e w' => e = .returned (.int .i64 (S.length : Int)) ∧ Below W.heap.size W w' := fun W A1 c1 h h2 => marker_c A1 _ c1 S 0 W h (by omega) h2 _ hSm.symm
      have t1 := write_c A _ c l w hr (by omega) (rl_capv hr) hx
      have hlz := few_weak hw3
      have S1 := Lib.hid s1; have S2 := Lib.hid s2; have S3 := Lib.hid s3; have Hlz := Lib.hid hlz; have Hr := Lib.hid hr; have Hz := Lib.hid hz; have Hb := Lib.hid hb; have Hx := Lib.hid hx; have Ho := Lib.hid (decide_eq_true (show wL l ≤ 3000 ∧ l.length ≤ 120 from ⟨hw3, h120⟩)).symm
      clear s1 s2 s3 hz hb hlz hS hSm hSu hr hx
      rcases Sm.wrS_cases l with ⟨hok, hs⟩ | ⟨hok, hs⟩
      case' inl =>
        rw [hs] at t1
        obtain ⟨L, hch, hps, hall, hLl, her⟩ := Sm.ps_wr l hok
        have hXl : (Sm.wr l).length ≤ 490000 := Sm.wr_len l hok h120
        have hcan : ∀ W A1 n c1, Rb W W.heap.size A1 n c1 (Sm.wr l) → Mx W → Calls Tryd.prog 24 #[.slice A1 n c1] W fun e w' => e = .returned (.bool true) ∧ Below W.heap.size W w' := fun W A1 n c1 h h2 => canon_c A1 n c1 l W h hok h120 h2
        have hsc : ∀ W A1 c1, Rb W W.heap.size A1 (Sm.wr l).length c1 (Sm.wr l) → Mx W → Calls Tryd.prog 21 #[.slice A1 (Sm.wr l).length c1] W fun e w' => ∃ A2 c2, e = .returned (.tuple #[.slice A2 L.length c2, .int .i64 ((Sm.wr l).length : Int), .int .i64 0]) ∧ PL w' w'.heap.size A2 L.length c2 (Sm.pcs (Sm.wr l) L) ∧ Below W.heap.size W w' := fun W A1 c1 h h2 => (scan_c A1 _ c1 _ W h (by omega) h2).mono fun e w' hp => by
          obtain ⟨A2, c2, he, hp, hb⟩ := hp
          have e1 : (Sm.pcs (Sm.wr l) L).length = L.length := by simp [Sm.pcs]
          rw [hps] at he hp
          rw [her] at he
          dsimp only at he hp
          rw [e1] at he hp
          exact ⟨A2, c2, he, hp.pl, hb⟩
        have hal : ∀ W A1 c1, PL W W.heap.size A1 L.length c1 (Sm.pcs (Sm.wr l) L) → Calls Tryd.prog 23 #[.slice A1 L.length c1] W (RetA W l) := fun W A1 c1 h => by
          have := rall_c A1 L.length c1 _ W h (by omega) (by rw [hall]; omega)
          rw [hall] at this; exact this
        obtain ⟨X, hX⟩ : ∃ X, X = Sm.wr l := ⟨_, rfl⟩
        rw [← hX] at t1 hXl hsc hal hcan
        obtain ⟨P, hP⟩ : ∃ P, P = Sm.pcs X L := ⟨_, rfl⟩
        rw [← hP] at hsc hal
        unfold RetW at t1; dsimp only at t1
        have T1 := Lib.hid t1; have T2 := Lib.hid hsc; have T3 := Lib.hid hcan; have T4 := Lib.hid hal; have hL41 : L.length ≤ 41 := by omega
        clear t1 hsc hcan hal hch hps hall her hX hP hs hok hLl
        go_enter Tryd.func6, Tryd.ntmps6
        go_wp2_with fail
        refine (fewR_c A _ c _ l _ Hr.out Hz.out true Ho.out).mono ?_
        rintro e w0 ⟨rfl, rfl⟩
        go_wp2_with fail
        refine T1.out.mono ?_
        rintro e w1 ⟨A1, c1, rfl, hw1, hb1⟩
        have z1 := hb1.size
        have H1 := Lib.hid hw1.1; have M1 := Lib.hid (Hx.out.below' hb1); clear hw1
        go_wp2_with fail
        refine (T2.out w1 A1 c1 H1.out M1.out).mono ?_
        rintro e w2 ⟨A2, c2, rfl, hp2, hb2⟩
        have z2 := hb2.size
        have Hp2 := Lib.hid hp2; clear hp2
        go_wp2_with fail
        refine (T3.out w2 A1 _ c1 ((H1.out.below hb2).more z2) (M1.out.below' hb2)).mono ?_
        rintro e w3 ⟨rfl, hb3⟩
        have z3 := hb3.size
        go_wp2_with fail
        refine (T4.out w3 A2 c2 ((Hp2.out.below hb3).more z3)).mono ?_
        rintro e w4 ⟨A4, c4, rfl, hp4, hb4⟩
        have z4 := hb4.size
        have Hp4 := Lib.hid hp4; clear hp4
        have b14 := (hb2.trans (hb3.mono z2)).trans (hb4.mono (by omega))
        have b4 := hb1.trans (b14.mono z1)
        go_wp2_with fail
        refine (recs_c A4 A _ c4 c l _ Hp4.out ((Hr.out.below b4).more (by omega)) (by omega) Hlz.out).mono ?_
        rintro e w5 ⟨rfl, q, hw5⟩
        have b5 : Below w.heap.size w w5 := by rw [hw5]; exact below_drewN b4 q
        clear hw5 b14 b4 hb1 hb2 hb3 hb4 z1 z2 z3 z4
      case' inr =>
        rw [hs] at t1
        have T1 := Lib.hid t1
        clear t1 hs hok
        go_enter Tryd.func6, Tryd.ntmps6
        go_wp2_with fail
        refine (fewR_c A _ c _ l _ Hr.out Hz.out true Ho.out).mono ?_
        rintro e w0 ⟨rfl, rfl⟩
        go_wp2_with fail
        refine T1.out.mono ?_
        rintro e w5 ⟨A1, c1, rfl, hw1, b5⟩
        clear hw1
      all_goals
        have z5 := b5.size
        go_wp2_with fail
        refine (S1.out w5 ((Hb.out.below b5).more z5) (Hx.out.below' b5)).mono ?_
        rintro e w6 ⟨A6, c6, rfl, hown6, hb6⟩
        have z6 := hb6.size
        have H6 := Lib.hid hown6.rb; clear hown6
        go_wp2_with fail
        refine (S2.out w6 A6 c6 H6.out).mono ?_
        rintro e w7 ⟨A7, c7, rfl, hown7, hb7⟩
        have z7 := hb7.size
        have H7 := Lib.hid hown7.rb; clear hown7
        have b7 := (b5.trans (hb6.mono z5)).trans (hb7.mono (by omega))
        go_wp2_with fail
        refine (alive_c _ (Hx.out.below' b7)).mono ?_
        rintro e w8 ⟨rfl, hb8⟩
        have z8 := hb8.size
        have b8 := b7.trans (hb8.mono (by omega))
        have cv1 := bty.conv (H7.out.below hb8)
        have cv2 := bty.conv (Hb.out.below b8)
        have q6 := ((H6.out.below (hb7.trans (hb8.mono z7))).more (show w6.heap.size ≤ w8.heap.size by omega))
        have hm8 := S3.out w8 A6 c6 q6 (Hx.out.below' b8)
        have Hm8 := Lib.hid hm8; clear hm8 q6
        go_wp2_with fail
        refine Hm8.out.mono ?_
        rintro e w9 ⟨rfl, hb9⟩
        have bz := b8.trans (hb9.mono (by omega))
        go_wp2
        go_ret
        exact ⟨rfl, bz⟩
  · have Hr := Lib.hid hr; have Hz := Lib.hid hz; have Hx := Lib.hid hx; have Ho := Lib.hid (decide_eq_false h1).symm; clear hr hz h1 hb hx
    go_enter Tryd.func6, Tryd.ntmps6
    go_wp2_with fail
    refine (fewR_c A _ c _ l _ Hr.out Hz.out false Ho.out).mono ?_
    rintro e w1 ⟨rfl, rfl⟩
    go_wp2_with fail
    refine (alive_c _ Hx.out).mono ?_
    rintro e w2 ⟨rfl, hb2⟩
    go_wp2
    go_ret
    exact ⟨rfl, hb2⟩
end Go.Proofs.YtddnlimkaagpdaaDoor
