/-
  The walk of the law PlanWrite.
-/
import Derived.Test.YtknmhdkomjjneaaGreatDoorJW51
import Derived.Test.YtknmhdkomjjneaaGreatDoorJW35
import Derived.Test.YtknmhdkomjjneaaGreatDoorJW4
import Derived.Test.YtknmhdkomjjneaaGreatDoorJW6
import Derived.Test.YtknmhdkomjjneaaGreatDoorJW38
import Derived.Test.YtknmhdkomjjneaaGreatDoorJW40
import Derived.Test.YtknmhdkomjjneaaGreatDoorJW24
import Derived.Lib.Hide
import Derived.BigQuiet
namespace Go.Proofs.YtknmhdkomjjneaaGreatDoor.Pl
open Go.RowKit

def FewP (l : List (List (List UInt8))) (n : Nat) (s i : Value) : Prop := ∃ k : Nat, i = .int .i64 (k : Int) ∧ k ≤ n ∧ s = .int .i64 (wL (l.take k) : Int) ∧ wL (l.take k) ≤ 1500
def FewQ (r : List (List UInt8)) (S m : Nat) (s i : Value) : Prop := ∃ j : Nat, i = .int .i64 (j : Int) ∧ j ≤ m ∧ s = .int .i64 ((S + wR (r.take j) : Nat) : Int) ∧ S + wR (r.take j) ≤ 1500

set_option maxRecDepth 100000 in
set_option maxHeartbeats 1500000 in
theorem fewS_c (A : Option Addr) (n c B : Nat) (l : List (List (List UInt8))) (w : World) (hr : RL w B A n c l) (hz : ∀ r ∈ l, ∀ q ∈ r, q.length ≤ 140737488355328) (N : Int) (o : Bool) (ho : o = decide (wL l ≤ 1500 ∧ (l.length : Int) ≤ N)) :
    Calls Tryz.prog 24 #[.slice A n c, .int .i64 N, .int .i64 1500] w fun e w' => e = .returned (.bool o) ∧ w = w' := by
  have hl := hr.len
  have hn : n ≤ 9223372036854775807 := by obtain ⟨vs, h1, _⟩ := hr; have h2 := h1.2.1; have h3 := h1.2.2.1; unfold maxLen at h3; omega
  have Hr := Lib.hid hr; have Hl := Lib.hid hl; have Hz := Lib.hid hz; have Ho := Lib.hid ho; clear hr hl hz ho
  go_enter Tryz.func24, Tryz.ntmps24
  go_wp2
  go_loop [7, 8] (fun s i => FewP l n s i) (fun _ i => n - (intOf i).toNat)
  case atStart => exact ⟨0, rfl, Nat.zero_le _, rfl, by simp [wL]⟩
  case round =>
    obtain ⟨k, rfl, hk, rfl, h4⟩ := hrel
    by_cases hlt : k < n
    · obtain ⟨b, off, D, m, d, r, rfl, hbB, hcell, hx, _, hrec⟩ := Hr.out.at_ hlt
      have hrl := lvs_num hrec
      have hm : m ≤ 9223372036854775807 := by have h2 := hrec.2.1; have h3 := hrec.2.2.1; unfold maxLen at h3; omega
      have hzr := Hz.out r (List.mem_of_getElem? hx)
      have hs := wL_snoc l k r hx
      have htk := wL_take l (k + 1)
      obtain ⟨S, hS⟩ : ∃ S, S = wL (l.take k) := ⟨_, rfl⟩
      rw [← hS] at hs h4 ⊢
      have Hrec := Lib.hid hrec; have Hrl := Lib.hid hrl; have Hzr := Lib.hid hzr; have Hs := Lib.hid hs; have Htk := Lib.hid htk; clear hrec hrl hzr hs htk hx hS
      go_wp2
      go_loop [7, 9] (fun s i => FewQ r S m s i) (fun _ i => m - (intOf i).toNat)
      case atStart => exact ⟨0, rfl, Nat.zero_le _, by simp [wR], by simp [wR]; exact h4⟩
      case round =>
        obtain ⟨j, rfl, hj, rfl, h5⟩ := hrel
        by_cases hjt : j < m
        · obtain ⟨b2, off2, x, rfl, hb2, hcx, hx, _⟩ := lvs_at Hrec.out hjt
          have hxl := Hzr.out x (List.mem_of_getElem? hx)
          have hs2 := wR_snoc r j x hx
          have htk2 := wR_take r (j + 1)
          obtain ⟨S2, hS2⟩ : ∃ S2, S2 = S + wR (r.take j) := ⟨_, rfl⟩
          rw [← hS2] at h5 ⊢
          have hs3 : S + wR (r.take (j + 1)) = S2 + 1 + x.length := by omega
          have Hs3 := Lib.hid hs3; have Htk2 := Lib.hid htk2; clear hs2 hs3 htk2 hx hS2
          by_cases hbig : (1500 : Int) < (S2 : Int) + 1 + (x.length : Int)
          · have ho' : o = false := by
              rw [Ho.out]
              have h1 := Hs3.out
              have h2 := Htk2.out
              have h3 := Hs.out
              have h4 := Htk.out
              exact decide_eq_false (by omega)
            subst ho'
            go_wp2
            go_ret
            exact ⟨rfl, rfl⟩
          · go_wp2
            go_round
            case rel => exact ⟨j + 1, by go_num, by omega, by rw [Hs3.out]; go_num, by have := Hs3.out; omega⟩
            case measure => simp [intOf]; omega
        · rw [List.take_of_length_le (by rw [Hrl.out]; omega)] at h5 ⊢
          have hs4 : wL (l.take (k + 1)) = S + wR r := Hs.out
          have Hs4 := Lib.hid hs4
          clear hs4
          go_wp2
          go_round
          case rel => exact ⟨k + 1, by go_num, by omega, by rw [Hs4.out], by rw [Hs4.out]; exact h5⟩
          case measure => simp [intOf]; omega
    · rw [List.take_of_length_le (by rw [Hl.out]; omega)] at h4 ⊢
      by_cases h120 : (n : Int) ≤ N
      · have ho' : o = true := by
          rw [Ho.out]
          have := Hl.out
          exact decide_eq_true ⟨h4, by omega⟩
        subst ho'
        have hd : decide ((n : Int) ≤ N) = true := by simp; omega
        go_wp2
        go_ret
        exact ⟨by first | rfl | (show Ending.returned (.bool (decide ((n : Int) ≤ N))) = _; rw [hd]), rfl⟩
      · have ho' : o = false := by
          rw [Ho.out]
          have := Hl.out
          exact decide_eq_false (by omega)
        subst ho'
        have hd : decide ((n : Int) ≤ N) = false := by simp; omega
        go_wp2
        go_ret
        exact ⟨rfl, rfl⟩

structure Wr2 (f k : Int) (A : Option Addr) (n c : Nat) (L : List (List (List UInt8))) (X : List UInt8) (N x : Nat) : Prop where
  len : X.length = N
  write : ∀ W, RL W W.heap.size A n c L → Sq.Mx W → Calls Tryz.prog 25 #[.slice A n c, .int .i64 f, .int .i64 k] W fun e w' => ∃ A c, e = .returned (.tuple #[.slice A N c, .int .i64 (x : Int)]) ∧ Rb w' w'.heap.size A N c X ∧ Below W.heap.size W w'
  rwrite : ∀ W, RL W W.heap.size A n c L → Calls Tryz.prog 26 #[.slice A n c, .int .i64 f, .int .i64 k] W fun e w' => ∃ A c, e = .returned (.tuple #[.slice A N c, .int .i64 (x : Int)]) ∧ Rb w' w'.heap.size A N c X ∧ Below W.heap.size W w'
  back : x = 0 → ∃ P : List (Nat × List (List (List UInt8))), P.length ≤ 1000000 ∧ Tm.all P = L ∧ ∀ W A c, Rb W W.heap.size A N c X → Sq.Mx W → Calls Tryz.prog 8 #[flv f k A N c] W fun e w' => ∃ A c, e = .returned (.tuple #[.slice A P.length c, .int .i64 (N : Int), .int .i64 0]) ∧ PL w' w'.heap.size A P.length c P ∧ Below W.heap.size W w'
theorem wr2_ex (f k : Int) (A : Option Addr) (n c : Nat) (L : List (List (List UInt8))) (hL : Few6 L) : ∃ X N x, Wr2 f k A n c L X N x := by
  cases hF : isF f k with
  | false =>
    exact ⟨[], 0, 1, rfl, fun W _ _ => write_err f k A n c W hF, fun W _ => rwrite_err f k A n c W hF, fun h => (by cases h)⟩
  | true =>
    refine ⟨(wrF f k L).1, (wrF f k L).1.length, (wrF f k L).2, rfl, fun W hr hx => write_ok f k A n c L W hr hL hF hx, fun W hr => rwrite_ok f k A n c L W hr hL hF, fun h => ?_⟩
    obtain ⟨P, hP, hall, h9⟩ := wrF_back hF hL h
    have hasc := asc_F hF (wrF f k L).1
    rw [hP] at hasc
    change Asc 0 _ (P.map (·.1)) at hasc
    have hPl : P.length ≤ 1000000 := by
      rcases asc_len hasc with h | h
      · rw [List.length_map] at h; omega
      · have := congrArg List.length h; rw [List.length_map] at this; rw [this]; simp
    refine ⟨P, hPl, hall, fun W A c hr hx => ?_⟩
    have h1 := scan_ok f k A _ c _ W hr h9 hF hx
    rw [hP] at h1
    exact h1.mono fun e w' ⟨A1, c1, h0, h1, h2⟩ => ⟨A1, c1, h0, h1.keep (stays_weak fr_lt), h2⟩

end Go.Proofs.YtknmhdkomjjneaaGreatDoor.Pl
namespace Go.Proofs.YtknmhdkomjjneaaGreatDoor
open Go.RowKit Pl

set_option maxRecDepth 100000 in
set_option maxHeartbeats 2000000 in
theorem planWrite_walk (A : Option Addr) (n c : Nat) (l : List (List (List UInt8))) (f k : Int) (w : World) (hr : RL w w.heap.size A n c l) (hz : ∀ r ∈ l, ∀ q ∈ r, q.length ≤ 140737488355328) (_ : I64 f) (_ : I64 k) (hx : Sq.Mx w) :
    Calls Tryz.prog 5 #[.slice A n c, .int .i64 f, .int .i64 k] w fun e w' => e = .returned (.bool true) ∧ Below w.heap.size w w' := by
  by_cases h1 : wL l ≤ 1500 ∧ (l.length : Int) ≤ 60
  · have hl := hr.len
    have hL : Few6 l := ⟨h1.1, by omega⟩
    obtain ⟨X, N, x, hlen, hwr, hrw, hbk⟩ := wr2_ex f k A n c l hL
    have hrs : ∀ r ∈ l, r.length ≤ 1000000 := fun r hr => by
      have q1 := wL_mem l r hr
      have q2 := wR_len r
      have := h1.1
      omega
    have Hr := Lib.hid hr; have Hz := Lib.hid hz; have Ho := Lib.hid (decide_eq_true h1).symm; have Hwr := Lib.hid hwr; have Hrw := Lib.hid hrw; have Hbk := Lib.hid hbk; have Hx := Lib.hid hx; have Hl := Lib.hid hl; have HL := Lib.hid hL; have Hrs := Lib.hid hrs
    clear hr hz hl hL hlen hwr hrw hbk hx h1 hrs
    go_enter Tryz.func5, Tryz.ntmps5
    go_wp2_with fail
    refine (fewS_c A n c _ l _ Hr.out Hz.out 60 true Ho.out).mono ?_
    rintro e w1 ⟨rfl, rfl⟩
    go_wp2_with fail
    refine (Hwr.out _ Hr.out Hx.out).mono ?_
    rintro e w1 ⟨A1, c1, rfl, hp1, hb1⟩
    have z1 := hb1.size
    have H1 := Lib.hid hp1; have B1 := Lib.hid hb1
    clear hp1 hb1
    go_wp2_with fail
    refine (Hrw.out _ (RLS.keep Hr.out (stays_below B1.out z1))).mono ?_
    rintro e w2 ⟨A2, c2, rfl, hp2, hb2⟩
    have z2 := hb2.size
    have h12 := (H1.out.below hb2).more (B' := w2.heap.size) z2
    have cv1 := bty.conv h12
    have cv2 := bty.conv hp2
    have b2 := B1.out.trans (hb2.mono z1)
    have hx2 := Hx.out.below b2 Hx.out.2
    have B2 := Lib.hid b2; have X2 := Lib.hid hx2; have H12 := Lib.hid h12
    clear hp2 hb2 h12 b2 hx2
    by_cases hx0 : x = 0
    · subst hx0
      obtain ⟨P, hPl, hall, hsc⟩ := Hbk.out rfl
      have Hall := Lib.hid hall; have Hsc := Lib.hid (hsc w2 A1 c1 H12.out X2.out)
      clear hall hsc
      go_wp2_with fail
      refine Hsc.out.mono ?_
      rintro e w3 ⟨A3, c3, rfl, hp3, hb3⟩
      have z3 := hb3.size
      have B3 := Lib.hid (B2.out.trans (hb3.mono (by omega))); have H3 := Lib.hid hp3
      clear hp3 hb3 cv1 cv2
      go_wp2_with fail
      refine (alive_c _ (Hx.out.below B3.out Hx.out.2)).mono ?_
      rintro e w4 ⟨rfl, hb4⟩
      have z4 := hb4.size
      have B4 := Lib.hid (B3.out.trans (hb4.mono (by omega)))
      have ha := rall_c A3 P.length c3 P w4 (PLS.keep H3.out (stays_below hb4 z4)) (by omega) (by rw [Hall.out]; have := HL.out.2; omega)
      rw [Hall.out] at ha
      have Ha := Lib.hid ha
      clear ha hb4
      go_wp2_with fail
      refine Ha.out.mono ?_
      rintro e w5 ⟨A5, c5, rfl, hp5, hb5⟩
      have z5 := hb5.size
      have B5 := Lib.hid (B4.out.trans (hb5.mono (by omega)))
      have hrl := RLS.keep Hr.out (stays_below B5.out (show w.heap.size ≤ w5.heap.size by omega))
      have hrc := recs_c A5 A l.length c5 c l w5 hp5 (by rw [Hl.out]; exact hrl) (by have := HL.out.2; omega) Hrs.out
      have Hrc := Lib.hid hrc
      clear hp5 hb5 hrl hrc
      go_wp2_with fail
      rw [← Hl.out]
      refine Hrc.out.mono ?_
      rintro e w6 ⟨rfl, q, rfl⟩
      have bb := below_drewN B5.out q
      go_wp2
      go_ret
      exact ⟨rfl, bb⟩
    · have d3 : ((x : Int) != 0) = true := by simpa using hx0
      clear hx0
      go_wp2_with fail
      refine (alive_c _ X2.out).mono ?_
      rintro e w3 ⟨rfl, hb3⟩
      have bb := B2.out.trans (hb3.mono (by omega))
      go_wp2
      go_ret
      exact ⟨rfl, bb⟩
  · have Hr := Lib.hid hr; have Hz := Lib.hid hz; have Ho := Lib.hid (decide_eq_false h1).symm; have Hx := Lib.hid hx; clear hr hz h1 hx
    go_enter Tryz.func5, Tryz.ntmps5
    go_wp2_with fail
    refine (fewS_c A n c _ l _ Hr.out Hz.out 60 false Ho.out).mono ?_
    rintro e w1 ⟨rfl, rfl⟩
    go_wp2_with fail
    refine (alive_c _ Hx.out).mono ?_
    rintro e w2 ⟨rfl, hb2⟩
    go_wp2
    go_ret
    exact ⟨rfl, hb2⟩
end Go.Proofs.YtknmhdkomjjneaaGreatDoor
