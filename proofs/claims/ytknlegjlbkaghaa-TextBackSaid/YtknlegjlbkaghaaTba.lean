/-
  The walk of the law TextBack.
-/
import Derived.Test.YtknlegjlbkaghaaTwr
namespace Go.Proofs.Ytknlegjlbkaghaa
open Go.RowKit Go.Maps

theorem rc_small' (l : List (Nat × List UInt8)) : ∀ r ∈ l.map Tm.rc, r.length ≤ 1000000 := fun r hr => by
  obtain ⟨q, hq, rfl⟩ := List.mem_map.1 hr
  simp [Tm.rc]
theorem oks_small {l : List (List (List UInt8))} (h : l.all Tm.ok = true) : ∀ r ∈ l, r.length ≤ 1000000 := fun r hr => by
  obtain ⟨s, rfl, _⟩ := Tm.ok_inv (List.all_eq_true.1 h r hr)
  simp

set_option maxRecDepth 100000 in
set_option maxHeartbeats 1000000 in
theorem textBack_big (A A' : Option Addr) (n c m d : Nat) (l : List (List (List UInt8))) (w : World) (hr : RL w w.heap.size A n c l) (hz : ∀ r ∈ l, ∀ q ∈ r, q.length ≤ 140737488355328) (hm : m ≤ 9223372036854775807) (h : ¬ (wL l ≤ 2000 ∧ l.length ≤ 120) ∨ 2000 < m) :
    Calls Try.prog 7 #[.slice A n c, .slice A' m d] w fun e w' => e = .returned (.bool true) ∧ Below w.heap.size w w' := by
  by_cases h1 : wL l ≤ 2000 ∧ l.length ≤ 120
  · have h2 : 2000 < m := h.resolve_left (fun q => q h1)
    have d2 : decide ((2000 : Int) < (m : Int)) = true := by simp; omega
    have Hr := Lib.hid hr; have Hz := Lib.hid hz; have Ho := Lib.hid (decide_eq_true h1).symm; clear hr hz h h1
    go_enter Try.func7, Try.ntmps7
    go_wp2_with fail
    refine (fewR_c A n c _ l _ Hr.out Hz.out true Ho.out).mono ?_
    rintro e w1 ⟨rfl, rfl⟩
    go_wp2_with fail
    refine (alive_c _).mono ?_
    rintro e w2 ⟨rfl, hb2⟩
    go_wp2
    go_ret
    exact ⟨rfl, hb2⟩
  · have Hr := Lib.hid hr; have Hz := Lib.hid hz; have Ho := Lib.hid (decide_eq_false h1).symm; clear hr hz h h1
    go_enter Try.func7, Try.ntmps7
    go_wp2_with fail
    refine (fewR_c A n c _ l _ Hr.out Hz.out false Ho.out).mono ?_
    rintro e w1 ⟨rfl, rfl⟩
    go_wp2_with fail
    refine (alive_c _).mono ?_
    rintro e w2 ⟨rfl, hb2⟩
    go_wp2
    go_ret
    exact ⟨rfl, hb2⟩

/-- What the second half needs of the bytes b: its lines P, what they write, whether b is canonical. -/
structure Sec (b : List UInt8) (P : List (Nat × List UInt8)) (X : List UInt8) (x : Nat) (C : Bool) : Prop where
  scan : ∀ W A c, Rb W W.heap.size A b.length c b → Calls Try.prog 10 #[.slice A b.length c] W fun e w' => ∃ A c, e = .returned (.tuple #[.slice A P.length c, .int .i64 (b.length : Int), .int .i64 0]) ∧ PL w' w'.heap.size A P.length c (P.map Tm.pc) ∧ Below W.heap.size W w'
  all : ∀ W A c, PL W W.heap.size A P.length c (P.map Tm.pc) → Calls Try.prog 22 #[.slice A P.length c] W fun e w' => ∃ A c, e = .returned (.slice A P.length c) ∧ RL w' w'.heap.size A P.length c (P.map Tm.rc) ∧ Below W.heap.size W w'
  write : ∀ W A c, RL W W.heap.size A P.length c (P.map Tm.rc) → Calls Try.prog 19 #[.slice A P.length c] W (RetW W (X, x))
  canon : ∀ W A c B, Rb W B A b.length c b → Calls Try.prog 13 #[.slice A b.length c] W fun e w' => e = .returned (.bool C) ∧ W = w'
theorem sec_of (b : List UInt8) (h : b.length ≤ 2200) : ∃ P X x C, Sec b P X x C ∧ P = Tm.ls b ∧ (x = 10 ∨ x = 0 ∧ (C = true → X = b)) ∧ C = Tm.canon b := by
  have hw := Tm.wr_ls b
  have hl := Tm.ls_len b
  have hwl : (Tm.wr ((Tm.ls b).map Tm.rc)).length ≤ 1000000 := by
    rw [hw]
    split
    · omega
    · rw [List.length_append]; simp only [List.length_cons, List.length_nil]; omega
  refine ⟨Tm.ls b, (Tm.wrS ((Tm.ls b).map Tm.rc)).1, (Tm.wrS ((Tm.ls b).map Tm.rc)).2, Tm.canon b, ⟨fun W A c hr => ?_, fun W A c hr => ?_, fun W A c hr => ?_, fun W A c B hr => ?_⟩, rfl, ?_, rfl⟩
  · exact (scan_c A _ c _ W hr (by omega)).mono fun e w' hp => by
      obtain ⟨A1, c1, he, hp, hb⟩ := hp
      exact ⟨A1, c1, he, hp.pl, hb⟩
  · have q := rall_c A _ c ((Tm.ls b).map Tm.pc) W hr (by omega) (by rw [Tm.all_pc, List.length_map]; omega)
    rw [Tm.all_pc] at q
    exact q.mono fun e w' hp => by
      obtain ⟨A1, c1, he, hp, hb⟩ := hp
      rw [List.length_map] at he hp
      exact ⟨A1, c1, he, hp, hb⟩
  · exact write_c A _ c _ W hr (by omega) hwl
  · exact canon_c A _ c B b W hr (by omega) _ rfl
  · by_cases hok : ((Tm.ls b).map Tm.rc).all Tm.ok = true
    · rw [Tm.wrS_ok hok]
      refine .inr ⟨rfl, fun hC => ?_⟩
      show Tm.wr _ = b
      rw [hw, if_pos hC]
    · rw [Tm.wrS_err (by simpa using hok)]
      exact .inl rfl

set_option maxRecDepth 100000 in
set_option maxHeartbeats 4000000 in
theorem textBack_walk (A : Option Addr) (n c : Nat) (l : List (List (List UInt8))) (A' : Option Addr) (m d : Nat) (b : List UInt8) (w : World) (hr : RL w w.heap.size A n c l) (hz : ∀ r ∈ l, ∀ q ∈ r, q.length ≤ 140737488355328) (hb : Rb w w.heap.size A' m d b) :
    Calls Try.prog 7 #[.slice A n c, .slice A' m d] w fun e w' => e = .returned (.bool true) ∧ Below w.heap.size w w' := by
  obtain rfl := hb.len
  have hmax : b.length ≤ 9223372036854775807 := by have h2 := hb.2.1; have h3 := hb.2.2.1; unfold maxLen at h3; omega
  by_cases hbig : ¬ (wL l ≤ 2000 ∧ l.length ≤ 120) ∨ 2000 < b.length
  · exact textBack_big A A' n c _ d l w hr hz hmax hbig
  · have hfew : wL l ≤ 2000 ∧ l.length ≤ 120 := by
      by_cases h : wL l ≤ 2000 ∧ l.length ≤ 120
      · exact h
      · exact absurd (.inl h) hbig
    have hbl : b.length ≤ 2000 := by
      rcases Nat.lt_or_ge 2000 b.length with h | h
      · exact absurd (.inr h) hbig
      · exact h
    have d2 : decide ((2000 : Int) < (b.length : Int)) = false := by simp; omega
    have hln := hr.len
    have hw := wr_w l
    obtain ⟨h11, h12⟩ := hfew
    have hn : n ≤ 120 := by omega
    have hwz : (Tm.wr l).length ≤ 2120 := by omega
    have Ho := Lib.hid (decide_eq_true (show wL l ≤ 2000 ∧ l.length ≤ 120 from ⟨h11, h12⟩)).symm
    have hw1 := fun W => fun (h : RL W W.heap.size A n c l) => write_c A n c l W h (by omega) (by omega)
    have Hr := Lib.hid hr; have Hz := Lib.hid hz; have Hb := Lib.hid hb; have Hln := Lib.hid hln
    obtain ⟨P2, X2, x2, C2, hsec2, hP2, hx2, hC2⟩ := sec_of b (by omega)
    clear hC2
    have hP2l : P2.length ≤ 2000 := by rw [hP2]; have := Tm.ls_len b; omega
    have Hsec2 := Lib.hid hsec2
    cases hok : l.all Tm.ok with
    | true =>
      rw [Tm.wrS_ok hok] at hw1
      obtain ⟨P1, X1, x1, C1, hsec1, hP1, _, hC1⟩ := sec_of (Tm.wr l) (by omega)
      obtain rfl : C1 = true := by rw [hC1]; exact Tm.canon_wr l
      have hall : P1.map Tm.rc = l := by rw [hP1]; exact Tm.ls_wr l 0 hok
      have hPl : P1.length = n := by have := congrArg List.length hall; rw [List.length_map] at this; omega
      have hall1 : ∀ W A c, PL W W.heap.size A P1.length c (P1.map Tm.pc) → Calls Try.prog 22 #[.slice A P1.length c] W fun e w' => ∃ A c, e = .returned (.slice A n c) ∧ RL w' w'.heap.size A n c l ∧ Below W.heap.size W w' := fun W A c h => (hsec1.all W A c h).mono fun e w' hp => by
        rw [hall, hPl] at hp
        exact hp
      have hsm := oks_small hok
      obtain ⟨T, hT⟩ : ∃ T, T = Tm.wr l := ⟨_, rfl⟩
      rw [← hT] at hw1 hsec1 hwz
      have Hw1 := Lib.hid hw1; have Hsc1 := Lib.hid hsec1.scan; have Hca1 := Lib.hid hsec1.canon; have Hal1 := Lib.hid hall1; have Hsm := Lib.hid hsm
      clear hr hz hb hln hw hw1 hsec1 hsec2 hP1 hP2 hC1 hall hall1 hPl hok hT hsm h11 h12 hbig
      rcases hx2 with rfl | ⟨rfl, hXb⟩
      · go_enter Try.func7, Try.ntmps7
        go_wp2_with fail
        refine (fewR_c A n c _ l _ Hr.out Hz.out true Ho.out).mono ?_
        rintro e w1 ⟨rfl, rfl⟩
        go_wp2_with fail
        refine (Hw1.out _ Hr.out).mono ?_
        rintro e w1 ⟨A1, c1, rfl, hown1, hb1⟩
        have z1 := hb1.size
        have Hown1 := Lib.hid hown1; clear hown1
        go_wp2_with fail
        refine (Hsc1.out _ _ _ Hown1.out.rb).mono ?_
        rintro e w2 ⟨A2, c2, rfl, hp2, hb2⟩
        have z2 := hb2.size
        have Hp2 := Lib.hid hp2; clear hp2
        go_wp2_with fail
        refine (Hca1.out _ _ _ _ (Hown1.out.rb.below hb2)).mono ?_
        rintro e w3 ⟨rfl, rfl⟩
        go_wp2_with fail
        refine (Hal1.out _ _ _ Hp2.out).mono ?_
        rintro e w3 ⟨A3, c3, rfl, hp3, hb3⟩
        have z3 := hb3.size
        have b13 : Below w.heap.size w w3 := hb1.trans ((hb2.trans (hb3.mono z2)).mono z1)
        have hr3 := (Hr.out.below b13).more (show w.heap.size ≤ w3.heap.size by omega)
        have Hr3 := Lib.hid hr3; have Hp3 := Lib.hid hp3; clear hr3 hp3
        go_wp2_with fail
        refine (recs_c A3 A n c3 c l _ Hp3.out Hr3.out (by omega) Hsm.out).mono ?_
        rintro e w4 ⟨rfl, q, rfl⟩
        have bs : Below w.heap.size w (w3.drewN q) := below_drewN b13 q
        obtain ⟨W, hW⟩ : ∃ W, W = w3.drewN q := ⟨_, rfl⟩
        rw [← hW] at bs ⊢
        have zs := bs.size
        clear hW hb1 hb2 hb3 b13 z1 z2 z3
        go_wp2_with fail
        refine (Hsec2.out.scan _ _ _ ((Hb.out.below bs).more zs)).mono ?_
        rintro e w5 ⟨A5, c5, rfl, hp5, hb5⟩
        have z5 := hb5.size
        have Hp5 := Lib.hid hp5; clear hp5
        go_wp2_with fail
        refine (Hsec2.out.all _ _ _ Hp5.out).mono ?_
        rintro e w6 ⟨A6, c6, rfl, hp6, hb6⟩
        have z6 := hb6.size
        have Hp6 := Lib.hid hp6; clear hp6
        go_wp2_with fail
        refine (Hsec2.out.write _ _ _ Hp6.out).mono ?_
        rintro e w7 ⟨A7, c7, rfl, hown7, hb7⟩
        have z7 := hb7.size
        have Hown7 := Lib.hid hown7; clear hown7
        go_wp2_with fail
        refine (alive_c _).mono ?_
        rintro e w8 ⟨rfl, hb8⟩
        have z8 := hb8.size
        have bz : Below w.heap.size w w8 := (((bs.trans (hb5.mono zs)).trans (hb6.mono (by omega))).trans (hb7.mono (by omega))).trans (hb8.mono (by omega))
        go_wp2
        go_ret
        exact ⟨rfl, bz⟩
      · go_enter Try.func7, Try.ntmps7
        go_wp2_with fail
        refine (fewR_c A n c _ l _ Hr.out Hz.out true Ho.out).mono ?_
        rintro e w1 ⟨rfl, rfl⟩
        go_wp2_with fail
        refine (Hw1.out _ Hr.out).mono ?_
        rintro e w1 ⟨A1, c1, rfl, hown1, hb1⟩
        have z1 := hb1.size
        have Hown1 := Lib.hid hown1; clear hown1
        go_wp2_with fail
        refine (Hsc1.out _ _ _ Hown1.out.rb).mono ?_
        rintro e w2 ⟨A2, c2, rfl, hp2, hb2⟩
        have z2 := hb2.size
        have Hp2 := Lib.hid hp2; clear hp2
        go_wp2_with fail
        refine (Hca1.out _ _ _ _ (Hown1.out.rb.below hb2)).mono ?_
        rintro e w3 ⟨rfl, rfl⟩
        go_wp2_with fail
        refine (Hal1.out _ _ _ Hp2.out).mono ?_
        rintro e w3 ⟨A3, c3, rfl, hp3, hb3⟩
        have z3 := hb3.size
        have b13 : Below w.heap.size w w3 := hb1.trans ((hb2.trans (hb3.mono z2)).mono z1)
        have hr3 := (Hr.out.below b13).more (show w.heap.size ≤ w3.heap.size by omega)
        have Hr3 := Lib.hid hr3; have Hp3 := Lib.hid hp3; clear hr3 hp3
        go_wp2_with fail
        refine (recs_c A3 A n c3 c l _ Hp3.out Hr3.out (by omega) Hsm.out).mono ?_
        rintro e w4 ⟨rfl, q, rfl⟩
        have bs : Below w.heap.size w (w3.drewN q) := below_drewN b13 q
        obtain ⟨W, hW⟩ : ∃ W, W = w3.drewN q := ⟨_, rfl⟩
        rw [← hW] at bs ⊢
        have zs := bs.size
        clear hW hb1 hb2 hb3 b13 z1 z2 z3
        go_wp2_with fail
        refine (Hsec2.out.scan _ _ _ ((Hb.out.below bs).more zs)).mono ?_
        rintro e w5 ⟨A5, c5, rfl, hp5, hb5⟩
        have z5 := hb5.size
        have Hp5 := Lib.hid hp5; clear hp5
        go_wp2_with fail
        refine (Hsec2.out.all _ _ _ Hp5.out).mono ?_
        rintro e w6 ⟨A6, c6, rfl, hp6, hb6⟩
        have z6 := hb6.size
        have Hp6 := Lib.hid hp6; clear hp6
        go_wp2_with fail
        refine (Hsec2.out.write _ _ _ Hp6.out).mono ?_
        rintro e w7 ⟨A7, c7, rfl, hown7, hb7⟩
        have z7 := hb7.size
        have Hown7 := Lib.hid hown7; clear hown7
        go_wp2_with fail
        refine (alive_c _).mono ?_
        rintro e w8 ⟨rfl, hb8⟩
        have z8 := hb8.size
        have bz : Below w.heap.size w w8 := (((bs.trans (hb5.mono zs)).trans (hb6.mono (by omega))).trans (hb7.mono (by omega))).trans (hb8.mono (by omega))
        have hrb := (Hb.out.below bz)
        have Hrb := Lib.hid hrb; clear hrb
        cases C2 with
        | false =>
          go_wp2_with fail
          refine (Hsec2.out.canon _ _ _ _ Hrb.out).mono ?_
          rintro e w9 ⟨rfl, rfl⟩
          go_wp2
          go_ret
          exact ⟨rfl, bz⟩
        | true =>
          obtain rfl := hXb rfl
          go_wp2_with fail
          refine (Hsec2.out.canon _ _ _ _ Hrb.out).mono ?_
          rintro e w9 ⟨rfl, rfl⟩
          have cv1 := bty.conv (Hown7.out.rb.below hb8)
          have cv2 := bty.conv Hrb.out
          go_wp2
          go_ret
          exact ⟨rfl, bz⟩
    | false =>
      rw [Tm.wrS_err hok] at hw1
      have Hw1 := Lib.hid hw1
      clear hr hz hb hln hw hw1 hsec2 hP2 hok hwz h11 h12 hbig
      rcases hx2 with rfl | ⟨rfl, hXb⟩
      · go_enter Try.func7, Try.ntmps7
        go_wp2_with fail
        refine (fewR_c A n c _ l _ Hr.out Hz.out true Ho.out).mono ?_
        rintro e w1 ⟨rfl, rfl⟩
        go_wp2_with fail
        refine (Hw1.out _ Hr.out).mono ?_
        rintro e w1 ⟨A1, c1, rfl, hown1, hb1⟩
        have z1 := hb1.size
        have Hown1 := Lib.hid hown1; clear hown1
        have bs : Below w.heap.size w w1 := hb1
        obtain ⟨W, hW⟩ : ∃ W, W = w1 := ⟨_, rfl⟩
        rw [← hW] at bs ⊢
        have zs := bs.size
        clear hW hb1 z1 Hown1
        go_wp2_with fail
        refine (Hsec2.out.scan _ _ _ ((Hb.out.below bs).more zs)).mono ?_
        rintro e w5 ⟨A5, c5, rfl, hp5, hb5⟩
        have z5 := hb5.size
        have Hp5 := Lib.hid hp5; clear hp5
        go_wp2_with fail
        refine (Hsec2.out.all _ _ _ Hp5.out).mono ?_
        rintro e w6 ⟨A6, c6, rfl, hp6, hb6⟩
        have z6 := hb6.size
        have Hp6 := Lib.hid hp6; clear hp6
        go_wp2_with fail
        refine (Hsec2.out.write _ _ _ Hp6.out).mono ?_
        rintro e w7 ⟨A7, c7, rfl, hown7, hb7⟩
        have z7 := hb7.size
        have Hown7 := Lib.hid hown7; clear hown7
        go_wp2_with fail
        refine (alive_c _).mono ?_
        rintro e w8 ⟨rfl, hb8⟩
        have z8 := hb8.size
        have bz : Below w.heap.size w w8 := (((bs.trans (hb5.mono zs)).trans (hb6.mono (by omega))).trans (hb7.mono (by omega))).trans (hb8.mono (by omega))
        go_wp2
        go_ret
        exact ⟨rfl, bz⟩
      · go_enter Try.func7, Try.ntmps7
        go_wp2_with fail
        refine (fewR_c A n c _ l _ Hr.out Hz.out true Ho.out).mono ?_
        rintro e w1 ⟨rfl, rfl⟩
        go_wp2_with fail
        refine (Hw1.out _ Hr.out).mono ?_
        rintro e w1 ⟨A1, c1, rfl, hown1, hb1⟩
        have z1 := hb1.size
        have Hown1 := Lib.hid hown1; clear hown1
        have bs : Below w.heap.size w w1 := hb1
        obtain ⟨W, hW⟩ : ∃ W, W = w1 := ⟨_, rfl⟩
        rw [← hW] at bs ⊢
        have zs := bs.size
        clear hW hb1 z1 Hown1
        go_wp2_with fail
        refine (Hsec2.out.scan _ _ _ ((Hb.out.below bs).more zs)).mono ?_
        rintro e w5 ⟨A5, c5, rfl, hp5, hb5⟩
        have z5 := hb5.size
        have Hp5 := Lib.hid hp5; clear hp5
        go_wp2_with fail
        refine (Hsec2.out.all _ _ _ Hp5.out).mono ?_
        rintro e w6 ⟨A6, c6, rfl, hp6, hb6⟩
        have z6 := hb6.size
        have Hp6 := Lib.hid hp6; clear hp6
        go_wp2_with fail
        refine (Hsec2.out.write _ _ _ Hp6.out).mono ?_
        rintro e w7 ⟨A7, c7, rfl, hown7, hb7⟩
        have z7 := hb7.size
        have Hown7 := Lib.hid hown7; clear hown7
        go_wp2_with fail
        refine (alive_c _).mono ?_
        rintro e w8 ⟨rfl, hb8⟩
        have z8 := hb8.size
        have bz : Below w.heap.size w w8 := (((bs.trans (hb5.mono zs)).trans (hb6.mono (by omega))).trans (hb7.mono (by omega))).trans (hb8.mono (by omega))
        have hrb := (Hb.out.below bz)
        have Hrb := Lib.hid hrb; clear hrb
        cases C2 with
        | false =>
          go_wp2_with fail
          refine (Hsec2.out.canon _ _ _ _ Hrb.out).mono ?_
          rintro e w9 ⟨rfl, rfl⟩
          go_wp2
          go_ret
          exact ⟨rfl, bz⟩
        | true =>
          obtain rfl := hXb rfl
          go_wp2_with fail
          refine (Hsec2.out.canon _ _ _ _ Hrb.out).mono ?_
          rintro e w9 ⟨rfl, rfl⟩
          have cv1 := bty.conv (Hown7.out.rb.below hb8)
          have cv2 := bty.conv Hrb.out
          go_wp2
          go_ret
          exact ⟨rfl, bz⟩
end Go.Proofs.Ytknlegjlbkaghaa
