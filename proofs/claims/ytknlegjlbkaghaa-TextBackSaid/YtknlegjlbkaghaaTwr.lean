/-
  The walk of the law TextWrite.
-/
import Derived.Test.YtknlegjlbkaghaaX6
import Derived.Test.YtknlegjlbkaghaaFw
namespace Go.Proofs.Ytknlegjlbkaghaa
open Go.RowKit Go.Maps

theorem flat_w : ∀ r : List (List UInt8), r.flatten.length ≤ wR r
  | [] => Nat.le_refl _
  | s :: t => by have := flat_w t; simp only [wR, List.flatten_cons, List.length_append]; omega
theorem wr_w : ∀ l : List (List (List UInt8)), (Tm.wr l).length ≤ wL l + l.length
  | [] => Nat.le_refl _
  | r :: t => by
    have := wr_w t
    have := flat_w r
    rw [Tm.wr_cons]
    simp only [wL, List.length_append, List.length_cons]
    omega

set_option maxRecDepth 100000 in
set_option maxHeartbeats 2000000 in
theorem textWrite_walk (A : Option Addr) (n c : Nat) (l : List (List (List UInt8))) (w : World) (hr : RL w w.heap.size A n c l) (hz : ∀ r ∈ l, ∀ q ∈ r, q.length ≤ 140737488355328) :
    Calls Try.prog 5 #[.slice A n c] w fun e w' => e = .returned (.bool true) ∧ Below w.heap.size w w' := by
  by_cases h1 : wL l ≤ 2000 ∧ l.length ≤ 120
  · have hl := hr.len
    have hw := wr_w l
    obtain ⟨h11, h12⟩ := h1
    have hn : n ≤ 120 := by omega
    have hwz : (Tm.wr l).length ≤ 1000000 := by omega
    obtain ⟨X, hX⟩ : ∃ X, X = Tm.wrS l := ⟨_, rfl⟩
    have c1 : ∀ W, RL W W.heap.size A n c l → Calls Try.prog 19 #[.slice A n c] W (RetW W X) := fun W h => by rw [hX]; exact write_c A n c l W h (by omega) hwz
    have c2 : ∀ W, RL W W.heap.size A n c l → Calls Try.prog 20 #[.slice A n c] W (RetW W X) := fun W h => by rw [hX]; exact rwrite_c A n c l W h (by omega) hwz
    have Hr := Lib.hid hr; have Hz := Lib.hid hz; have Ho := Lib.hid (decide_eq_true (show wL l ≤ 2000 ∧ l.length ≤ 120 from ⟨h11, h12⟩)).symm; have C1 := Lib.hid c1; have C2 := Lib.hid c2
    clear hr hz hl hw hwz hX c1 c2 h11 h12
    go_enter Try.func5, Try.ntmps5
    go_wp2_with fail
    refine (fewR_c A n c _ l _ Hr.out Hz.out true Ho.out).mono ?_
    rintro e w1 ⟨rfl, rfl⟩
    go_wp2_with fail
    refine (C1.out _ Hr.out).mono ?_
    rintro e w1 ⟨A1, c1, rfl, hp1, hb1⟩
    have z1 := hb1.size
    have H1 := Lib.hid hp1; clear hp1
    go_wp2_with fail
    refine (C2.out _ ((Hr.out.below hb1).more z1)).mono ?_
    rintro e w2 ⟨A2, c2, rfl, hp2, hb2⟩
    have z2 := hb2.size
    have H2 := Lib.hid hp2; clear hp2
    go_wp2_with fail
    refine (alive_c _).mono ?_
    rintro e w3 ⟨rfl, hb3⟩
    have b13 : Below w1.heap.size w1 w3 := hb2.trans (hb3.mono z2)
    have cv1 := bty.conv (H1.out.rb.below b13)
    have cv2 := bty.conv (H2.out.rb.below hb3)
    have bz : Below w.heap.size w w3 := hb1.trans (b13.mono z1)
    go_wp2
    go_ret
    exact ⟨rfl, bz⟩
  · have Hr := Lib.hid hr; have Hz := Lib.hid hz; have Ho := Lib.hid (decide_eq_false h1).symm; clear hr hz h1
    go_enter Try.func5, Try.ntmps5
    go_wp2_with fail
    refine (fewR_c A n c _ l _ Hr.out Hz.out false Ho.out).mono ?_
    rintro e w1 ⟨rfl, rfl⟩
    go_wp2_with fail
    refine (alive_c _).mono ?_
    rintro e w2 ⟨rfl, hb2⟩
    go_wp2
    go_ret
    exact ⟨rfl, hb2⟩
end Go.Proofs.Ytknlegjlbkaghaa
