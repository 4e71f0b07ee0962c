/-
  The walk of the law ChestWrite.
-/
import Derived.Test.YtplkjljhpmldfaaJ42
import Derived.Test.YtplkjljhpmldfaaJ43
import Derived.Test.YtplkjljhpmldfaaJ12
namespace Go.Proofs.Ytplkjljhpmldfaa
open Go.RowKit

theorem rl_cap {w : World} {B n c : Nat} {A : Option Addr} {l : Rcs} (h : RL w B A n c l) : n ≤ c := by
  obtain ⟨vs, h1, _⟩ := h
  exact h1.2.1

set_option maxRecDepth 100000 in
set_option maxHeartbeats 2000000 in
theorem chestWrite_walk (A : Option Addr) (n c : Nat) (l : List (List (List UInt8))) (w : World) (hr : RL w w.heap.size A n c l) (hz : ∀ r ∈ l, ∀ q ∈ r, q.length ≤ 140737488355328) :
    Calls Try.prog 4 #[.slice A n c] w fun e w' => e = .returned (.bool true) ∧ Below w.heap.size w w' := by
  by_cases h1 : wL l ≤ 1500 ∧ l.length ≤ 40
  · have hf : Hm.Few l := h1
    have hnc := rl_cap hr
    obtain ⟨X, hX⟩ : ∃ X, X = Hm.wrS l := ⟨_, rfl⟩
    have c1 : ∀ W, RL W W.heap.size A n c l → Calls Try.prog 14 #[.slice A n c] W (RetW W X) := fun W h => by rw [hX]; exact write_c A n c l W h hf hnc
    have c2 : ∀ W, RL W W.heap.size A n c l → Calls Try.prog 15 #[.slice A n c] W (RetW W X) := fun W h => by rw [hX]; exact rwrite_c A n c l W h hf
    have Hr := Lib.hid hr; have Hz := Lib.hid hz; have Ho := Lib.hid (decide_eq_true h1).symm; have C1 := Lib.hid c1; have C2 := Lib.hid c2
    clear hr hz hX c1 c2 h1 hf hnc
    go_enter Try.func4, Try.ntmps4
    go_wp2_with fail
    refine (fewR_c A n c _ l _ Hr.out Hz.out true Ho.out).mono ?_
    rintro e w1 ⟨rfl, rfl⟩
    go_wp2_with fail
    refine (C1.out _ Hr.out).mono ?_
    rintro e w1 ⟨A1, c1, rfl, hp1, hb1⟩
    have z1 := hb1.size
    have H1 := Lib.hid hp1; clear hp1
    go_wp2_with fail
    refine (C2.out _ ((Hr.out.below hb1).more z1)).mono ?_
    rintro e w2 ⟨A2, c2, rfl, hp2, hb2⟩
    have z2 := hb2.size
    have H2 := Lib.hid hp2; clear hp2
    go_wp2_with fail
    refine (alive_c _).mono ?_
    rintro e w3 ⟨rfl, hb3⟩
    have b13 : Below w1.heap.size w1 w3 := hb2.trans (hb3.mono z2)
    have cv1 := bty.conv (H1.out.rb.below b13)
    have cv2 := bty.conv (H2.out.rb.below hb3)
    have bz : Below w.heap.size w w3 := hb1.trans (b13.mono z1)
    go_wp2
    go_ret
    exact ⟨rfl, bz⟩
  · have Hr := Lib.hid hr; have Hz := Lib.hid hz; have Ho := Lib.hid (decide_eq_false h1).symm; clear hr hz h1
    go_enter Try.func4, Try.ntmps4
    go_wp2_with fail
    refine (fewR_c A n c _ l _ Hr.out Hz.out false Ho.out).mono ?_
    rintro e w1 ⟨rfl, rfl⟩
    go_wp2_with fail
    refine (alive_c _).mono ?_
    rintro e w2 ⟨rfl, hb2⟩
    go_wp2
    go_ret
    exact ⟨rfl, hb2⟩
end Go.Proofs.Ytplkjljhpmldfaa
