/-
  The walk of the law FixedWrite.
-/
import Derived.Test.YtjdmpnonjlffaaaYb
import Derived.Test.YtjdmpnonjlffaaaFw
namespace Go.Proofs.Ytjdmpnonjlffaaa
open Go.RowKit Go.Maps

theorem flat_w : ∀ r : List (List UInt8), r.flatten.length ≤ wR r
  | [] => Nat.le_refl _
  | s :: t => by have := flat_w t; simp only [wR, List.flatten_cons, List.length_append]; omega
theorem wr_w : ∀ l : List (List (List UInt8)), (Fx.wr l).length ≤ wL l
  | [] => Nat.le_refl _
  | r :: t => by
    have h1 := wr_w t
    have h2 := flat_w r
    have e : Fx.wr (r :: t) = r.flatten ++ Fx.wr t := by simp [Fx.wr]
    rw [e]
    simp only [wL, List.length_append]
    omega

set_option maxRecDepth 100000 in
set_option maxHeartbeats 2000000 in
theorem fixedWrite_walk (A : Option Addr) (n c : Nat) (l : List (List (List UInt8))) (k : Int) (w : World) (hr : RL w w.heap.size A n c l) (hz : ∀ r ∈ l, ∀ q ∈ r, q.length ≤ 140737488355328) (_hk : I64 k) :
    Calls Try.prog 5 #[.slice A n c, .int .i64 k] w fun e w' => e = .returned (.bool true) ∧ Below w.heap.size w w' := by
  by_cases h1 : wL l ≤ 3000 ∧ (l.length : Int) ≤ 120
  · have hl := hr.len
    have hw := wr_w l
    have hn : n ≤ 1000000 := by omega
    obtain ⟨X, E, hX, _⟩ := write_any l k (by omega)
    have Hr := Lib.hid hr; have Hz := Lib.hid hz; have Ho := Lib.hid (decide_eq_true h1).symm; have HX := Lib.hid hX
    clear hr hz hl hw hX h1
    go_enter Try.func5, Try.ntmps5
    go_wp2_with fail
    refine (fewR_c A n c _ l _ Hr.out Hz.out 120 true Ho.out).mono ?_
    rintro e w1 ⟨rfl, rfl⟩
    go_wp2_with fail
    refine (HX.out.write _ _ _ _ Hr.out hn).mono ?_
    rintro e w1 ⟨A1, c1, rfl, hp1, hb1⟩
    have z1 := hb1.size
    have H1 := Lib.hid hp1; clear hp1
    go_wp2_with fail
    refine (HX.out.rwrite _ _ _ _ ((Hr.out.below hb1).more z1) hn).mono ?_
    rintro e w2 ⟨A2, c2, rfl, hp2, hb2⟩
    have z2 := hb2.size
    have H2 := Lib.hid hp2; clear hp2
    go_wp2_with fail
    refine (alive_c _).mono ?_
    rintro e w3 ⟨rfl, hb3⟩
    have b13 : Below w1.heap.size w1 w3 := hb2.trans (hb3.mono z2)
    have cv1 := bty.conv (H1.out.rb.below b13)
    have cv2 := bty.conv (H2.out.rb.below hb3)
    have bz : Below w.heap.size w w3 := hb1.trans (b13.mono z1)
    go_wp2
    go_ret
    exact ⟨rfl, bz⟩
  · have Hr := Lib.hid hr; have Hz := Lib.hid hz; have Ho := Lib.hid (decide_eq_false h1).symm; clear hr hz h1
    go_enter Try.func5, Try.ntmps5
    go_wp2_with fail
    refine (fewR_c A n c _ l _ Hr.out Hz.out 120 false Ho.out).mono ?_
    rintro e w1 ⟨rfl, rfl⟩
    go_wp2_with fail
    refine (alive_c _).mono ?_
    rintro e w2 ⟨rfl, hb2⟩
    go_wp2
    go_ret
    exact ⟨rfl, hb2⟩
end Go.Proofs.Ytjdmpnonjlffaaa
