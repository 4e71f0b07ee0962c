/-
  The walk of the law BundleWrite.
-/
import Derived.Test.YtdhbfoelpdoofaaQC
import Derived.Test.YtdhbfoelpdoofaaQD
import Derived.Test.YtdhbfoelpdoofaaFw
namespace Go.Proofs.Ytdhbfoelpdoofaa
open Go.RowKit

/-- Write, whatever is written. -/
theorem write_any (A : Option Addr) (n c : Nat) (l : List Bm.Rec) (w : World) (hr : RL w w.heap.size A n c l) (hz : ∀ r ∈ l, ∀ q ∈ r, q.length ≤ 140737488355328) (L : List UInt8) (x : Nat) (hL : Bm.wrS l = (L, x)) (k : Nat) (hk : L.length = k) :
    Calls Try.prog 8 #[.slice A n c] w fun e w' => ∃ A c, e = .returned (.tuple #[.slice A k c, .int .i64 (x : Int)]) ∧ (Own w' 5 w.heap.size A c L ∧ L.length = k) ∧ Below w.heap.size w w' := by
  by_cases h : l.length ≤ 1000 ∧ Bm.mayB [] l = true
  · rw [Bm.wrS_ok h.1 h.2] at hL
    injection hL with h1 h2
    subst h2
    exact write_ok A n c l w hr hz h.1 h.2 L h1.symm k hk
  · have h2 : Bm.wrS l = ([], 10) := if_neg h
    rw [h2] at hL
    injection hL with h3 h4
    subst h3 h4
    subst hk
    refine (write_no A n c l w hr hz ?_).mono fun e w' ⟨he, hw⟩ => ⟨none, 0, he, by rw [hw]; exact ⟨Own.nil _ _ _, rfl⟩, by rw [hw]; exact Below.refl _ _⟩
    by_cases h5 : l.length ≤ 1000
    · have h6 : Bm.mayB [] l = false := by
        cases hq : Bm.mayB [] l with
        | false => rfl
        | true => exact absurd ⟨h5, hq⟩ h
      rw [h6, Bool.and_false]
    · rw [decide_eq_false h5, Bool.false_and]

set_option maxRecDepth 100000 in
set_option maxHeartbeats 2000000 in
theorem bundleWrite_walk (A : Option Addr) (n c : Nat) (l : List (List (List UInt8))) (w : World) (hr : RL w w.heap.size A n c l) (hz : ∀ r ∈ l, ∀ q ∈ r, q.length ≤ 140737488355328) :
    Calls Try.prog 3 #[.slice A n c] w fun e w' => e = .returned (.bool true) ∧ Below w.heap.size w w' := by
  by_cases h1 : wL l ≤ 3000 ∧ (l.length : Int) ≤ 120
  · have hl := hr.len
    obtain ⟨L, x, hL⟩ : ∃ L x, Bm.wrS l = (L, x) := ⟨_, _, rfl⟩
    obtain ⟨k, hk⟩ : ∃ k, L.length = k := ⟨_, rfl⟩
    have hwr := fun W (hW : RL W W.heap.size A n c l) => write_any A n c l W hW hz L x hL k hk
    have hrw := fun W (hW : RL W W.heap.size A n c l) => rwrite_c A n c l W hW hz (by omega) L x hL k hk
    have Hr := Lib.hid hr; have Hz := Lib.hid hz; have Ho := Lib.hid (decide_eq_true h1).symm; have Hwr := Lib.hid hwr; have Hrw := Lib.hid hrw
    clear hr hz hl hL hk hwr hrw h1
    go_enter Try.func3, Try.ntmps3
    go_wp2_with fail
    refine (fewR_c A n c _ l _ Hr.out Hz.out 120 true Ho.out).mono ?_
    rintro e w1 ⟨rfl, rfl⟩
    go_wp2_with fail
    refine (Hwr.out _ Hr.out).mono ?_
    rintro e w1 ⟨A1, c1, rfl, hp1, hb1⟩
    have z1 := hb1.size
    have H1 := Lib.hid (Own.rbl hp1); clear hp1
    go_wp2_with fail
    refine (Hrw.out _ ((Hr.out.below hb1).more z1)).mono ?_
    rintro e w2 ⟨A2, c2, rfl, hp2, hb2⟩
    have z2 := hb2.size
    have H2 := Lib.hid (Own.rbl hp2); clear hp2
    go_wp2_with fail
    refine (alive_c _).mono ?_
    rintro e w3 ⟨rfl, hb3⟩
    have b13 : Below w1.heap.size w1 w3 := hb2.trans (hb3.mono z2)
    have cv1 := bty.conv (H1.out.below b13)
    have cv2 := bty.conv (H2.out.below hb3)
    have bz : Below w.heap.size w w3 := hb1.trans (b13.mono z1)
    go_wp2
    go_ret
    exact ⟨rfl, bz⟩
  · have Hr := Lib.hid hr; have Hz := Lib.hid hz; have Ho := Lib.hid (decide_eq_false h1).symm; clear hr hz h1
    go_enter Try.func3, Try.ntmps3
    go_wp2_with fail
    refine (fewR_c A n c _ l _ Hr.out Hz.out 120 false Ho.out).mono ?_
    rintro e w1 ⟨rfl, rfl⟩
    go_wp2_with fail
    refine (alive_c _).mono ?_
    rintro e w2 ⟨rfl, hb2⟩
    go_wp2
    go_ret
    exact ⟨rfl, hb2⟩
end Go.Proofs.Ytdhbfoelpdoofaa
