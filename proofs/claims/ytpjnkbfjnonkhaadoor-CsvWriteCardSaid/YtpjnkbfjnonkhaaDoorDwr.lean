/-
  The walk of the law CsvWrite.
-/
import Derived.Test.YtpjnkbfjnonkhaaDoorDz
import Derived.Test.YtpjnkbfjnonkhaaDoorDa
namespace Go.Proofs.YtpjnkbfjnonkhaaDoor
open Go.RowKit

def LenRel (n : Nat) (t : Value) : Prop := ∃ k : Nat, t = .int .i64 (k : Int) ∧ k ≤ n

set_option maxRecDepth 100000 in
set_option maxHeartbeats 2000000 in
theorem csvWrite_walk (A : Option Addr) (n c : Nat) (l : List (List (List UInt8))) (s : ByteArray) (w : World) (hr : RL w w.heap.size A n c l) (hz : ∀ r ∈ l, ∀ q ∈ r, q.length ≤ 140737488355328) (hs : s.size ≤ maxLen) (hmx : Mx w) :
    Calls Tryd.prog 4 #[.slice A n c, .string s] w fun e w' => e = .returned (.bool true) ∧ Below w.heap.size w w' := by
  have hl := hr.len
  have hn : n ≤ 9223372036854775807 := by obtain ⟨vs, h1, _⟩ := hr; have h2 := h1.2.1; have h3 := h1.2.2.1; unfold maxLen at h3; omega
  have hsm : s.size ≤ 9223372036854775807 := by unfold maxLen at hs; omega
  clear hs
  by_cases h1 : wL l ≤ 3000 ∧ l.length ≤ 120
  · by_cases h2 : 2000 < s.size
    · have d2 : (2000 : Int) < (s.size : Int) := by omega
      have Hr := Lib.hid hr; have Hz := Lib.hid hz; have Ho := Lib.hid (decide_eq_true h1).symm; clear hr hz h1 hl hmx
      go_enter Tryd.func4, Tryd.ntmps4
      go_wp2_with fail
      refine (fewR_c A n c _ l _ Hr.out Hz.out true Ho.out).mono ?_
      rintro e w1 ⟨rfl, rfl⟩
      go_wp2_with fail
      refine (alive_c _).mono ?_
      rintro e w2 ⟨rfl, hb2⟩
      go_wp2
      go_ret
      exact ⟨rfl, hb2⟩
    · have d2 : ¬ (2000 : Int) < (s.size : Int) := by omega
      obtain ⟨X, hX⟩ : ∃ X, X = Cv.wrS l := ⟨_, rfl⟩
      have c1 : ∀ W, RL W W.heap.size A n c l → Mx W → Calls Tryd.prog 16 #[.slice A n c] W (RetW W X) := fun W h m => by rw [hX]; exact write_c A n c l W h hz m (by omega)
      have c2 : ∀ W, RL W W.heap.size A n c l → Calls Tryd.prog 17 #[.slice A n c] W (RetW W X) := fun W h => by rw [hX]; exact writeD_c A n c l W h hz (by omega)
      have c3 := fun W m => quote_c s (by omega) W m
      have c4 := fun W => quoteD_c s (by omega) W
      obtain ⟨Q, hQ⟩ : ∃ Q : ByteArray, Q = ⟨(Cv.qt s.data.toList).toArray⟩ := ⟨_, rfl⟩
      rw [← hQ] at c3 c4
      have Hr := Lib.hid hr; have Hz := Lib.hid hz; have Ho := Lib.hid (decide_eq_true h1).symm; have Hmx := Lib.hid hmx; have Hl := Lib.hid hl
      have C1 := Lib.hid c1; have C2 := Lib.hid c2; have C3 := Lib.hid c3; have C4 := Lib.hid c4
      clear hr hz h1 hl hmx hX c1 c2 c3 c4 hQ
      go_enter Tryd.func4, Tryd.ntmps4
      go_wp2_with fail
      refine (fewR_c A n c _ l _ Hr.out Hz.out true Ho.out).mono ?_
      rintro e w1 ⟨rfl, rfl⟩
      go_wp2
      go_loop [5] (fun t => LenRel n t) (fun t => n - (intOf t).toNat)
      case atStart => exact ⟨0, rfl, Nat.zero_le _⟩
      case round =>
        obtain ⟨k, rfl, hk⟩ := hrel
        by_cases hlt : k < n
        · obtain ⟨b, off, D, m, d, r, rfl, hb, hcell, hx, _, hrec⟩ := Hr.out.at_ hlt
          have hmN : m ≤ 9223372036854775807 := by have h2 := hrec.2.1; have h3 := hrec.2.2.1; unfold maxLen at h3; omega
          clear hx hrec
          by_cases h100 : 100 < m
          · have d100 : (100 : Int) < (m : Int) := by omega
            go_wp2_with fail
            refine (alive_c _).mono ?_
            rintro e w2 ⟨rfl, hb2⟩
            go_wp2
            go_ret
            exact ⟨rfl, hb2⟩
          · have d100 : ¬ (100 : Int) < (m : Int) := by omega
            go_wp2
            go_round
            case rel => exact ⟨k + 1, by go_num, hlt⟩
            case measure => simp [intOf]; omega
        · go_wp2_with fail
          refine (C1.out _ Hr.out Hmx.out).mono ?_
          rintro e w2 ⟨A2, c2, rfl, hp2, hb2⟩
          have z2 := hb2.size
          have H2 := Lib.hid hp2; clear hp2
          go_wp2_with fail
          refine (C2.out _ ((Hr.out.below hb2).more z2)).mono ?_
          rintro e w3 ⟨A3, c3, rfl, hp3, hb3⟩
          have z3 := hb3.size
          have H3 := Lib.hid hp3; clear hp3
          go_wp2_with fail
          refine (alive_c _).mono ?_
          rintro e w4 ⟨rfl, hb4⟩
          have z4 := hb4.size
          have b24 : Below w2.heap.size w2 w4 := hb3.trans (hb4.mono z3)
          have cv1 := bty.conv (H2.out.rb.below b24)
          have cv2 := bty.conv (H3.out.rb.below hb4)
          have bw4 := hb2.trans (b24.mono z2)
          have hmx4 := Hmx.out.below' bw4
          have Hmx4 := Lib.hid hmx4; clear hmx4
          go_wp2_with fail
          refine (C3.out _ Hmx4.out).mono ?_
          rintro e w5 ⟨rfl, hb5⟩
          go_wp2_with fail
          refine (C4.out _).mono ?_
          rintro e w6 ⟨rfl, rfl⟩
          go_wp2
          go_ret
          exact ⟨rfl, bw4.trans (hb5.mono (by omega))⟩
  · have Hr := Lib.hid hr; have Hz := Lib.hid hz; have Ho := Lib.hid (decide_eq_false h1).symm; clear hr hz h1 hl hmx
    go_enter Tryd.func4, Tryd.ntmps4
    go_wp2_with fail
    refine (fewR_c A n c _ l _ Hr.out Hz.out false Ho.out).mono ?_
    rintro e w1 ⟨rfl, rfl⟩
    go_wp2_with fail
    refine (alive_c _).mono ?_
    rintro e w2 ⟨rfl, hb2⟩
    go_wp2
    go_ret
    exact ⟨rfl, hb2⟩
end Go.Proofs.YtpjnkbfjnonkhaaDoor
