/-
  The walk of the law PressMarks.
-/
import Derived.Test.YtaomeoppgbigjaaPba
namespace Go.Proofs.Ytaomeoppgbigjaa
open Go.RowKit

/-- Four bytes stand again at a. -/
def Again (l : List UInt8) (a b : Nat) : Prop := ∀ t, t < 4 → l[a + t]? = l[b + t]?
def Tw (l : List UInt8) (i : Nat) : Prop := ∃ a b, b < a ∧ a < i ∧ a + 4 ≤ l.length ∧ Again l a b
theorem four_get (l : List UInt8) (i t : Nat) : ((l.take (i + 4)).drop i)[t]? = if t < 4 then l[i + t]? else none := by
  rw [List.getElem?_drop, List.getElem?_take]
  by_cases h : t < 4
  · rw [if_pos h, if_pos (by omega)]
  · rw [if_neg h, if_neg (by omega)]
theorem four_eq (l : List UInt8) (i j : Nat) : (l.take (i + 4)).drop i = (l.take (j + 4)).drop j ↔ Again l i j := by
  constructor
  · intro h t ht
    have := congrArg (fun x : List UInt8 => x[t]?) h
    simp only [four_get, if_pos ht] at this
    exact this
  · intro h
    apply List.ext_getElem?
    intro t
    rw [four_get, four_get]
    by_cases ht : t < 4
    · rw [if_pos ht, if_pos ht]; exact h t ht
    · rw [if_neg ht, if_neg ht]
theorem tw_none (l : List UInt8) (hl : l.length ≤ 600) (i : Nat) (hi : l.length < i + 4) (h : ¬ Tw l i) : (Pm.cnt l 0 0).2 = 0 := by
  rcases Nat.eq_zero_or_pos (Pm.cnt l 0 0).2 with h0 | h0
  · exact h0
  · obtain ⟨j, hj, hb⟩ := Pm.cnt_some l l.length 0 0 (by omega) (by omega)
    obtain ⟨h4, j2, hj2, hq⟩ := Pm.best_twice l j (by omega) hb
    exact absurd ⟨j, j2, hj2, by omega, h4, hq⟩ h
theorem tw_some (l : List UInt8) (hl : l.length ≤ 600) (i : Nat) (h : Tw l i) : (Pm.cnt l 0 0).2 ≠ 0 := by
  obtain ⟨a, b, hba, _, h4, hq⟩ := h
  intro h0
  have := Pm.cnt_none l l.length 0 0 (by omega) h0 a (by omega) (by omega)
  exact Pm.twice_best l a b hba h4 (by omega) hq this

def MarkRel (w : World) (l : List UInt8) (n : Nat) (t8 t9 : Value) (wr : World) : Prop :=
  ∃ (tw : Bool) (i q : Nat), t8 = .bool tw ∧ t9 = .int .i64 (i : Int) ∧ wr = w.drewN q ∧ i ≤ n + 1 ∧ Hid (tw = true ↔ Tw l i)
def MarkIn (w : World) (l : List UInt8) (i : Nat) (t8 t10 : Value) (wr : World) : Prop :=
  ∃ (tw : Bool) (j q : Nat), t8 = .bool tw ∧ t10 = .int .i64 (j : Int) ∧ wr = w.drewN q ∧ j ≤ i ∧ Hid (tw = true ↔ ∃ b, b < j ∧ Again l i b)

set_option maxRecDepth 100000 in
set_option maxHeartbeats 4000000 in
theorem pressMarks_walk (A : Option Addr) (n c : Nat) (l : List UInt8) (w : World) (hr : Rb w w.heap.size A n c l) :
    Calls Try.prog 7 #[.slice A n c] w fun e w' => e = .returned (.bool true) ∧ Below w.heap.size w w' := by
  have hl := hr.len
  have han : n ≤ 9223372036854775807 := by have := hr.2.2.1; have := hr.2.1; unfold maxLen at *; omega
  have Hr := Lib.hid hr; have Hl := Lib.hid hl
  clear hr hl
  by_cases h1 : 600 < n
  · go_enter Try.func7, Try.ntmps7
    go_wp2_with fail
    refine (alive_c _).mono ?_
    rintro e w2 ⟨rfl, hb2⟩
    go_wp2
    go_ret
    exact ⟨rfl, hb2⟩
  · have hln := Hl.out
    have hl6 : l.length ≤ 20000 := by omega
    obtain ⟨X, hX⟩ : ∃ X, X = Pm.pressS l := ⟨_, rfl⟩
    obtain ⟨N, hN⟩ : ∃ N, N = X.length := ⟨_, rfl⟩
    have hNn : N ≤ n + n / 64 + 4 := by rw [hN, hX, ← hln]; exact Pm.press_len l hl6
    have hp1 := fun W A c (h : Rb W W.heap.size A n c l) => press_c A n c l W h (by omega)
    have hbk := Pm.press_back l hl6 20000 (by omega)
    rw [← hX] at hbk
    unfold RetP at hp1
    rw [← hX, ← hN] at hp1
    obtain ⟨P, hP⟩ : ∃ P, P = (Pm.cnt l 0 0).1 := ⟨_, rfl⟩
    obtain ⟨K, hK⟩ : ∃ K, K = (Pm.cnt l 0 0).2 := ⟨_, rfl⟩
    have hm1 := fun W A c (h : Rb W W.heap.size A N c X) => marks_c A N c X W h (by omega)
    rw [hbk] at hm1
    dsimp only at hm1
    rw [← hP, ← hK] at hm1
    have hPK : P + K ≤ n := by
      have := Pm.cnt_le l l.length 0 0 (by omega) (by omega) (by omega)
      rw [← hP, ← hK] at this
      omega
    have hPp : 0 < n → 1 ≤ P := fun h => by rw [hP]; exact Pm.cnt_pos l (by omega)
    have hno : ∀ i, n < i + 4 → ¬ Tw l i → K = 0 := fun i hi h => by rw [hK]; exact tw_none l (by omega) i (by omega) h
    have hyes : ∀ i, Tw l i → K ≠ 0 := fun i h => by rw [hK]; exact tw_some l (by omega) i h
    have HN := Lib.hid hN; have Hp1 := Lib.hid hp1; have Hm1 := Lib.hid hm1; have HPp := Lib.hid hPp; have Hno := Lib.hid hno; have Hyes := Lib.hid hyes; have Hl6 := Lib.hid hl6
    clear hX hN hp1 hm1 hbk hP hK hPp hno hyes hln hl6
    go_enter Try.func7, Try.ntmps7
    go_wp2_with fail
    refine (Hp1.out _ _ _ Hr.out).mono ?_
    rintro e w2 ⟨A2, c2, rfl, hown2, hb2⟩
    have hz2 := hb2.size
    have HR2 := Lib.hid (rb_len hown2.rb HN.out.symm)
    clear hown2
    go_wp2_with fail
    refine (Hm1.out _ _ _ HR2.out).mono ?_
    rintro e w3 ⟨rfl, hb3⟩
    have hb03 := hb2.trans (hb3.mono hz2)
    have hz03 := hb03.size
    have HRl := Lib.hid ((Hr.out.below hb03).more hz03)
    clear hb2 hb3
    go_wp2
    go_loopw [8, 9] (fun t8 t9 wr => MarkRel w3 l n t8 t9 wr) (fun _ t9 _ => n + 2 - (intOf t9).toNat)
    case atStart => exact ⟨false, 0, 0, rfl, rfl, rfl, by omega, Lib.hid ⟨(fun h => by cases h), (fun ⟨a, b, _, h, _⟩ => by omega)⟩⟩
    case round =>
      obtain ⟨tw, i, q, rfl, rfl, rfl, hi, HT⟩ := hrel
      by_cases hin : i + 4 ≤ n
      · have hin' : (i : Int) + 4 ≤ (n : Int) := by omega
        cases tw with
        | true =>
          have hK1 : 0 < K := by have := Hyes.out _ (HT.out.1 rfl); omega
          have hn1 : 0 < n := by omega
          have hP1 := HPp.out hn1
          have g1 : (0 : Int) < (P : Int) + (K : Int) := by omega
          have g2 : (0 : Int) < (n : Int) := by omega
          have g3 : (P : Int) + (K : Int) ≤ (n : Int) := by omega
          have g4 : ((n : Int) == 0) = false := by simp; omega
          have g5 : (0 : Int) < (P : Int) := by omega
          have g6 : (0 : Int) < (K : Int) := by omega
          have g7 : decide ((0 : Int) < (P : Int) + (K : Int)) = true := by simp; omega
          have g8 : decide ((0 : Int) < (n : Int)) = true := by simp; omega
          clear hPK hP1
          go_wp2_with fail
          refine (alive_c _).mono ?_
          rintro e w5 ⟨rfl, hb5⟩
          have hb05 := (below_drewN hb03 q).trans (hb5.mono hz03)
          clear hb5
          go_wp2
          go_ret
          exact ⟨by simp, hb05⟩
        | false =>
          go_wp2
          go_loopw [8, 10] (fun t8 t10 wr => MarkIn w3 l i t8 t10 wr) (fun _ t10 _ => i - (intOf t10).toNat)
          case atStart => exact ⟨false, 0, _, rfl, rfl, rfl, by omega, Lib.hid ⟨(fun h => by cases h), (fun ⟨b, h, _⟩ => by omega)⟩⟩
          case round =>
            obtain ⟨tw, j, q2, rfl, rfl, rfl, hj, HT2⟩ := hrel
            by_cases hji : j < i
            · have hji' : (j : Int) < (i : Int) := by omega
              cases tw with
              | true =>
                go_wp2_with fail
                go_quiet (fail)
                go_wp2
                go_roundw
                case rel =>
                  refine ⟨true, j + 1, q2 + _, rfl, by go_num, rfl, by omega, Lib.hid ⟨fun _ => ?_, fun _ => rfl⟩⟩
                  obtain ⟨b, hb, hq⟩ := HT2.out.1 (by simp)
                  exact ⟨b, by omega, hq⟩
                case measure => simp [intOf]; omega
              | false =>
                obtain ⟨E, hE, hrE⟩ := bty.mid_ HRl.out (i := i) (k := i + 4) (by omega) (by omega) (i : Int) ((i : Int) + 4) rfl (by omega) 4 (by omega)
                obtain ⟨F, hF, hrF⟩ := bty.mid_ HRl.out (i := j) (k := j + 4) (by omega) (by omega) (j : Int) ((j : Int) + 4) rfl (by omega) 4 (by omega)
                obtain ⟨S1, hS1⟩ : ∃ S1, S1 = (l.take (i + 4)).drop i := ⟨_, rfl⟩
                obtain ⟨S2, hS2⟩ : ∃ S2, S2 = (l.take (j + 4)).drop j := ⟨_, rfl⟩
                rw [← hS1] at hrE
                rw [← hS2] at hrF
                have cvE : ∀ Q, (convert 22 9 (.slice E 4 (c - i))).run Try.prog (w3.drewN Q) = .ok (.string ⟨S1.toArray⟩) (w3.drewN Q) := fun Q => bty.conv (hrE.drewN Q)
                have cvF : ∀ Q, (convert 22 9 (.slice F 4 (c - j))).run Try.prog (w3.drewN Q) = .ok (.string ⟨S2.toArray⟩) (w3.drewN Q) := fun Q => bty.conv (hrF.drewN Q)
                have hagain : S1 = S2 ↔ Again l i j := by rw [hS1, hS2]; exact four_eq l i j
                have Hag := Lib.hid hagain
                clear hS1 hS2 hrE hrF hagain
                go_wp2_with fail
                go_quiet (fail)
                go_wp2
                go_roundw
                case rel =>
                  refine ⟨_, j + 1, q2 + _, rfl, by go_num, rfl, by omega, Lib.hid ?_⟩
                  constructor
                  · intro h
                    exact ⟨j, by omega, Hag.out.1 (by simpa using h)⟩
                  · rintro ⟨b, hb, hq⟩
                    rcases Nat.lt_or_ge b j with h | h
                    · exact absurd (HT2.out.2 ⟨b, h, hq⟩) (by simp)
                    · obtain rfl : b = j := by omega
                      simpa using Hag.out.2 hq
                case measure => simp [intOf]; omega
            · obtain rfl : j = i := by omega
              have HT3 : Hid (tw = true ↔ Tw l (j + 1)) := by
                constructor
                · intro h
                  obtain ⟨b, hb, hq⟩ := HT2.out.1 h
                  exact ⟨j, b, hb, by omega, by have := Hl.out; omega, hq⟩
                · rintro ⟨a, b, hba, hai, h4, hq⟩
                  rcases Nat.lt_or_ge a j with h | h
                  · have := HT.out.2 ⟨a, b, hba, h, h4, hq⟩; cases this
                  · obtain rfl : a = j := by omega
                    exact HT2.out.2 ⟨b, hba, hq⟩
              go_wp2
              go_roundw
              case rel => exact ⟨tw, j + 1, q2, rfl, by go_num, rfl, by omega, HT3⟩
              case measure => simp [intOf]; omega
      · have hin' : (n : Int) < (i : Int) + 4 := by omega
        cases tw with
        | true =>
          have hn4 : 0 < n := by
            obtain ⟨a, b, _, _, h4, _⟩ := HT.out.1 rfl
            have := Hl.out
            omega
          have hK1 : 0 < K := by have := Hyes.out _ (HT.out.1 rfl); omega
          have hn1 : 0 < n := by omega
          have hP1 := HPp.out hn1
          have g1 : (0 : Int) < (P : Int) + (K : Int) := by omega
          have g2 : (0 : Int) < (n : Int) := by omega
          have g3 : (P : Int) + (K : Int) ≤ (n : Int) := by omega
          have g4 : ((n : Int) == 0) = false := by simp; omega
          have g5 : (0 : Int) < (P : Int) := by omega
          have g6 : (0 : Int) < (K : Int) := by omega
          have g7 : decide ((0 : Int) < (P : Int) + (K : Int)) = true := by simp; omega
          have g8 : decide ((0 : Int) < (n : Int)) = true := by simp; omega
          clear hPK hP1
          go_wp2_with fail
          refine (alive_c _).mono ?_
          rintro e w5 ⟨rfl, hb5⟩
          have hb05 := (below_drewN hb03 q).trans (hb5.mono hz03)
          clear hb5
          go_wp2
          go_ret
          exact ⟨by simp, hb05⟩
        | false =>
          by_cases hn0 : 0 < n
          · obtain rfl : K = 0 := Hno.out i (by omega) (fun h => by have := HT.out.2 h; cases this)
            have hP1 := HPp.out hn0
            have g1 : (0 : Int) < (P : Int) := by omega
            have g2 : (0 : Int) < (n : Int) := by omega
            have g3 : (P : Int) ≤ (n : Int) := by omega
            have g4 : ((n : Int) == 0) = false := by simp; omega
            have g7 : decide ((0 : Int) < (P : Int)) = true := by simp; omega
            have g8 : decide ((0 : Int) < (n : Int)) = true := by simp; omega
            clear hPK hP1
            go_wp2_with fail
            refine (alive_c _).mono ?_
            rintro e w5 ⟨rfl, hb5⟩
            have hb05 := (below_drewN hb03 q).trans (hb5.mono hz03)
            clear hb5
            go_wp2
            go_ret
            exact ⟨by simp, hb05⟩
          · obtain rfl : n = 0 := by omega
            obtain rfl : P = 0 := by omega
            obtain rfl : K = 0 := by omega
            clear hPK
            go_wp2_with fail
            refine (alive_c _).mono ?_
            rintro e w5 ⟨rfl, hb5⟩
            have hb05 := (below_drewN hb03 q).trans (hb5.mono hz03)
            clear hb5
            go_wp2
            go_ret
            exact ⟨by simp, hb05⟩
end Go.Proofs.Ytaomeoppgbigjaa
