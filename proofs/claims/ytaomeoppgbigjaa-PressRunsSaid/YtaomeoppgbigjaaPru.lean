/-
  The walk of the law PressRuns.
-/
import Derived.Test.YtaomeoppgbigjaaP17
namespace Go.Proofs.Ytaomeoppgbigjaa
open Go.RowKit

def RunRel (w : World) (x : UInt8) (tb ti : Value) (wr : World) : Prop :=
  ∃ A1 c1, ∃ i : Nat, tb = .slice A1 i c1 ∧ ti = .int .i64 (i : Int) ∧ i ≤ 4000 ∧ Hid (Own wr 5 w.heap.size A1 c1 (List.replicate i x)) ∧ Below w.heap.size w wr ∧ w.heap.size ≤ wr.heap.size

set_option maxRecDepth 100000 in
set_option maxHeartbeats 1600000 in
theorem pressRuns_nat (x : UInt8) (q : Nat) (A : Option Addr) (n c : Nat) (s : List UInt8) (w : World) (hq : q < 65536) (hr : Rb w w.heap.size A n c s) :
    Calls Try.prog 6 #[.int .u8 (x.toNat : Int), .int .u16 (q : Int), .slice A n c] w fun e w' => e = .returned (.bool true) ∧ Below w.heap.size w w' := by
  have hl := hr.len
  have han : n ≤ 9223372036854775807 := by have := hr.2.2.1; have := hr.2.1; unfold maxLen at *; omega
  have Hr := Lib.hid hr; have Hl := Lib.hid hl
  clear hr hl
  obtain ⟨m, hm⟩ : ∃ m, m = q % 4000 := ⟨_, rfl⟩
  have hm4 : m < 4000 := by omega
  have hmz : (q : Int) % 4000 = (m : Int) := by omega
  have Hmz := Lib.hid hmz
  clear hm hmz
  go_enter Try.func6, Try.ntmps6
  go_wp2
  go_loopw [7, 8] (fun tb ti wr => RunRel w x tb ti wr ∧ (intOf ti) ≤ (m : Int)) (fun _ ti _ => 4000 - (intOf ti).toNat)
  case atStart => exact ⟨⟨_, _, 0, rfl, rfl, by omega, Lib.hid (Own.made0 _ _), (Below.refl _ _).alloc (Nat.le_refl _) _, by simp⟩, by simp [intOf]⟩
  case round =>
    obtain ⟨⟨A1, c1, i, rfl, rfl, hi, HO, hbel, hsz⟩, him⟩ := hrel
    have him' : i ≤ m := by simp [intOf] at him; omega
    clear him
    have hmz := Hmz.out
    by_cases hlt : i < m
    · have hlt' : (i : Int) < (m : Int) := by omega
      have ho' : Own wr 5 w.heap.size A1 c1 (List.replicate i x) := HO.out
      go_wp2_with (at_builtin; go_must (refine bty.wpAppW rfl (.tmp 23) (.tmp 25) rfl (l := List.replicate i x) (r := [x]) (by simp) rfl rfl (HO.out.alloc _) (Rb.one _ _ x) ?hs1 ?hs2 ?_))
      case hs1 => simp; omega
      case hs2 => simp; omega
      intro A2 c2 w2 hown2 hb2
      have e : List.replicate i x ++ [x] = List.replicate (i + 1) x := (List.replicate_succ').symm
      have HO2 := Lib.hid hown2
      rw [e] at HO2
      have hbel2 := hbel.trans (((Below.refl _ _).alloc (by omega) _).trans hb2)
      clear hown2 hb2 HO ho' e
      go_wp2
      go_roundw
      case rel => exact ⟨⟨A2, c2, i + 1, by simp, by go_num, by omega, HO2, hbel2, hbel2.size⟩, by simp [intOf]; omega⟩
      case measure => simp [intOf]; omega
    · obtain rfl : i = m := by omega
      clear hi
      have hb1 := hbel
      have HR1 := Lib.hid (rb_len HO.out.rb (m := i) (by simp))
      clear HO hlt
      obtain ⟨X, hX⟩ : ∃ X, X = Pm.pressS (List.replicate i x) := ⟨_, rfl⟩
      obtain ⟨N, hN⟩ : ∃ N, N = X.length := ⟨_, rfl⟩
      have hNn : N ≤ 10 + 3 * (i / 200 + 1) := by rw [hN, hX]; exact Pm.run_press i x hm4
      have hp1 := fun W A c (h : Rb W W.heap.size A i c (List.replicate i x)) => press_c A i c _ W h (by omega)
      unfold RetP at hp1
      rw [← hX, ← hN] at hp1
      have Hp1 := Lib.hid hp1
      have hN' : (N : Int) ≤ 10 + 3 * ((i : Int) / 200 + 1) := by omega
      clear hX hp1 hN
      go_wp2_with fail
      refine (Hp1.out _ _ _ HR1.out).mono ?_
      rintro e w2 ⟨A2, c2, rfl, hown2, hb2⟩
      have hz2 := hb2.size
      have hb02 := hb1.trans (hb2.mono hsz)
      have hz02 := hb02.size
      clear hown2 hb2 Hp1
      by_cases h100 : n < 100
      · go_wp2_with fail
        refine (alive_c _).mono ?_
        rintro e w3 ⟨rfl, hb3⟩
        go_wp2
        go_ret
        exact ⟨rfl, hb02.trans (hb3.mono hz02)⟩
      · by_cases h200 : 200 < n
        · go_wp2_with fail
          refine (alive_c _).mono ?_
          rintro e w3 ⟨rfl, hb3⟩
          go_wp2
          go_ret
          exact ⟨rfl, hb02.trans (hb3.mono hz02)⟩
        · obtain ⟨Y, hY⟩ : ∃ Y, Y = Pm.pressS s := ⟨_, rfl⟩
          obtain ⟨Z, hZ⟩ : ∃ Z, Z = Pm.pressS (s ++ s) := ⟨_, rfl⟩
          obtain ⟨M, hM⟩ : ∃ M, M = Y.length := ⟨_, rfl⟩
          obtain ⟨K, hK⟩ : ∃ K, K = Z.length := ⟨_, rfl⟩
          have hln := Hl.out
          have hKM : (K : Int) ≤ (M : Int) + 12 := by
            have := Pm.twice_press s (by omega) (by omega)
            rw [← hZ, ← hY, ← hK, ← hM] at this
            omega
          have hp2 := fun W A c (h : Rb W W.heap.size A n c s) => press_c A n c s W h (by omega)
          have hp3 := fun W A c (h : Rb W W.heap.size A (n + n) c (s ++ s)) => press_c A (n + n) c (s ++ s) W h (by omega)
          unfold RetP at hp2 hp3
          rw [← hY, ← hM] at hp2
          rw [← hZ, ← hK] at hp3
          have Hp2 := Lib.hid hp2; have Hp3 := Lib.hid hp3
          have hYl := Pm.press_len s (by omega)
          rw [← hY, ← hM] at hYl
          have hM' : M ≤ 1000 := by omega
          have hK' : K ≤ 1100 := by omega
          clear hY hZ hp2 hp3 hM hK hYl hln
          have HRs2 := Lib.hid ((Hr.out.below hb02).more hz02)
          go_wp2_with fail
          refine (Hp2.out _ _ _ HRs2.out).mono ?_
          rintro e w3 ⟨A3, c3, rfl, hown3, hb3⟩
          have hb03 := hb02.trans (hb3.mono hz02)
          have hz03 := hb03.size
          have HRs3 := Lib.hid ((HRs2.out.below hb3).more hb3.size)
          clear hown3 hb3 Hp2
          go_wp2_with (at_builtin; go_must (refine bty.wpApp rfl (.tmp 60) (.tmp 61) rfl (l := []) (r := s) rfl rfl (Own.made0 _ _) (HRs3.out.alloc (Nat.le_refl _) _) ?hs3 ?hs4 ?_))
          case hs3 => rw [Hl.out]; simp; omega
          case hs4 => simp
          intro A4 c4 w4 hown4 hb4
          have hb34 : Below w3.heap.size w3 w4 := ((Below.refl _ _).alloc (Nat.le_refl _) _).trans hb4
          have Hown4 := Lib.hid hown4; clear hown4 hb4
          go_wp2_with (at_builtin; go_must (refine bty.wpApp rfl (.tmp 62) (.tmp 63) rfl (l := s) (r := s) rfl rfl Hown4.out (HRs3.out.below hb34) ?hs5 ?hs6 ?_))
          case hs5 => rw [Hl.out]; omega
          case hs6 => exact hb34.size
          intro A5 c5 w5 hown5 hb5
          have hb35 := hb34.trans hb5
          have hb05 := hb03.trans (hb35.mono hz03)
          have hz05 := hb05.size
          have hss : (s ++ s).length = n + n := by rw [List.length_append, Hl.out]
          have HR5 := Lib.hid (rb_len hown5.rb hss)
          have hsl : s.length = n := Hl.out
          rw [hsl]
          clear hsl hown5 hb5 hb34 hb35 hss Hown4
          go_wp2_with fail
          refine (Hp3.out _ _ _ HR5.out).mono ?_
          rintro e w6 ⟨A6, c6, rfl, hown6, hb6⟩
          have hb06 := hb05.trans (hb6.mono hz05)
          have hz06 := hb06.size
          clear hown6 hb6 Hp3
          go_wp2_with fail
          refine (alive_c _).mono ?_
          rintro e w7 ⟨rfl, hb7⟩
          go_wp2
          go_ret
          exact ⟨by simp, hb06.trans (hb7.mono hz06)⟩
theorem pressRuns_walk (a b : Int) (A : Option Addr) (n c : Nat) (s : List UInt8) (w : World) (ha : 0 ≤ a ∧ a < 256) (hb : 0 ≤ b ∧ b < 65536) (hr : Rb w w.heap.size A n c s) :
    Calls Try.prog 6 #[.int .u8 a, .int .u16 b, .slice A n c] w fun e w' => e = .returned (.bool true) ∧ Below w.heap.size w w' := by
  have h := pressRuns_nat (UInt8.ofNat a.toNat) b.toNat A n c s w (by omega) hr
  have e1 : ((UInt8.ofNat a.toNat).toNat : Int) = a := by rw [Vm.toNat_ofNat _ (by omega)]; omega
  have e2 : (b.toNat : Int) = b := by omega
  rw [e1, e2] at h
  exact h
end Go.Proofs.Ytaomeoppgbigjaa
