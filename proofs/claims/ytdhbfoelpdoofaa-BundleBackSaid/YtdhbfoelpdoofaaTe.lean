/-
  varint.frame: what the call returns and leaves.
-/
import Derived.Test.YtdhbfoelpdoofaaTc
namespace Go.Proofs.Ytdhbfoelpdoofaa
open Go.RowKit

/-- What frame comes to: the text, the frame's size, the error. -/
def frameS (l : List UInt8) (most : Int) : List UInt8 × Nat × Nat :=
  if (Vm.tk l).2.2 = 0 then
    if most < 0 ∨ most < ((Vm.tk l).1 : Int) then ([], 0, 5)
    else if l.length - (Vm.tk l).2.1 < (Vm.tk l).1 then ([], 0, 2)
    else ((l.take ((Vm.tk l).2.1 + (Vm.tk l).1)).drop (Vm.tk l).2.1, (Vm.tk l).2.1 + (Vm.tk l).1, 0)
  else ([], 0, (Vm.tk l).2.2)
theorem frameS_err (l : List UInt8) (most : Int) (x : Nat) (h : Vm.tk l = (0, 0, x)) (hx : x = 2 ∨ x = 3) : frameS l most = ([], 0, x) := by
  unfold frameS; rw [h]; dsimp only; rw [if_neg (by omega)]
theorem frameS_large (l : List UInt8) (most : Int) (a s : Nat) (h : Vm.tk l = (a, s, 0)) (hm : most < 0 ∨ most < (a : Int)) : frameS l most = ([], 0, 5) := by
  unfold frameS; rw [h]; dsimp only; rw [if_pos rfl, if_pos hm]
theorem frameS_short (l : List UInt8) (most : Int) (a s : Nat) (h : Vm.tk l = (a, s, 0)) (hm : ¬ (most < 0 ∨ most < (a : Int))) (h2 : l.length - s < a) : frameS l most = ([], 0, 2) := by
  unfold frameS; rw [h]; dsimp only; rw [if_pos rfl, if_neg hm, if_pos h2]
theorem frameS_ok (l : List UInt8) (most : Int) (a s : Nat) (h : Vm.tk l = (a, s, 0)) (hm : ¬ (most < 0 ∨ most < (a : Int))) (h2 : ¬ l.length - s < a) : frameS l most = ((l.take (s + a)).drop s, s + a, 0) := by
  unfold frameS; rw [h]; dsimp only; rw [if_pos rfl, if_neg hm, if_neg h2]

def frameE (t : List UInt8 × Nat × Nat) : Ending := .returned (.tuple #[.string ⟨t.1.toArray⟩, .int .i64 (t.2.1 : Int), .int .i64 (t.2.2 : Int)])

set_option maxRecDepth 100000 in
/-- varint.frame -/
theorem frame_c (A : Option Addr) (n c B : Nat) (l : List UInt8) (most : Int) (w : World) (hr : Rb w B A n c l) (hn : n ≤ 1000000) (hm : I64 most) :
    Calls Try.prog 53 #[.slice A n c, .int .i64 most] w fun e w' => e = frameE (frameS l most) ∧ w = w' := by
  have hl := hr.len
  rcases tk_cases l with ⟨a, s, htk, ha, hs, hs10⟩ | ⟨x, htk, hx⟩
  · by_cases h1 : most < 0 ∨ most < (a : Int)
    · rw [frameS_large l most a s htk h1]
      have Hr := Lib.hid hr; have Htk := Lib.hid htk; have Hl := Lib.hid hl; have Hm := Lib.hid hm; have Ha := Lib.hid ha; clear hr htk hl hm ha
      by_cases h2 : most < 0
      · clear h1
        go_enter Try.func53, Try.ntmps53
        go_wp2_with fail
        refine (number_ok A n c _ l _ Hr.out hn a s Htk.out).mono ?_
        rintro e w' ⟨rfl, rfl⟩
        go_wp2
        go_ret3
        exact ⟨rfl, rfl⟩
      · have h3 : 0 ≤ most := by omega
        have h4 : most < (a : Int) := by omega
        have hw : IntKind.u64.wrap most = most := by have := Hm.out; unfold I64 at this; rw [IntKind.wrap_u64]; omega
        clear h1 h2
        go_enter Try.func53, Try.ntmps53
        go_wp2_with fail
        refine (number_ok A n c _ l _ Hr.out hn a s Htk.out).mono ?_
        rintro e w' ⟨rfl, rfl⟩
        go_wp2
        go_ret3
        exact ⟨rfl, rfl⟩
    · have h3 : 0 ≤ most := by omega
      have h4 : (a : Int) ≤ most := by omega
      have hw : IntKind.u64.wrap most = most := by unfold I64 at hm; rw [IntKind.wrap_u64]; omega
      have hns : ((n : Int) - (s : Int)) = ((n - s : Nat) : Int) := by omega
      by_cases h2 : l.length - s < a
      · rw [frameS_short l most a s htk h1 h2]
        have h2' : n - s < a := by omega
        have Hr := Lib.hid hr; have Htk := Lib.hid htk; have Hl := Lib.hid hl; have Hm := Lib.hid hm; have Ha := Lib.hid ha; clear hr htk hl hm ha h1 h2
        have hw2 : IntKind.u64.wrap ((n : Int) - (s : Int)) = (n : Int) - (s : Int) := by rw [IntKind.wrap_u64]; omega
        clear hns
        go_enter Try.func53, Try.ntmps53
        go_wp2_with fail
        refine (number_ok A n c _ l _ Hr.out hn a s Htk.out).mono ?_
        rintro e w' ⟨rfl, rfl⟩
        go_wp2
        go_ret3
        exact ⟨rfl, rfl⟩
      · rw [frameS_ok l most a s htk h1 h2]
        have h2' : (a : Int) ≤ (n : Int) - (s : Int) := by omega
        have h2s : s ≤ n := by omega
        obtain ⟨D, hD, hrD⟩ := bty.mid_ hr (i := s) (k := s + a) (by omega) (by omega) (s : Int) ((s : Int) + (a : Int)) rfl (by omega) a (by omega)
        have hcv := bty.conv hrD
        have Hr := Lib.hid hr; have Htk := Lib.hid htk; have Hl := Lib.hid hl; have Hm := Lib.hid hm; have Ha := Lib.hid ha; clear hr htk hl hm ha h1 h2 hrD
        have hw2 : IntKind.u64.wrap ((n : Int) - (s : Int)) = (n : Int) - (s : Int) := by rw [IntKind.wrap_u64]; omega
        clear hns
        go_enter Try.func53, Try.ntmps53
        go_wp2_with fail
        refine (number_ok A n c _ l _ Hr.out hn a s Htk.out).mono ?_
        rintro e w' ⟨rfl, rfl⟩
        go_wp2
        go_ret3
        exact ⟨rfl, rfl⟩
  · rw [frameS_err l most x htk hx]
    have Hr := Lib.hid hr; have Htk := Lib.hid htk; clear hr htk hl
    have hx1 : 2 ≤ x := by omega
    clear hx
    go_enter Try.func53, Try.ntmps53
    go_wp2_with fail
    refine (number_err A n c _ l _ Hr.out hn x Htk.out).mono ?_
    rintro e w' ⟨rfl, rfl⟩
    go_wp2
    go_ret3
    exact ⟨rfl, rfl⟩
end Go.Proofs.Ytdhbfoelpdoofaa
