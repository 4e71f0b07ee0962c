/-
  The walk of the law VarintNumbers.
-/
import Derived.Test.YtcmagegcolcalaaVa
import Derived.Test.YtcmagegcolcalaaVsz
import Derived.Deep.RegionWith
import Derived.Deep.DeepCutAuto
namespace Go.Proofs.Ytcmagegcolcalaa
open Go.RowKit

set_option maxRecDepth 100000 in
theorem varintNumbers_long (A : Option Addr) (n c : Nat) (a k : Int) (w : World) (hn : 3000 < n) (hm : n ≤ maxLen) :
    Calls Try.prog 3 #[.slice A n c, .int .u64 a, .int .i64 k] w fun e w' => e = .returned (.bool true) ∧ Below w.heap.size w w' := by
  unfold maxLen at hm
  go_enter Try.func3, Try.ntmps3
  go_wp2_with fail
  refine (alive_c _).mono ?_
  rintro e w2 ⟨rfl, hb2⟩
  go_wp2
  go_ret
  exact ⟨rfl, hb2⟩

def FillRel (e : TypeId) (base : Nat) (A : Option Addr) (c n : Nat) (W : World) (i : Value) (wr : World) : Prop :=
  ∃ (k : Nat) (l : List UInt8), i = .int .i64 (k : Int) ∧ k ≤ n ∧ l.length = n ∧ Own wr e base A c l ∧ Below base W wr

theorem rputNil (n : Nat) (w : World) (hN : n < 18446744073709551616) : Calls Try.prog 11 #[.slice none 0 0, .int .u64 (n : Int)] w (RetB w.heap.size w (Vm.vb n)) :=
  rput_c none 0 0 [] n w (Rb.nil _ _) (by omega) hN

set_option maxRecDepth 100000 in
set_option maxHeartbeats 4000000 in
theorem varintNumbers_short (A : Option Addr) (n c : Nat) (l : List UInt8) (N : Nat) (k : Int) (w : World) (hr : Rb w w.heap.size A n c l) (hn : n ≤ 3000) (hN : N < 18446744073709551616) (hk : I64 k) :
    Calls Try.prog 3 #[.slice A n c, .int .u64 (N : Int), .int .i64 k] w fun e w' => e = .returned (.bool true) ∧ Below w.heap.size w w' := by
  have hlen : (Vm.vb N).length ≤ 10 := by
    have e : (128 : Nat) ^ (9 + 1) = 1180591620717411303424 := by decide +kernel
    exact Vm.vb_len_le 9 N (by omega)
  have hl := hr.len
  have hU : U64 (N : Int) := by unfold U64; omega
  have Hr := Lib.hid hr; have Hl := Lib.hid hl; have HN := Lib.hid hN; have HU := Lib.hid hU; have Hk := Lib.hid hk; clear hr hl hN hU hk
  go_enter Try.func3, Try.ntmps3
  go_wp2_with (at_builtin; go_must (refine bty.wpApp rfl (.tmp 15) (.tmp 16) rfl (l := []) (r := l) rfl rfl (Own.made0 _ _) (Hr.out.alloc (Nat.le_refl _) _) ?hs1 ?hs2 ?_))
  case hs1 => rw [Hl.out]; simp; omega
  case hs2 => simp
  intro A1 c1 w1 hown1 hb1
  have hb01 : Below w.heap.size w w1 := ((Below.refl _ _).alloc (Nat.le_refl _) _).trans hb1
  have hz1 := hb01.size
  have hown1' : Own w1 5 w.heap.size A1 c1 l := by simpa using hown1
  clear hown1 hb1
  go_wp2_with fail
  refine (put_c A1 _ c1 l N _ hown1'.rb (by rw [Hl.out]; omega) HN.out).mono ?_
  rintro e w2 ⟨A2, c2, rfl, hown2, hb2⟩
  have hz2 := hb2.size
  have hrW := (Hr.out.below (hb01.trans (hb2.mono hz1))).more (Nat.le_trans hz1 hz2)
  have HrW := Lib.hid hrW; clear hrW
  obtain ⟨X, hX⟩ : ∃ X, X = l ++ Vm.vb N := ⟨_, rfl⟩
  rw [← hX] at hown2
  have hXl : X.length = l.length + (Vm.vb N).length := by rw [hX, List.length_append]
  have hXs : X.length ≤ 3010 := by rw [hXl, Hl.out]; omega
  rw [List.length_append, ← hXl]
  have HX := Lib.hid hX; have HXl := Lib.hid hXl; clear hX hXl
  go_upto_region 5 with fail
  go_cut [9] (fun s9 wx => s9 = .bool true ∧ Below w2.heap.size w2 wx)
  case first =>
    have cv0 : (convert 22 9 (.slice A2 X.length c2)).run Try.prog w2.drew = .ok (.string ⟨X.toArray⟩) w2.drew := bty.conv (hown2.rb.drewN 1)
    go_region_with (go_at_call 11; (with_reducible refine (rput_c A n c l N _ ?_ ?_ HN.out).mono ?_); exact HrW.out; omega; rintro e w3 ⟨A3, c3, rfl, hown3, hb3⟩; have hb3' : Below w2.heap.size w2 w3 := ⟨hb3.os, hb3.tape, hb3.output, hb3.size, hb3.block⟩; rw [← HX.out] at hown3; have cv3 : (convert 22 9 (.slice A2 X.length c2)).run Try.prog w3 = .ok (.string ⟨X.toArray⟩) w3 := bty.conv (hown2.rb.below hb3'); have cv4 : (convert 22 9 (.slice A3 (l.length + (Vm.vb N).length) c3)).run Try.prog w3 = .ok (.string ⟨X.toArray⟩) w3 := bty.conv (rb_len hown3.rb HXl.out.symm))
    all_goals (go_wp2_with fail; go_meet; exact ⟨by simp, hb3'⟩)
  case rest =>
    obtain ⟨rfl, hbc⟩ := hcut
    have hownC := hown2.keep hbc
    have hbcz := hbc.size
    have Hb1c := Lib.hid (hb2.trans (hbc.mono hz2))
    have hzc : w1.heap.size ≤ wc.heap.size := Nat.le_trans hz2 hbcz
    clear hown2 HrW hbc hbcz hb2 hz2
    go_wp2
    go_loopw [10] (fun i wr => FillRel 5 w1.heap.size A2 c2 X.length wc i wr) (fun i _ => X.length - (intOf i).toNat)
    case atStart => exact ⟨0, X, rfl, by omega, rfl, hownC, Below.refl _ _⟩
    case round =>
      obtain ⟨j, l', rfl, hj, hl', hownR, hbR⟩ := hrel
      by_cases hlt : j < X.length
      · obtain ⟨g, rfl, hg1, hg2, hfz, ⟨v0, hcell⟩, hown'⟩ := hownR.put_ (k := j) (by omega) 7
        have Hl' := Lib.hid hl'; have HownR := Lib.hid hownR; have Hown' := Lib.hid hown'; clear hl' hownR hown' hownC
        go_wp2
        go_roundw
        case rel => exact ⟨j + 1, l'.set j 7, by go_num, by omega, by rw [List.length_set]; exact Hl'.out, Hown'.out, hbR.setCell hg1 _⟩
        case measure => simp [intOf]; omega
      · have Hb1r := Lib.hid (Hb1c.out.trans (hbR.mono (Nat.le_refl _)))
        have hzr : w1.heap.size ≤ wr.heap.size := Nat.le_trans hzc hbR.size
        clear hownR hl' hownC hbR
        go_wp2_with fail
        refine (alive_c _).mono ?_
        rintro e w4 ⟨rfl, hb4⟩
        have hz4 := hb4.size
        have hb14 := Hb1r.out.trans (hb4.mono hzr)
        have cvo : (convert 22 9 (.slice A1 l.length c1)).run Try.prog w4 = .ok (.string ⟨l.toArray⟩) w4 := bty.conv (hown1'.keep hb14).rb
        have cvb : (convert 22 9 (.slice A n c)).run Try.prog w4 = .ok (.string ⟨l.toArray⟩) w4 := bty.conv (Hr.out.below (hb01.trans (hb14.mono hz1)))
        go_wp2_with fail
        refine (size_c N _ HN.out).mono ?_
        rintro e w' ⟨rfl, rfl⟩
        go_wp2_with fail
        refine (rputNil N _ HN.out).mono ?_
        rintro e w5 ⟨A5, c5, rfl, hown5, hb5⟩
        have hb15 := hb14.trans (hb5.mono (Nat.le_trans hzr hz4))
        go_wp2_with fail
        refine (fold_c k _ Hk.out).mono ?_
        rintro e w' ⟨rfl, rfl⟩
        go_wp2_with fail
        refine (rfold_c k _ Hk.out).mono ?_
        rintro e w' ⟨rfl, rfl⟩
        go_wp2_with fail
        refine (unfold_c (N : Int) _ HU.out).mono ?_
        rintro e w' ⟨rfl, rfl⟩
        go_wp2_with fail
        refine (runfold_c (N : Int) _ HU.out).mono ?_
        rintro e w' ⟨rfl, rfl⟩
        go_wp2
        go_ret
        exact ⟨rfl, hb01.trans (hb15.mono hz1)⟩

theorem varintNumbers_walk (A : Option Addr) (n c : Nat) (l : List UInt8) (a k : Int) (w : World) (hr : Rb w w.heap.size A n c l) (ha : U64 a) (hk : I64 k) :
    Calls Try.prog 3 #[.slice A n c, .int .u64 a, .int .i64 k] w fun e w' => e = .returned (.bool true) ∧ Below w.heap.size w w' := by
  by_cases h : 3000 < n
  · exact varintNumbers_long A n c a k w h (Nat.le_trans hr.2.1 hr.2.2.1)
  · obtain ⟨N, rfl⟩ := Int.eq_ofNat_of_zero_le ha.1
    exact varintNumbers_short A n c l N k w hr (by omega) (by have := ha.2; omega) hk
end Go.Proofs.Ytcmagegcolcalaa
