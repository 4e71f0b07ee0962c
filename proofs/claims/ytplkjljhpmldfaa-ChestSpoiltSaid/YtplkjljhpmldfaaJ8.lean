/-
  Joined: Tg.
-/
import Derived.Test.YtplkjljhpmldfaaJ7
import Derived.Test.YtplkjljhpmldfaaJ6
import Derived.Deep.RegionLaw
/-
  The document's TakeFrame and TakePair (threshingref01): what each call returns and leaves.
-/
namespace Go.Proofs.Ytplkjljhpmldfaa
open Go.RowKit

theorem rtake_ok (A : Option Addr) (n c : Nat) (l : List UInt8) (w : World) (hr : Rb w w.heap.size A n c l) (hn : n ≤ 1000000) (a s : Nat) (h : Vm.tk l = (a, s, 0)) :
    Calls Try.prog 40 #[.slice A n c] w (RetT w.heap.size w (a, l.drop s, 0)) := by
  have h' := rtake_c A n c l w hr hn
  rw [takeS_ok l a s h] at h'
  exact h'
theorem rtake_err (A : Option Addr) (n c : Nat) (l : List UInt8) (w : World) (hr : Rb w w.heap.size A n c l) (hn : n ≤ 1000000) (x : Nat) (h : Vm.tk l = (0, 0, x)) (hx : x = 2 ∨ x = 3) :
    Calls Try.prog 40 #[.slice A n c] w (RetT w.heap.size w (0, [], x)) := by
  have h' := rtake_c A n c l w hr hn
  rw [takeS_err l x h hx] at h'
  exact h'

set_option maxRecDepth 100000 in
set_option maxHeartbeats 1000000 in
/-- the document's TakeFrame -/
theorem rtakeFrame_c (A : Option Addr) (n c : Nat) (l : List UInt8) (most : Int) (w : World) (hr : Rb w w.heap.size A n c l) (hn : n ≤ 1000000) (hm : I64 most) :
    Calls Try.prog 65 #[.slice A n c, .int .i64 most] w (RetF w.heap.size w (tframeS l most)) := by
  have hl := hr.len
  rcases tk_cases l with ⟨a, s, htk, ha, hs, hs10⟩ | ⟨x, htk, hx⟩
  · by_cases h1 : most < 0 ∨ most < (a : Int)
    · rw [tframeS_err l most 5 (frameS_large l most a s htk h1) (by omega)]
      have Hr := Lib.hid hr; have Htk := Lib.hid htk; have Hl := Lib.hid hl; have Hm := Lib.hid hm; have Ha := Lib.hid ha; clear hr htk hl hm ha
      by_cases h2 : most < 0
      · clear h1
        go_enter Try.func65, Try.ntmps65
        go_wp2_with fail
        refine (rtake_ok A n c l _ Hr.out hn a s Htk.out).mono ?_
        rintro e w1 ⟨A1, c1, rfl, hown1, hb1⟩
        go_wp2
        go_ret3
        exact ⟨none, 0, rfl, Own.nil _ _ _, hb1⟩
      · have h3 : 0 ≤ most := by omega
        have h4 : most < (a : Int) := by omega
        have hw : IntKind.u64.wrap most = most := by have := Hm.out; unfold I64 at this; rw [IntKind.wrap_u64]; omega
        clear h1 h2
        go_enter Try.func65, Try.ntmps65
        go_wp2_with fail
        refine (rtake_ok A n c l _ Hr.out hn a s Htk.out).mono ?_
        rintro e w1 ⟨A1, c1, rfl, hown1, hb1⟩
        go_wp2
        go_ret3
        exact ⟨none, 0, rfl, Own.nil _ _ _, hb1⟩
    · have h3 : 0 ≤ most := by omega
      have h4 : (a : Int) ≤ most := by omega
      have hw : IntKind.u64.wrap most = most := by unfold I64 at hm; rw [IntKind.wrap_u64]; omega
      have hdl : (l.drop s).length = l.length - s := List.length_drop
      obtain ⟨R, hR⟩ : ∃ R, R = l.drop s := ⟨_, rfl⟩
      rw [← hR] at hdl
      have hw2 : IntKind.u64.wrap (R.length : Int) = (R.length : Int) := by rw [IntKind.wrap_u64]; omega
      have take1 : ∀ W, Rb W W.heap.size A n c l → Calls Try.prog 40 #[.slice A n c] W (RetT W.heap.size W (a, R, 0)) := fun W h => by rw [hR]; exact rtake_ok A n c l W h hn a s htk
      have T1 := Lib.hid take1; clear take1
      by_cases h2 : l.length - s < a
      · rw [tframeS_err l most 2 (frameS_short l most a s htk h1 h2) (by omega)]
        have h2' : R.length < a := by omega
        have Hr := Lib.hid hr; have Htk := Lib.hid htk; have Hl := Lib.hid hl; have Hm := Lib.hid hm; have Ha := Lib.hid ha; have HR := Lib.hid hR; clear hr htk hl hm ha h1 h2 hdl hR
        go_enter Try.func65, Try.ntmps65
        go_wp2_with fail
        refine (T1.out _ Hr.out).mono ?_
        rintro e w1 ⟨A1, c1, rfl, hown1, hb1⟩
        go_wp2
        go_ret3
        exact ⟨none, 0, rfl, Own.nil _ _ _, hb1⟩
      · have hfin : tframeS l most = (R.take a, R.drop a, 0) := by
          rw [tframeS_ok l most _ _ (frameS_ok l most a s htk h1 h2), hR, List.drop_drop, List.drop_take]
          simp
        rw [hfin]
        have h2' : a ≤ R.length := by omega
        have hRl : R.length ≤ 1000000 := by omega
        have Hr := Lib.hid hr; have Htk := Lib.hid htk; have Hl := Lib.hid hl; have Hm := Lib.hid hm; have Ha := Lib.hid ha; have HR := Lib.hid hR; clear hr htk hl hm ha h1 h2 hdl hR hfin
        go_enter Try.func65, Try.ntmps65
        go_wp2_with fail
        refine (T1.out _ Hr.out).mono ?_
        rintro e w1 ⟨A1, c1, rfl, hown1, hb1⟩
        have hz1 := hb1.size
        obtain ⟨D, hD, hrD⟩ := bty.upto_ hown1.rb (k := a) h2' (a : Int) rfl
        obtain ⟨D2, hD2, hrD2⟩ := bty.from_ hown1.rb (k := a) h2' (a : Int) rfl
        have hcv1 : (convert 22 9 (.slice D a c1)).run Try.prog w1.drew = .ok (.string ⟨(R.take a).toArray⟩) w1.drew := bty.conv (hrD.drewN 1)
        have hcv2 : (convert 22 9 (.slice D a c1)).run Try.prog (w1.alloc (.cells #[] 5)).drew = .ok (.string ⟨(R.take a).toArray⟩) (w1.alloc (.cells #[] 5)).drew := bty.conv ((hrD.alloc (Nat.le_refl _) _).drewN 1)
        have HrD := Lib.hid hrD; have HrD2 := Lib.hid hrD2; clear hrD hrD2
        go_wp2
        go_region_law (refine bty.stepApp rfl (.tmp 36) (.tmp 39) rfl (l := []) (r := R.drop a) rfl rfl (base := w1.heap.size) ((Own.made0 w1 _).drewN 1) ((HrD2.out.alloc (Nat.le_refl _) _).drewN 1) (by simp; omega) (by simp) ?_; intro A4 c4 w4 hown4 hb4; have hb4' : Below w1.heap.size w1 w4 := ((Below.refl _ _).alloc (Nat.le_refl _) _).trans ⟨hb4.os, hb4.tape, hb4.output, hb4.size, hb4.block⟩; have hcv4 := bty.conv (HrD.out.below hb4'))
        all_goals
          go_wp2
          go_ret3
          exact ⟨A4, c4, ret3_len (by simp), (by have := hown4.mono (base' := w.heap.size) hz1; simpa using this), hb1.trans (hb4'.mono hz1)⟩
  · rw [tframeS_err l most x (frameS_err l most x htk hx) (by omega)]
    have Hr := Lib.hid hr; have Htk := Lib.hid htk; have Hx := Lib.hid hx; clear hr htk hl
    have hx1 : 2 ≤ x := by omega
    clear hx
    go_enter Try.func65, Try.ntmps65
    go_wp2_with fail
    refine (rtake_err A n c l _ Hr.out hn x Htk.out Hx.out).mono ?_
    rintro e w1 ⟨A1, c1, rfl, hown1, hb1⟩
    go_wp2
    go_ret3
    exact ⟨none, 0, rfl, Own.nil _ _ _, hb1⟩

theorem rtf_ok (A : Option Addr) (n c : Nat) (l : List UInt8) (most : Int) (w : World) (hr : Rb w w.heap.size A n c l) (hn : n ≤ 1000000) (hm : I64 most) (t : List UInt8) (s : Nat) (h : frameS l most = (t, s, 0)) :
    Calls Try.prog 65 #[.slice A n c, .int .i64 most] w (RetF w.heap.size w (t, l.drop s, 0)) := by
  have h' := rtakeFrame_c A n c l most w hr hn hm
  rw [tframeS_ok l most t s h] at h'
  exact h'
theorem rtf_err (A : Option Addr) (n c : Nat) (l : List UInt8) (most : Int) (w : World) (hr : Rb w w.heap.size A n c l) (hn : n ≤ 1000000) (hm : I64 most) (x : Nat) (h : frameS l most = ([], 0, x)) (hx : x = 2 ∨ x = 3 ∨ x = 5) :
    Calls Try.prog 65 #[.slice A n c, .int .i64 most] w (RetF w.heap.size w ([], [], x)) := by
  have h' := rtakeFrame_c A n c l most w hr hn hm
  rw [tframeS_err l most x h hx] at h'
  exact h'

end Go.Proofs.Ytplkjljhpmldfaa
