/-
  The document's Opened (threshingref02): what the call returns and leaves.
-/
import Derived.Test.YtddnlimkaagpdaaDoorS1
namespace Go.Proofs.YtddnlimkaagpdaaDoor
open Go.RowKit

set_option maxRecDepth 100000 in
set_option maxHeartbeats 2000000 in
/-- the document's Opened -/
theorem ropened_c (D : Option Addr) (m d : Nat) (l : List UInt8) (w : World) (hl : Rb w w.heap.size D m d l) (hm : m ≤ 900000) :
    Calls Tryd.prog 44 #[.slice D m d] w (RetE w.heap.size w (Cm.openS Cm.tab l)) := by
  have hll := hl.len
  by_cases h4 : m < 4
  · rw [openS_short Cm.tab l Cm.tab_len (by omega)]
    have Hl := Lib.hid hl; clear hl hll
    go_enter Tryd.func44, Tryd.ntmps44
    go_wp2
    go_ret2
    exact ⟨none, 0, rfl, Own.nil _ _ _, Below.refl _ _⟩
  · obtain ⟨z, hz⟩ : ∃ z, m = z + 4 := ⟨m - 4, by omega⟩
    subst hz
    have hz4 : l.length - 4 = z := by omega
    obtain ⟨S, hS⟩ : ∃ S, S = Cm.sum Cm.tab (l.take z) := ⟨_, rfl⟩
    have hsl : S < 4294967296 := by rw [hS]; exact Cm.sum_lt _ Cm.tab_lt _
    obtain ⟨f, hf⟩ : ∃ f, f = Cm.four S := ⟨_, rfl⟩
    obtain ⟨g, hg⟩ : ∃ g, g = l.drop z := ⟨_, rfl⟩
    have hno : f ≠ g → Cm.openS Cm.tab l = ([], 4) := fun hne => openS_no _ l Cm.tab_len (by omega) (by rw [hz4, ← hS, ← hf, ← hg]; exact fun e => hne e.symm)
    have hyes : f = g → Cm.openS Cm.tab l = (l.take z, 0) := fun he => by rw [← hz4]; exact openS_ok _ l Cm.tab_len (by omega) (by rw [hz4, ← hS, ← hf, ← hg, he])
    obtain ⟨D2, hD2, hrD2⟩ := bty.upto_ hl (k := z) (by omega) (z : Int) rfl
    obtain ⟨D3, hD3, hrD3⟩ := bty.from_ hl (k := z) (by omega) (z : Int) rfl
    rw [← hg] at hrD3
    have e4 : z + 4 - z = 4 := by omega
    rw [e4] at hrD3 hD3
    have hcv1 : (convert 22 9 (.slice D3 4 (d - z))).run Tryd.prog w.drew = .ok (.string ⟨g.toArray⟩) w.drew := bty.conv (hrD3.drewN 1)
    have hfour : ∀ W : World, Calls Tryd.prog 54 #[.int .u32 (S : Int)] W (RetFour W f) := fun W => by rw [hf]; exact rfour_c S W hsl
    have hplain : Calls Tryd.prog 55 #[.slice D2 z d] w.drew fun e w' => e = .returned (.int .u32 (S : Int)) ∧ w.drew = w' := rplain_c D2 z d _ _ w.drew (hrD2.drewN 1) (by omega) S hS
    have HrD2 := Lib.hid hrD2; have HrD3 := Lib.hid hrD3; have HLL := Lib.hid hll; have HFour := Lib.hid hfour; have HPlain := Lib.hid hplain
    clear hl hll hS hsl hf hg hrD2 hrD3 hz4 e4 hfour hplain
    by_cases hfg : f = g
    · rw [hyes hfg]
      subst hfg
      clear hyes hno
      go_enter Tryd.func44, Tryd.ntmps44
      go_upto_region 4 with fail
      go_cut [20] (fun s wx => s = .bool false ∧ Below w.heap.size w wx)
      case first =>
        go_region_law (first | (go_simp; go_at_call 55; (with_reducible refine (HPlain.out).mono ?_); rintro e w3 ⟨rfl, rfl⟩) | (go_simp; go_at_call 54; (with_reducible refine (HFour.out _).mono ?_); rintro e w3 ⟨A3, c3, rfl, hown3, hb3⟩; have hb3' : Below w.heap.size w w3 := ⟨hb3.os, hb3.tape, hb3.output, hb3.size, hb3.block⟩; have hcvA := bty.conv (Own.rbl hown3); have hcvB := bty.conv (HrD3.out.below hb3')))
        all_goals (go_wp2_with fail; go_meet; exact ⟨by simp, hb3'⟩)
      case rest =>
        obtain ⟨rfl, hbx⟩ := hcut
        rename_i wx _
        have hzx := hbx.size
        have Hbx := Lib.hid hbx; clear hbx
        go_wp2_with (at_builtin; go_must (refine bty.wpApp rfl (.tmp 21) (.tmp 24) rfl (l := []) (r := l.take z) rfl rfl (Own.made0 _ _) ((HrD2.out.below Hbx.out).alloc hzx _) ?hs1 ?hs2 ?_))
        case hs1 => simp; omega
        case hs2 => simp
        intro A2 c2 w2 hown2 hb2
        go_wp2
        go_ret2
        refine ⟨A2, c2, ret2_len (by simp), hown2.mono hzx, Hbx.out.trans ((((Below.refl _ _).alloc (Nat.le_refl _) _).trans hb2).mono hzx)⟩
    · rw [hno hfg]
      have Hfg := Lib.hid hfg
      clear hyes hno hfg
      go_enter Tryd.func44, Tryd.ntmps44
      go_upto_region 4 with fail
      go_cut [20] (fun s wx => s = .bool true ∧ Below w.heap.size w wx)
      case first =>
        go_region_law (first | (go_simp; go_at_call 55; (with_reducible refine (HPlain.out).mono ?_); rintro e w3 ⟨rfl, rfl⟩) | (go_simp; go_at_call 54; (with_reducible refine (HFour.out _).mono ?_); rintro e w3 ⟨A3, c3, rfl, hown3, hb3⟩; have hb3' : Below w.heap.size w w3 := ⟨hb3.os, hb3.tape, hb3.output, hb3.size, hb3.block⟩; have hcvA := bty.conv (Own.rbl hown3); have hcvB := bty.conv (HrD3.out.below hb3')))
        all_goals (go_wp2_with fail; go_meet; exact ⟨by simp [Hfg.out], hb3'⟩)
      case rest =>
        obtain ⟨rfl, hbx⟩ := hcut
        go_wp2
        go_ret2
        exact ⟨none, 0, rfl, Own.nil _ _ _, hbx⟩
end Go.Proofs.YtddnlimkaagpdaaDoor
