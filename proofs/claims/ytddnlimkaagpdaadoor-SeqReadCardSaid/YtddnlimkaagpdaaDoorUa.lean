/-
  seq's records: what the call returns and leaves.
-/
import Derived.Test.YtddnlimkaagpdaaDoorS9
namespace Go.Proofs.YtddnlimkaagpdaaDoor
open Go.RowKit

theorem blk_no {x : List UInt8} (h : x.take 2 ≠ [255, 83]) : Sm.blk x = none := by unfold Sm.blk; rw [if_neg h]
theorem blk_yes {x : List UInt8} (h : x.take 2 = [255, 83]) : Sm.blk x = (Sm.une (x.drop 2)).bind fun s => (Sm.opn s).bind Sm.cont := by unfold Sm.blk; rw [if_pos h]
theorem openS_cases (l : List UInt8) : (∃ c, Sm.opn l = some c ∧ Cm.openS Cm.tab l = (c, 0) ∧ c.length ≤ l.length) ∨ (∃ x, Sm.opn l = none ∧ Cm.openS Cm.tab l = ([], x) ∧ x ≠ 0) := by
  rcases h : Sm.opn l with _ | c
  · refine .inr ?_
    have h0 : (Cm.openS Cm.tab l).2 ≠ 0 := fun e => by unfold Sm.opn at h; rw [if_pos e] at h; cases h
    by_cases h4 : l.length < 4
    · exact ⟨2, rfl, openS_short Cm.tab l Cm.tab_len h4, by omega⟩
    · by_cases h3 : l.drop (l.length - 4) = Cm.four (Cm.sum Cm.tab (l.take (l.length - 4)))
      · rw [openS_ok Cm.tab l Cm.tab_len h4 h3] at h0; exact absurd rfl h0
      · exact ⟨4, rfl, openS_no Cm.tab l Cm.tab_len h4 h3, by omega⟩
  · have h1 := Sm.opn_take h
    exact .inl ⟨c, rfl, Sm.opn_some h, by rw [h1.2, List.length_take]; omega⟩

set_option maxRecDepth 100000 in
set_option maxHeartbeats 2000000 in
/-- records -/
theorem records_c (At : Option Addr) (ct : Nat) (A : Option Addr) (n c : Nat) (x : List UInt8) (w : World) (ht : Rn w w.heap.size At 256 ct Cm.tab) (hr : Rb w w.heap.size A n c x) (hn : n ≤ 900000) :
    Calls Tryd.prog 40 #[.slice At 256 ct, .slice A n c] w (RetRc w (Sm.blk x)) := by
  have hl := hr.len
  obtain ⟨U, hU⟩ : ∃ U, U = Sm.blk x := ⟨_, rfl⟩
  rw [← hU]
  obtain ⟨w1, hw1⟩ : ∃ w1, w1 = w.alloc (.cells #[.int .u8 255, .int .u8 83] 5 (2, 3)) := ⟨_, rfl⟩
  have hb1 : Below w.heap.size w w1 := by rw [hw1]; exact (Below.refl _ _).alloc (Nat.le_refl _) _
  have z1 := hb1.size
  have hlit : Rb w1 (w.heap.size + 1) (some ⟨w.heap.size, 0, none⟩) 2 2 [255, 83] := by rw [hw1]; exact Rb.lit w _ _ _ _ 2 rfl rfl (by omega)
  have hcv : (convert 22 22 (.slice (some ⟨w.heap.size, 0, none⟩) 2 2)).run Tryd.prog (w.alloc (.cells #[.int .u8 255, .int .u8 83] 5)) = .ok (.slice (some ⟨w.heap.size, 0, none⟩) 2 2) w1 := by
    rw [hw1]; exact Lib.run_convert_bytes_const (P := Tryd.prog) w 22 5 #[.int .u8 255, .int .u8 83] 2 2 Tryd.underlying22 Tryd.underlying5
  have hr1 := hr.below hb1
  have ht1 := ht.below hb1
  by_cases hm : x.take 2 = [255, 83]
  · have hcut := cutp_yes A (some ⟨w.heap.size, 0, none⟩) n c 2 2 _ _ x [255, 83] w1 hr1 hlit hm
    rw [blk_yes hm] at hU
    have hdl : (x.drop 2).length = n - 2 := by rw [List.length_drop, hl]
    obtain ⟨X, hX⟩ : ∃ X, X = x.drop 2 := ⟨_, rfl⟩
    rw [← hX] at hcut hU hdl
    have Hcut := Lib.hid hcut; have HU := Lib.hid hU; have Hdl := Lib.hid hdl; have Ht1 := Lib.hid ht1; have Hb1 := Lib.hid hb1
    clear hcut hU hdl hr ht hlit hr1 ht1 hw1 hX hm hl hb1
    rcases hune : Sm.une X with _ | u
    · obtain rfl : U = none := by rw [HU.out, hune]; rfl
      clear HU
      go_enter Tryd.func40, Tryd.ntmps40
      go_wp2_with fail
      refine Hcut.out.mono ?_
      rintro e w2 ⟨⟨E, rfl, hrE⟩, rfl⟩
      have HrE := Lib.hid hrE; clear hrE
      go_wp2_with fail
      refine (unesc_c E (n - 2) (c - 2) X _ (HrE.out.more z1) (by omega)).mono ?_
      rw [unS_none hune]
      rintro e w2 ⟨A2, c2, rfl, ho2, hb2⟩
      have bz := Hb1.out.trans (hb2.mono z1)
      go_wp2
      go_ret2
      exact ⟨bz, none, 0, 0, false, rfl, rfl⟩
    · have hul : u.length ≤ X.length := Sm.une_len _ X u (Nat.le_refl _) hune
      have hul2 : u.length ≤ 900000 := by have := Hdl.out; omega
      rcases openS_cases u with ⟨y, ho, hop, hyl⟩ | ⟨y, ho, hop, hy⟩
      · have hUc : U = Sm.cont y := by rw [HU.out, hune]; dsimp only [Option.bind_some]; rw [ho]; rfl
        have HUc := Lib.hid hUc
        clear HU hUc
        go_enter Tryd.func40, Tryd.ntmps40
        go_wp2_with fail
        refine Hcut.out.mono ?_
        rintro e w2 ⟨⟨E, rfl, hrE⟩, rfl⟩
        have HrE := Lib.hid hrE; clear hrE
        go_wp2_with fail
        refine (unesc_c E (n - 2) (c - 2) X _ (HrE.out.more z1) (by omega)).mono ?_
        rw [unS_some hune]
        rintro e w2 ⟨A2, c2, rfl, ho2, hb2⟩
        have z2 := hb2.size
        have Hb2 := Lib.hid (Hb1.out.trans (hb2.mono z1))
        have hop2 := open_c At 256 ct Cm.tab A2 u.length c2 u w2 ((Ht1.out.below (hb2.mono z1)).more (by omega)) (by omega) ho2.rb (by omega)
        rw [hop] at hop2
        have Hop2 := Lib.hid hop2; clear hop2 ho2 hb2
        go_wp2_with fail
        refine Hop2.out.mono ?_
        rintro e w3 ⟨A3, c3, rfl, ho3, hb3⟩
        have z3 := hb3.size
        have Hb3 := Lib.hid (Hb2.out.trans (hb3.mono (by omega)))
        have htc := takeContents_c A3 y.length c3 _ y w3 ho3.rb (Nat.le_refl _) (by omega)
        rw [← HUc.out] at htc
        have Htc := Lib.hid htc; clear htc ho3 hb3
        go_wp2_with fail
        refine Htc.out.mono ?_
        rintro e w4 ⟨hb4, A4, k4, c4, o4, rfl, hm4⟩
        have z4 := hb4.size
        have bz := Hb3.out.trans (hb4.mono (by omega))
        have Hm4 := Lib.hid hm4; clear hm4
        go_wp2
        go_ret2
        refine ⟨bz, A4, k4, c4, o4, rfl, ?_⟩
        have hm := Hm4.out
        rcases U with _ | rs
        · exact hm
        · exact ⟨hm.1, hm.2.1, hm.2.2.keep (stays_weak fun b hb => ⟨Nat.le_trans (by omega) hb.1, hb.2⟩)⟩
      · obtain rfl : U = none := by rw [HU.out, hune]; dsimp only [Option.bind_some]; rw [ho]; rfl
        clear HU
        have hy2 : ((y : Int) == 0) = false := by simp [hy]
        have hy3 : ((y : Int) != 0) = true := by simp [hy]
        go_enter Tryd.func40, Tryd.ntmps40
        go_wp2_with fail
        refine Hcut.out.mono ?_
        rintro e w2 ⟨⟨E, rfl, hrE⟩, rfl⟩
        have HrE := Lib.hid hrE; clear hrE
        go_wp2_with fail
        refine (unesc_c E (n - 2) (c - 2) X _ (HrE.out.more z1) (by omega)).mono ?_
        rw [unS_some hune]
        rintro e w2 ⟨A2, c2, rfl, ho2, hb2⟩
        have z2 := hb2.size
        have Hb2 := Lib.hid (Hb1.out.trans (hb2.mono z1))
        have hop2 := open_c At 256 ct Cm.tab A2 u.length c2 u w2 ((Ht1.out.below (hb2.mono z1)).more (by omega)) (by omega) ho2.rb (by omega)
        rw [hop] at hop2
        have Hop2 := Lib.hid hop2; clear hop2 ho2 hb2
        go_wp2_with fail
        refine Hop2.out.mono ?_
        rintro e w3 ⟨A3, c3, rfl, ho3, hb3⟩
        have z3 := hb3.size
        have bz := Hb2.out.trans (hb3.mono (by omega))
        go_wp2
        go_ret2
        exact ⟨bz, none, 0, 0, false, rfl, rfl⟩
  · obtain rfl : U = none := by rw [hU, blk_no hm]
    have Hcut := Lib.hid (cutp_no A (some ⟨w.heap.size, 0, none⟩) n c 2 2 _ _ x [255, 83] w1 hr1 hlit hm)
    clear hr ht hlit hr1 ht1 hw1 hm hl hU
    go_enter Tryd.func40, Tryd.ntmps40
    go_wp2_with fail
    refine Hcut.out.mono ?_
    rintro e w2 ⟨rfl, rfl⟩
    go_wp2
    go_ret2
    exact ⟨hb1, none, 0, 0, false, rfl, rfl⟩
end Go.Proofs.YtddnlimkaagpdaaDoor
