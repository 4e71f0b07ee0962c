/-
  The document's Unescape (threshingref04): what the call returns and leaves.
-/
import Derived.Test.YtihfejjkkgnneaaF5
import Derived.BigQuiet
namespace Go.Proofs.Ytihfejjkkgnneaa
open Go.RowKit Go.Maps

set_option maxRecDepth 100000 in
set_option maxHeartbeats 2000000 in
/-- the document's Unescape -/
theorem runescape_c (s : ByteArray) (w : World) (hs : s.size ≤ 100000) :
    Calls Try.prog 18 #[.string s] w (RetU w.heap.size w (Fm.unesc s.data.toList)) := by
  go_enter Try.func18, Try.ntmps18
  go_wp2
  go_loopw [4, 5] (fun o i wr => UnRel w.heap.size w s o i wr) (fun _ i _ => s.size - (intOf i).toNat)
  case atStart => exact ⟨_, _, [], 0, rfl, rfl, Nat.zero_le _, Own.made0 _ _, Nat.zero_le _, Un.start _, (Below.refl _ _).alloc (Nat.le_refl _) _⟩
  case round =>
    obtain ⟨A1, c1, L, k, rfl, rfl, hk, hown1, hLk, hU, hbel⟩ := hrel
    have hsz := hbel.size
    by_cases hlt : k < s.size
    · have hd := str_drop s k hlt
      rw [hd] at hU
      have HU := Lib.hid hU
      clear hd hU
      by_cases h9 : s[k] = 9
      · have Hf := Lib.hid (HU.out.bad (.inl h9))
        have hb9 : ((s[k].toNat : Int) == 9) = true := by rw [h9]; rfl
        clear h9 HU
        go_wp2
        go_ret2
        rw [Hf.out]
        exact ⟨rfl, hbel⟩
      · have hb9 : ((s[k].toNat : Int) == 9) = false := u8_ne h9
        by_cases h10 : s[k] = 10
        · have Hf := Lib.hid (HU.out.bad (.inr h10))
          have hb10 : ((s[k].toNat : Int) == 10) = true := by rw [h10]; rfl
          clear h9 h10 HU
          go_wp2
          go_ret2
          rw [Hf.out]
          exact ⟨rfl, hbel⟩
        · have hb10 : ((s[k].toNat : Int) == 10) = false := u8_ne h10
          by_cases h92 : s[k] = 92
          · have hb92 : ((s[k].toNat : Int) == 92) = true := by rw [h92]; rfl
            by_cases hl2 : k + 1 < s.size
            · have hd2 := str_drop s (k + 1) hl2
              have hU2 := HU.out
              rw [hd2, h92] at hU2
              have HU2 := Lib.hid hU2
              have hne : decide ((k : Int) + 1 = (s.size : Int)) = false := by simp; omega
              have hne2 : (((k : Int) + 1) == (s.size : Int)) = false := by simp; omega
              clear hd2 hU2 h92 HU h9 h10
              by_cases e116 : s[k + 1] = 116
              · have hc1 : ((s[k + 1].toNat : Int) == 116) = true := by rw [e116]; rfl
                have Ho := Lib.hid (show orig s[k + 1] = some 9 by rw [e116]; rfl)
                clear e116
                go_wp2_with (at_builtin; go_must (refine bty.wpApp rfl (.tmp 47) (.tmp 49) rfl (l := L) rfl rfl (hown1.alloc _) (Rb.oneI _ _ _ 9 rfl) ?hs3 ?hs4 ?_))
                case hs3 => simp; omega
                case hs4 => simp; omega
                intro A3 c3 w3 hown3 hbel3
                go_wp2
                go_roundw
                case rel => exact ⟨A3, c3, L ++ [9], k + 2, by simp, by go_num, by omega, hown3, by simp; omega, HU2.out.seq Ho.out, hbel.trans ((((Below.refl _ _).alloc (by omega) _).trans hbel3))⟩
                case measure => simp [intOf]; omega
              · have hc1 : ((s[k + 1].toNat : Int) == 116) = false := u8_ne e116
                by_cases e110 : s[k + 1] = 110
                · have hc2 : ((s[k + 1].toNat : Int) == 110) = true := by rw [e110]; rfl
                  clear e116
                  have Ho := Lib.hid (show orig s[k + 1] = some 10 by rw [e110]; rfl)
                  clear e110
                  go_wp2_with (at_builtin; go_must (refine bty.wpApp rfl (.tmp 47) (.tmp 49) rfl (l := L) rfl rfl (hown1.alloc _) (Rb.oneI _ _ _ 10 rfl) ?hs5 ?hs6 ?_))
                  case hs5 => simp; omega
                  case hs6 => simp; omega
                  intro A3 c3 w3 hown3 hbel3
                  go_wp2
                  go_roundw
                  case rel => exact ⟨A3, c3, L ++ [10], k + 2, by simp, by go_num, by omega, hown3, by simp; omega, HU2.out.seq Ho.out, hbel.trans ((((Below.refl _ _).alloc (by omega) _).trans hbel3))⟩
                  case measure => simp [intOf]; omega
                · have hc2 : ((s[k + 1].toNat : Int) == 110) = false := u8_ne e110
                  by_cases e92 : s[k + 1] = 92
                  · have hc3 : ((s[k + 1].toNat : Int) == 92) = true := by rw [e92]; rfl
                    clear e116 e110
                    have Ho := Lib.hid (show orig s[k + 1] = some 92 by rw [e92]; rfl)
                    clear e92
                    go_wp2_with (at_builtin; go_must (refine bty.wpApp rfl (.tmp 47) (.tmp 49) rfl (l := L) rfl rfl (hown1.alloc _) (Rb.oneI _ _ _ 92 rfl) ?hs7 ?hs8 ?_))
                    case hs7 => simp; omega
                    case hs8 => simp; omega
                    intro A3 c3 w3 hown3 hbel3
                    go_wp2
                    go_roundw
                    case rel => exact ⟨A3, c3, L ++ [92], k + 2, by simp, by go_num, by omega, hown3, by simp; omega, HU2.out.seq Ho.out, hbel.trans ((((Below.refl _ _).alloc (by omega) _).trans hbel3))⟩
                    case measure => simp [intOf]; omega
                  · have hc3 : ((s[k + 1].toNat : Int) == 92) = false := u8_ne e92
                    have Hf := Lib.hid (HU2.out.none_ (orig_none e116 e110 e92))
                    clear e116 e110 e92
                    go_wp2
                    go_ret2
                    rw [Hf.out]
                    exact ⟨rfl, hbel⟩
            · have he : k + 1 = s.size := by omega
              have hU2 := HU.out
              rw [List.drop_of_length_le (by rw [str_len]; omega), h92] at hU2
              have Hf := Lib.hid hU2.last
              have hne : decide ((k : Int) + 1 = (s.size : Int)) = true := by simp; omega
              have hne2 : (((k : Int) + 1) == (s.size : Int)) = true := by simp; omega
              clear hU2 h9 h10 h92 HU
              have He := Lib.hid he; clear he
              go_wp2
              go_ret2
              rw [Hf.out]
              exact ⟨rfl, hbel⟩
          · have hb92 : ((s[k].toNat : Int) == 92) = false := u8_ne h92
            have Hc := Lib.hid (show letter s[k] = none by unfold letter; rw [if_neg h9, if_neg h10, if_neg h92])
            clear h9 h10 h92
            go_wp2_with (at_builtin; go_must (refine bty.wpApp rfl (.tmp 47) (.tmp 49) rfl (l := L) rfl rfl (hown1.alloc _) (Rb.oneI _ _ _ s[k] rfl) ?hs1 ?hs2 ?_))
            case hs1 => simp; omega
            case hs2 => simp; omega
            intro A2 c2 w2 hown2 hbel2
            go_wp2
            go_roundw
            case rel => exact ⟨A2, c2, L ++ [s[k]], k + 1, by simp, by go_num, by omega, hown2, by simp; omega, HU.out.plain Hc.out, hbel.trans ((((Below.refl _ _).alloc (by omega) _).trans hbel2))⟩
            case measure => simp [intOf]; omega
    · have hU2 := hU
      rw [List.drop_of_length_le (by rw [str_len]; omega)] at hU2
      have Hf := Lib.hid hU2.end_
      clear hU hU2
      have hcv := bty.conv hown1.rb
      go_wp2
      go_ret2
      rw [Hf.out]
      exact ⟨rfl, hbel⟩
end Go.Proofs.Ytihfejjkkgnneaa
