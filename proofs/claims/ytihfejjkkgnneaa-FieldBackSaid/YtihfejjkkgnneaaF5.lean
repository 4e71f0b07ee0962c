/-
  field's Escape, Unescape; the document's Escape, Unescape: what each call returns and leaves.
-/
import Derived.Test.YtihfejjkkgnneaaF4
namespace Go.Proofs.Ytihfejjkkgnneaa
open Go.RowKit Go.Maps

/-- A call hands back the text l. -/
def RetS (base : Nat) (w : World) (l : List UInt8) (e : Ending) (w' : World) : Prop := e = .returned (.string ⟨l.toArray⟩) ∧ Below base w w'

set_option maxRecDepth 100000 in
/-- Escape -/
theorem escape_c (s : ByteArray) (w : World) (hs : s.size ≤ 100000) :
    Calls Try.prog 19 #[.string s] w (RetS w.heap.size w (Fm.esc s.data.toList)) := by
  go_enter Try.func19, Try.ntmps19
  go_wp2_with fail
  refine (escapes_c _).mono ?_
  rintro e w1 ⟨rfl, hm1, hb1⟩
  have hlt := hm1.lt
  go_wp2_with fail
  refine (addEscaped_c w.heap.size w1.heap.size none 0 [] s _ hm1 hlt (Own.nil _ _ _) (Nat.le_refl _) (by simp) hs).mono ?_
  rintro e w2 ⟨A2, c2, rfl, hown2, hb2⟩
  have hcv := bty.conv hown2.rb
  simp only [List.nil_append] at hcv
  go_wp2
  go_ret
  exact ⟨rfl, hb1.trans (hb2.mono hb1.size)⟩

set_option maxRecDepth 100000 in
/-- Unescape -/
theorem unescape_c (s : ByteArray) (w : World) (hs : s.size ≤ 100000) :
    Calls Try.prog 17 #[.string s] w (RetU w.heap.size w (Fm.unesc s.data.toList)) := by
  cases hu : Fm.unesc s.data.toList with
  | some t =>
    have Hu := Lib.hid hu; clear hu
    go_enter Try.func17, Try.ntmps17
    go_wp2_with fail
    refine (escapes_c _).mono ?_
    rintro e w1 ⟨rfl, hm1, hb1⟩
    go_wp2_with fail
    refine (unescaped_c w.heap.size s _ hm1 hs).mono ?_
    rw [Hu.out]
    rintro e w2 ⟨rfl, hb2⟩
    unfold unE
    go_wp2
    go_ret2
    exact ⟨rfl, hb1.trans (hb2.mono hb1.size)⟩
  | none =>
    have Hu := Lib.hid hu; clear hu
    go_enter Try.func17, Try.ntmps17
    go_wp2_with fail
    refine (escapes_c _).mono ?_
    rintro e w1 ⟨rfl, hm1, hb1⟩
    go_wp2_with fail
    refine (unescaped_c w.heap.size s _ hm1 hs).mono ?_
    rw [Hu.out]
    rintro e w2 ⟨rfl, hb2⟩
    unfold unE
    go_wp2
    go_ret2
    exact ⟨rfl, hb1.trans (hb2.mono hb1.size)⟩

set_option maxRecDepth 100000 in
set_option maxHeartbeats 1000000 in
/-- the document's Escape -/
theorem rescape_c (s : ByteArray) (w : World) (hs : s.size ≤ 100000) :
    Calls Try.prog 20 #[.string s] w (RetS w.heap.size w (Fm.esc s.data.toList)) := by
  go_enter Try.func20, Try.ntmps20
  go_wp2
  go_loopw [3, 4] (fun o i wr => EscRel w.heap.size w [] s o i wr) (fun _ i _ => s.size - (intOf i).toNat)
  case atStart => exact ⟨_, _, [], 0, rfl, rfl, Nat.zero_le _, Own.made0 _ _, by simp [Fm.esc], (Below.refl _ _).alloc (Nat.le_refl _) _⟩
  case round =>
    obtain ⟨A1, c1, L, k, rfl, rfl, hk, hown1, hL, hbel⟩ := hrel
    have hlen := congrArg List.length hL
    have hel := Fm.esc_len (s.data.toList.take k)
    have htl : (s.data.toList.take k).length ≤ k := List.length_take_le _ _
    rw [List.nil_append] at hlen
    have hLs : L.length ≤ 1300000 := by omega
    have hsz := hbel.size
    by_cases hlt : k < s.size
    · have ht := str_take s k hlt
      have hnx : L ++ escB s[k] = [] ++ Fm.esc (s.data.toList.take (k + 1)) := by rw [ht, esc_snoc, hL, List.append_assoc]
      have Hnx := Lib.hid hnx
      clear hL hlen hel htl ht hnx
      by_cases h9 : s[k] = 9
      · have hb9 : ((s[k].toNat : Int) == 9) = true := by rw [h9]; rfl
        have He := Lib.hid (show escB s[k] = [92, 116] by rw [h9]; rfl)
        clear h9
        go_wp2_with (at_builtin; go_must (refine bty.wpApp rfl (.tmp 23) (.tmp 24) rfl (l := L) rfl rfl (hown1.alloc _) (Rb.twoI _ _ _ _ 92 116 rfl rfl) ?hs1 ?hs2 ?_))
        case hs1 => simp; omega
        case hs2 => simp; omega
        intro A2 c2 w2 hown2 hbel2
        go_wp2
        go_roundw
        case rel => exact ⟨A2, c2, L ++ [92, 116], k + 1, by simp, by go_num, by omega, hown2, by rw [← Hnx.out, He.out], hbel.trans ((((Below.refl _ _).alloc (by omega) _).trans hbel2))⟩
        case measure => simp [intOf]; omega
      · have hb9 : ((s[k].toNat : Int) == 9) = false := u8_ne h9
        by_cases h10 : s[k] = 10
        · have hb10 : ((s[k].toNat : Int) == 10) = true := by rw [h10]; rfl
          have He := Lib.hid (show escB s[k] = [92, 110] by rw [h10]; rfl)
          clear h9 h10
          go_wp2_with (at_builtin; go_must (refine bty.wpApp rfl (.tmp 28) (.tmp 29) rfl (l := L) rfl rfl (hown1.alloc _) (Rb.twoI _ _ _ _ 92 110 rfl rfl) ?hs3 ?hs4 ?_))
          case hs3 => simp; omega
          case hs4 => simp; omega
          intro A2 c2 w2 hown2 hbel2
          go_wp2
          go_roundw
          case rel => exact ⟨A2, c2, L ++ [92, 110], k + 1, by simp, by go_num, by omega, hown2, by rw [← Hnx.out, He.out], hbel.trans ((((Below.refl _ _).alloc (by omega) _).trans hbel2))⟩
          case measure => simp [intOf]; omega
        · have hb10 : ((s[k].toNat : Int) == 10) = false := u8_ne h10
          by_cases h92 : s[k] = 92
          · have hb92 : ((s[k].toNat : Int) == 92) = true := by rw [h92]; rfl
            have He := Lib.hid (show escB s[k] = [92, 92] by rw [h92]; rfl)
            clear h9 h10 h92
            go_wp2_with (at_builtin; go_must (refine bty.wpApp rfl (.tmp 33) (.tmp 34) rfl (l := L) rfl rfl (hown1.alloc _) (Rb.twoI _ _ _ _ 92 92 rfl rfl) ?hs5 ?hs6 ?_))
            case hs5 => simp; omega
            case hs6 => simp; omega
            intro A2 c2 w2 hown2 hbel2
            go_wp2
            go_roundw
            case rel => exact ⟨A2, c2, L ++ [92, 92], k + 1, by simp, by go_num, by omega, hown2, by rw [← Hnx.out, He.out], hbel.trans ((((Below.refl _ _).alloc (by omega) _).trans hbel2))⟩
            case measure => simp [intOf]; omega
          · have hb92 : ((s[k].toNat : Int) == 92) = false := u8_ne h92
            have He := Lib.hid (show escB s[k] = [s[k]] from escB_none (by unfold letter; rw [if_neg h9, if_neg h10, if_neg h92]))
            clear h9 h10 h92
            go_wp2_with (at_builtin; go_must (refine bty.wpApp rfl (.tmp 15) (.tmp 19) rfl (l := L) rfl rfl (hown1.alloc _) (Rb.oneI _ _ _ s[k] rfl) ?hs7 ?hs8 ?_))
            case hs7 => simp; omega
            case hs8 => simp; omega
            intro A2 c2 w2 hown2 hbel2
            go_wp2
            go_roundw
            case rel => exact ⟨A2, c2, L ++ [s[k]], k + 1, by simp, by go_num, by omega, hown2, by rw [← Hnx.out, He.out], hbel.trans ((((Below.refl _ _).alloc (by omega) _).trans hbel2))⟩
            case measure => simp [intOf]; omega
    · have e : L = Fm.esc s.data.toList := by rw [hL, List.nil_append, List.take_of_length_le (by rw [str_len]; omega)]
      have HE := Lib.hid e
      have hcv := bty.conv hown1.rb
      clear hL hlen hel htl e
      go_wp2
      go_ret
      rw [← HE.out]
      exact ⟨rfl, hbel⟩
end Go.Proofs.Ytihfejjkkgnneaa
