/-
  Joined: Dw.
-/
import Derived.Test.YtknmhdkomjjneaaGreatDoorJW42
import Derived.Test.YtknmhdkomjjneaaGreatDoorJW13
import Derived.Laws.Concat
import Derived.Laws.Strings3
/-
  ContainsAny, ReplaceAll; csv's Quote, the document's Quote: what each call returns.
-/
namespace Go.Proofs.YtknmhdkomjjneaaGreatDoor.Csv
open Go.RowKit

def Mx (w : World) : Prop := (∃ m, w.cell? ⟨0, 0, none⟩ = some (.int .i64 m)) ∧ 0 < w.heap.size
theorem Mx.below {w w' : World} {B : Nat} (h : Mx w) (hb : Below B w w') (hB : 0 < B) : Mx w' := by
  obtain ⟨⟨m, hm⟩, h0⟩ := h
  exact ⟨⟨m, (hb.cell (p := ⟨0, 0, none⟩) hB).trans hm⟩, Nat.lt_of_lt_of_le h0 hb.size⟩
theorem Mx.below' {w w' : World} (h : Mx w) (hb : Below w.heap.size w w') : Mx w' := h.below hb h.2

theorem set72 : (Tryz.prog.info? 241).map (fun i => (i.zero, i.size)) = some (some (.agg (Array.replicate 256 (.bool false))), 256) := by kernel_rfl
theorem iany_c (s : ByteArray) (hs : s.size ≤ 1000000) (w : World) : Calls Tryz.prog 215 #[.string s, .string Q4] w (RetK w (s.data.toList.any Cv.nd)) := by
  by_cases h8 : s.size ≤ 8
  · exact iany_short s h8 w
  · refine (Tryz.strings_IndexAny_long (zero_of_info set72).1 s Q4 w (by decide) (by omega) (by omega) (by decide) (fun j b h => q4_low b (List.mem_of_getElem? h))).mono ?_
    rintro e w' ⟨rfl, hw⟩
    rw [q4_list]
    refine ⟨_, rfl, any_nd _, ?_⟩
    rw [hw]
    exact ((Below.refl _ _).alloc (Nat.le_refl _) _).alloc (by simp) _

set_option maxRecDepth 100000 in
theorem cany_c (s : ByteArray) (hs : s.size ≤ 1000000) (w : World) : Calls Tryz.prog 182 #[.string s, .string Q4] w fun e w' => e = .returned (.bool (s.data.toList.any Cv.nd)) ∧ Below w.heap.size w w' := by
  obtain ⟨b, hbn⟩ : ∃ b, b = s.data.toList.any Cv.nd := ⟨_, rfl⟩
  have H := Lib.hid (iany_c s hs w)
  rw [← hbn] at H ⊢
  clear hbn
  go_enter Tryz.func182, Tryz.ntmps182
  go_wp2_with fail
  refine H.out.mono ?_
  rintro e w' ⟨k, rfl, hk, hb⟩
  subst hk
  go_wp2
  go_ret
  exact ⟨rfl, hb⟩

theorem repl_c (s : ByteArray) (hs : s.size ≤ 1000000) (w : World) (hx : Mx w) : Calls Tryz.prog 183 #[.string s, .string ⟨#[34]⟩, .string ⟨#[34, 34]⟩] w fun e w' => e = .returned (.string ⟨(Cv.dbl s.data.toList).toArray⟩) ∧ Below w.heap.size w w' := by
  obtain ⟨⟨m, hm⟩, _⟩ := hx
  have hcnt : Lib.countB s ⟨#[34]⟩ ≤ s.data.toList.length + 1 := Lib.count_le _ _
  rw [str_len] at hcnt
  have e2 : (⟨#[34, 34]⟩ : ByteArray).size = 2 := rfl
  refine (Tryz.strings_ReplaceAll s ⟨#[34]⟩ ⟨#[34, 34]⟩ m w (by omega) hm (by decide) (by rw [e2]; omega)).mono ?_
  rintro e w' ⟨rfl, hb⟩
  refine ⟨?_, hb⟩
  have : Lib.replaceAll s.data.toList (⟨#[34]⟩ : ByteArray).data.toList (⟨#[34, 34]⟩ : ByteArray).data.toList = Cv.dbl s.data.toList := Cv.replaceAll_dbl _
  rw [this]

set_option maxRecDepth 100000 in
theorem quote_c (s : ByteArray) (hs : s.size ≤ 1000000) (w : World) (hx : Mx w) : Calls Tryz.prog 145 #[.string s] w fun e w' => e = .returned (.string ⟨(Cv.qt s.data.toList).toArray⟩) ∧ Below w.heap.size w w' := by
  have H := Lib.hid (cany_c s hs w)
  cases hn : s.data.toList.any Cv.nd with
  | false =>
    rw [Cv.qt_no hn]
    have H2 := H.out
    rw [hn] at H2
    have H2 := Lib.hid H2; clear H hx
    go_enter Tryz.func145, Tryz.ntmps145
    go_wp2_with fail
    refine H2.out.mono ?_
    rintro e w' ⟨rfl, hb⟩
    go_wp2
    go_ret
    exact ⟨rfl, hb⟩
  | true =>
    rw [Cv.qt_yes hn]
    have hrp := fun W h => repl_c s hs W h
    have hdl := Cv.dbl_len s.data.toList
    rw [str_len] at hdl
    obtain ⟨D, hD⟩ : ∃ D, D = Cv.dbl s.data.toList := ⟨_, rfl⟩
    rw [← hD] at hrp hdl ⊢
    have k1 : ¬ 9223372036854775807 < 1 + D.length := by omega
    have k2 : ¬ 9223372036854775807 < 1 + D.length + 1 := by omega
    have Hrp := Lib.hid hrp; clear hrp hD hdl
    have H2 := H.out
    rw [hn] at H2
    have H2 := Lib.hid H2; have Hx := Lib.hid hx; clear H hx
    go_enter Tryz.func145, Tryz.ntmps145
    go_wp2_with fail
    refine H2.out.mono ?_
    rintro e w1 ⟨rfl, hb1⟩
    have hx1 := Hx.out.below' hb1
    have z1 := hb1.size
    have Hx1 := Lib.hid hx1; clear hx1
    go_wp2_with fail
    refine (Hrp.out _ Hx1.out).mono ?_
    rintro e w2 ⟨rfl, hb2⟩
    go_wp2
    go_ret
    exact ⟨by congr 2, hb1.trans (hb2.mono z1)⟩

theorem ext_one (s : ByteArray) (i : Nat) (x : UInt8) (h : s.data.toList[i]? = some x) : s.extract i (i + 1) = ⟨#[x]⟩ := by
  apply str_eq
  rw [ByteArray.data_extract, Array.toList_extract]
  show List.extract _ _ _ = [x]
  rw [List.extract_eq_take_drop]
  have hi : i < s.data.toList.length := by
    rcases Nat.lt_or_ge i s.data.toList.length with h' | h'
    · exact h'
    · rw [List.getElem?_eq_none h'] at h; cases h
  rw [List.drop_eq_getElem_cons hi]
  rw [List.getElem?_eq_getElem hi] at h
  injection h with h
  rw [h, show i + 1 - i = 1 by omega]
  rfl
def QtRel (s : ByteArray) (o1 o2 o3 : Value) : Prop := ∃ i : Nat, o3 = .int .i64 (i : Int) ∧ i ≤ s.size ∧ o1 = .bool ((s.data.toList.take i).any Cv.nd) ∧ o2 = .string ⟨(34 :: Cv.dbl (s.data.toList.take i)).toArray⟩

set_option maxRecDepth 100000 in
set_option maxHeartbeats 2000000 in
theorem quoteD_c (s : ByteArray) (hs : s.size ≤ 1000000) (w : World) : Calls Tryz.prog 67 #[.string s] w fun e w' => e = .returned (.string ⟨(Cv.qt s.data.toList).toArray⟩) ∧ w = w' := by
  go_enter Tryz.func67, Tryz.ntmps67
  go_wp2
  go_loop [3, 4, 5] (fun o1 o2 o3 => QtRel s o1 o2 o3) (fun _ _ o3 => s.size - (intOf o3).toNat)
  case atStart => exact ⟨0, rfl, Nat.zero_le _, rfl, rfl⟩
  case round =>
    obtain ⟨i, rfl, hi, rfl, rfl⟩ := hrel
    by_cases hlt : i < s.size
    · obtain ⟨x, hx⟩ : ∃ x : UInt8, s[i]'hlt = x := ⟨_, rfl⟩
      have hxl : s.data.toList[i]? = some x := by rw [← hx]; exact Lib.data_getElem? s i hlt
      have hsn := any_take _ i x hxl
      have hdb : Cv.dbl (s.data.toList.take (i + 1)) = Cv.dbl (s.data.toList.take i) ++ Cv.dbl [x] := by
        rw [List.take_add_one, hxl, Cv.dbl_app]; rfl
      obtain ⟨N, hN⟩ : ∃ N, N = (s.data.toList.take i).any Cv.nd := ⟨_, rfl⟩
      have hml := Cv.dbl_len (s.data.toList.take i)
      rw [List.length_take, str_len] at hml
      obtain ⟨M, hM⟩ : ∃ M, M = Cv.dbl (s.data.toList.take i) := ⟨_, rfl⟩
      rw [← hN] at hsn ⊢
      rw [← hM] at hdb hml ⊢
      have hext := ext_one s i x hxl
      have hi1 : i + 1 ≤ s.size := hlt
      have Hsn := Lib.hid hsn; have Hdb := Lib.hid hdb; have Hext := Lib.hid hext
      clear hsn hdb hN hM hxl hext
      have k1 : ¬ 9223372036854775807 < M.length + 1 + 1 := by omega
      have k2 : ¬ 9223372036854775807 < M.length + 1 + 1 + 1 := by omega
      have hf1 : Cv.dbl [x] = if x = 34 then [34, 34] else [x] := by
        by_cases h : x = 34
        · subst h; rfl
        · rw [Cv.dbl_other _ h, if_neg h]; rfl
      have Hf1 := Lib.hid hf1; clear hf1
      have d34 : x ≠ 34 → ((x.toNat : Int) == 34) = false := fun h => nb (y := 34) h
      have d44 : x ≠ 44 → ((x.toNat : Int) == 44) = false := fun h => nb (y := 44) h
      have d10 : x ≠ 10 → ((x.toNat : Int) == 10) = false := fun h => nb (y := 10) h
      have d13 : x ≠ 13 → ((x.toNat : Int) == 13) = false := fun h => nb (y := 13) h
      by_cases h34 : x = 34
      · subst h34
        clear d34 d44 d10 d13
        rcases (show N = true ∨ N = false by cases N <;> simp) with rfl | rfl
        · go_wp2
          go_round
          case rel => exact ⟨i + 1, by go_num, hi1, by rw [Hsn.out]; rfl, by rw [Hdb.out, Hf1.out, if_pos rfl]; exact congrArg Value.string (by rw [Hext.out]; apply str_eq; simp)⟩
          case measure => simp [intOf]; omega
        · go_wp2
          go_round
          case rel => exact ⟨i + 1, by go_num, hi1, by rw [Hsn.out]; rfl, by rw [Hdb.out, Hf1.out, if_pos rfl]; exact congrArg Value.string (by rw [Hext.out]; apply str_eq; simp)⟩
          case measure => simp [intOf]; omega
      · have d34 := d34 h34
        rcases (show N = true ∨ N = false by cases N <;> simp) with rfl | rfl
        · clear d44 d10 d13
          go_wp2
          go_round
          case rel => exact ⟨i + 1, by go_num, hi1, by rw [Hsn.out]; rfl, by rw [Hdb.out, Hf1.out, if_neg h34]; exact congrArg Value.string (by rw [Hext.out]; apply str_eq; simp)⟩
          case measure => simp [intOf]; omega
        · by_cases h44 : x = 44
          · subst h44
            clear d34 d44 d10 d13
            go_wp2
            go_round
            case rel => exact ⟨i + 1, by go_num, hi1, by rw [Hsn.out]; rfl, by rw [Hdb.out, Hf1.out, if_neg h34]; exact congrArg Value.string (by rw [Hext.out]; apply str_eq; simp)⟩
            case measure => simp [intOf]; omega
          · have d44 := d44 h44
            by_cases h10 : x = 10
            · subst h10
              clear d34 d44 d10 d13
              go_wp2
              go_round
              case rel => exact ⟨i + 1, by go_num, hi1, by rw [Hsn.out]; rfl, by rw [Hdb.out, Hf1.out, if_neg h34]; exact congrArg Value.string (by rw [Hext.out]; apply str_eq; simp)⟩
              case measure => simp [intOf]; omega
            · have d10 := d10 h10
              by_cases h13 : x = 13
              · subst h13
                clear d34 d44 d10 d13
                go_wp2
                go_round
                case rel => exact ⟨i + 1, by go_num, hi1, by rw [Hsn.out]; rfl, by rw [Hdb.out, Hf1.out, if_neg h34]; exact congrArg Value.string (by rw [Hext.out]; apply str_eq; simp)⟩
                case measure => simp [intOf]; omega
              · have d13 := d13 h13
                have hnd : Cv.nd x = false := by simp [Cv.nd, h34, h44, h10, h13]
                have Hnd := Lib.hid hnd; clear hnd
                go_wp2
                go_round
                case rel => exact ⟨i + 1, by go_num, hi1, by rw [Hsn.out, Hnd.out]; rfl, by rw [Hdb.out, Hf1.out, if_neg h34]; exact congrArg Value.string (by rw [Hext.out]; apply str_eq; simp)⟩
                case measure => simp [intOf]; omega
    · have hi' : i = s.size := by omega
      rw [List.take_of_length_le (by rw [str_len]; omega)]
      have hdl := Cv.dbl_len s.data.toList
      rw [str_len] at hdl
      cases hn : s.data.toList.any Cv.nd with
      | false =>
        have Hq := Lib.hid (Cv.qt_no hn)
        clear hn hdl
        go_wp2
        go_ret
        exact ⟨by rw [Hq.out]; rfl, rfl⟩
      | true =>
        have hq := Cv.qt_yes hn
        obtain ⟨M, hM⟩ : ∃ M, M = Cv.dbl s.data.toList := ⟨_, rfl⟩
        rw [← hM] at hdl hq ⊢
        have Hq := Lib.hid hq; clear hq
        have k1 : ¬ 9223372036854775807 < M.length + 1 + 1 := by omega
        clear hn hdl hM
        go_wp2
        go_ret
        exact ⟨by rw [Hq.out]; congr 2, rfl⟩
end Go.Proofs.YtknmhdkomjjneaaGreatDoor.Csv
