/-
  The document's Words; Strings (are rows of texts alike?): what each call returns and leaves.
-/
import Derived.Test.YtihfejjkkgnneaaW2
import Derived.Test.YtihfejjkkgnneaaF4
namespace Go.Proofs.Ytihfejjkkgnneaa
open Go.RowKit

theorem sty : Sl Try.prog 32 9 (.string ⟨#[]⟩) 1 16 := ⟨Try.underlying32, by kernel_rfl, rfl, by omega⟩

/-- Where the words stand. -/
def Wst (s : ByteArray) (k : Nat) (L : List (List UInt8)) (cur : List UInt8) : Prop :=
  (k ≤ s.size → Fm.words s.data.toList = L ++ Fm.wordsGo cur (s.data.toList.drop k)) ∧ (s.size < k → Fm.words s.data.toList = L)
theorem str_eq {a b : ByteArray} (h : a.data.toList = b.data.toList) : a = b := by
  cases a with
  | mk x => cases b with
    | mk y =>
      have : x = y := Array.toList_inj.1 h
      rw [this]
theorem str_add (cur x : List UInt8) : (⟨cur.toArray⟩ ++ ⟨x.toArray⟩ : ByteArray) = ⟨(cur ++ x).toArray⟩ := by
  apply str_eq
  simp
theorem str_one (s : ByteArray) (k : Nat) (h : k < s.size) : s.extract k (k + 1) = ⟨[s[k]].toArray⟩ := by
  apply str_eq
  rw [Fm.seg_extract, Fm.seg_one s k h]
theorem str_snoc (s : ByteArray) (k : Nat) (h : k < s.size) (cur : List UInt8) : (⟨cur.toArray⟩ ++ s.extract k (k + 1) : ByteArray) = ⟨(cur ++ [s[k]]).toArray⟩ := by
  rw [str_one s k h, str_add]
theorem str_next (s : ByteArray) (k : Nat) (h : k < s.size) : s.data.toList.drop k = s[k] :: s.data.toList.drop (k + 1) := by
  rw [List.drop_eq_getElem_cons (by simpa using h)]; rfl
theorem Wst.char {s : ByteArray} {k : Nat} {L : List (List UInt8)} {cur : List UInt8} (h : Wst s k L cur) (hk : k < s.size) (hb : Fm.blank s[k] = false) : Wst s (k + 1) L (cur ++ [s[k]]) :=
  ⟨fun _ => by rw [h.1 (by omega), str_next s k hk, Fm.wg_cons, if_neg (by rw [hb]; simp)], fun h' => by omega⟩
theorem Wst.gap {s : ByteArray} {k : Nat} {L : List (List UInt8)} (h : Wst s k L []) (hk : k < s.size) (hb : Fm.blank s[k] = true) : Wst s (k + 1) L [] :=
  ⟨fun _ => by rw [h.1 (by omega), str_next s k hk, Fm.wg_cons, if_pos hb, if_pos rfl], fun h' => by omega⟩
theorem Wst.word {s : ByteArray} {k : Nat} {L : List (List UInt8)} {cur : List UInt8} (h : Wst s k L cur) (hk : k < s.size) (hb : Fm.blank s[k] = true) (hc : cur ≠ []) : Wst s (k + 1) (L ++ [cur]) [] :=
  ⟨fun _ => by rw [h.1 (by omega), str_next s k hk, Fm.wg_cons, if_pos hb, if_neg hc]; simp, fun h' => by omega⟩
theorem Wst.endgap {s : ByteArray} {k : Nat} {L : List (List UInt8)} (h : Wst s k L []) (hk : k = s.size) : Wst s (k + 1) L [] :=
  ⟨fun h' => by omega, fun _ => by rw [h.1 (by omega), List.drop_of_length_le (by rw [str_len]; omega), Fm.wg_nil, if_pos rfl]; simp⟩
theorem Wst.endword {s : ByteArray} {k : Nat} {L : List (List UInt8)} {cur : List UInt8} (h : Wst s k L cur) (hk : k = s.size) (hc : cur ≠ []) : Wst s (k + 1) (L ++ [cur]) [] :=
  ⟨fun h' => by omega, fun _ => by rw [h.1 (by omega), List.drop_of_length_le (by rw [str_len]; omega), Fm.wg_nil, if_neg hc]⟩
theorem blank_not {x : UInt8} (h : Fm.blank x = false) : x ≠ 32 ∧ x ≠ 9 ∧ x ≠ 10 ∧ x ≠ 13 := by
  unfold Fm.blank at h
  simp at h
  exact ⟨h.1.1.1, h.1.1.2, h.1.2, h.2⟩
theorem blank_is {x : UInt8} (h : Fm.blank x = true) : x = 32 ∨ x = 9 ∨ x = 10 ∨ x = 13 := by
  unfold Fm.blank at h
  simp at h
  rcases h with ((h | h) | h) | h <;> simp [h]
theorem ne_empty {l : List UInt8} (h : l ≠ []) : (!l.isEmpty) = true := by cases l <;> simp_all

def WRel (base : Nat) (w : World) (s : ByteArray) (o t i : Value) (wr : World) : Prop :=
  ∃ A c L cur, ∃ k : Nat, o = .slice A L.length c ∧ t = .string ⟨cur.toArray⟩ ∧ i = .int .i64 (k : Int) ∧ k ≤ s.size + 1 ∧ Oc 1 wr 9 base A L.length c (lvs L) ∧ L.length + cur.length ≤ k ∧ Wst s k L cur ∧ Below base w wr

set_option maxRecDepth 100000 in
set_option maxHeartbeats 2000000 in
/-- the document's Words -/
theorem rwords_c (s : ByteArray) (w : World) (hs : s.size ≤ 100000) :
    Calls Try.prog 23 #[.string s] w (RetW w.heap.size w (Fm.words s.data.toList)) := by
  go_enter Try.func23, Try.ntmps23
  go_wp2
  go_loopw [3, 4, 5] (fun o t i wr => WRel w.heap.size w s o t i wr) (fun _ _ i _ => s.size + 1 - (intOf i).toNat)
  case atStart => exact ⟨_, _, [], [], 0, rfl, rfl, rfl, Nat.zero_le _, Oc.made0 1 _ _, Nat.le_refl _, ⟨fun _ => by simp [Fm.words], fun h => by omega⟩, (Below.refl _ _).alloc (Nat.le_refl _) _⟩
  case round =>
    obtain ⟨A1, c1, L, cur, k, rfl, rfl, rfl, hk, hown1, hLk, hW, hbel⟩ := hrel
    have hsz := hbel.size
    by_cases hlt : k < s.size
    · by_cases hbl : Fm.blank s[k] = true
      · by_cases hc : cur = []
        · subst hc
          have Hbl := Lib.hid hbl
          rcases blank_is hbl with h | h | h | h
          · have b32 : ((s[k].toNat : Int) != 32) = false := by rw [h]; rfl
            clear h hbl
            have Hs := Lib.hid (hW.gap hlt Hbl.out)
            clear hW
            go_wp2
            go_roundw
            case rel => exact ⟨A1, c1, L, [], k + 1, rfl, rfl, by go_num, by omega, hown1, by simp at hLk ⊢; omega, Hs.out, hbel⟩
            case measure => simp [intOf]; omega
          · have b32 : ((s[k].toNat : Int) != 32) = true := by rw [h]; rfl
            have b9 : ((s[k].toNat : Int) != 9) = false := by rw [h]; rfl
            clear h hbl
            have Hs := Lib.hid (hW.gap hlt Hbl.out)
            clear hW
            go_wp2
            go_roundw
            case rel => exact ⟨A1, c1, L, [], k + 1, rfl, rfl, by go_num, by omega, hown1, by simp at hLk ⊢; omega, Hs.out, hbel⟩
            case measure => simp [intOf]; omega
          · have b32 : ((s[k].toNat : Int) != 32) = true := by rw [h]; rfl
            have b9 : ((s[k].toNat : Int) != 9) = true := by rw [h]; rfl
            have b10 : ((s[k].toNat : Int) != 10) = false := by rw [h]; rfl
            clear h hbl
            have Hs := Lib.hid (hW.gap hlt Hbl.out)
            clear hW
            go_wp2
            go_roundw
            case rel => exact ⟨A1, c1, L, [], k + 1, rfl, rfl, by go_num, by omega, hown1, by simp at hLk ⊢; omega, Hs.out, hbel⟩
            case measure => simp [intOf]; omega
          · have b32 : ((s[k].toNat : Int) != 32) = true := by rw [h]; rfl
            have b9 : ((s[k].toNat : Int) != 9) = true := by rw [h]; rfl
            have b10 : ((s[k].toNat : Int) != 10) = true := by rw [h]; rfl
            have b13 : ((s[k].toNat : Int) != 13) = false := by rw [h]; rfl
            clear h hbl
            have Hs := Lib.hid (hW.gap hlt Hbl.out)
            clear hW
            go_wp2
            go_roundw
            case rel => exact ⟨A1, c1, L, [], k + 1, rfl, rfl, by go_num, by omega, hown1, by simp at hLk ⊢; omega, Hs.out, hbel⟩
            case measure => simp [intOf]; omega
        · have hne := ne_empty hc
          have Hbl := Lib.hid hbl
          have Hc := Lib.hid hc; clear hc
          rcases blank_is hbl with h | h | h | h
          · have b32 : ((s[k].toNat : Int) != 32) = false := by rw [h]; rfl
            clear h hbl
            have Hs := Lib.hid (hW.word hlt Hbl.out Hc.out)
            clear hW
            go_wp2_with (at_builtin; go_must (refine sty.wpApp rfl (.tmp 50) (.tmp 52) rfl (n := L.length) (m := 1) rfl rfl (hown1.alloc _) (Rc.lit _ _ _ 1 rfl ?hs0) ?hs1 ?hs2 ?hs3 ?hs4 ?_))
            case hs0 => simp [maxLen]
            case hs1 => simp [Value.oneCell']
            case hs2 => omega
            case hs3 => omega
            case hs4 => simp; omega
            intro A2 c2 w2 hown2 hbel2 _
            go_wp2
            go_roundw
            case rel => exact ⟨A2, c2, L ++ [cur], [], k + 1, by simp, rfl, by go_num, by omega, by rw [lvs_append]; simpa [lvs] using hown2, by simp; omega, Hs.out, hbel.trans ((((Below.refl _ _).alloc (by omega) _).trans hbel2))⟩
            case measure => simp [intOf]; omega
          · have b32 : ((s[k].toNat : Int) != 32) = true := by rw [h]; rfl
            have b9 : ((s[k].toNat : Int) != 9) = false := by rw [h]; rfl
            clear h hbl
            have Hs := Lib.hid (hW.word hlt Hbl.out Hc.out)
            clear hW
            go_wp2_with (at_builtin; go_must (refine sty.wpApp rfl (.tmp 50) (.tmp 52) rfl (n := L.length) (m := 1) rfl rfl (hown1.alloc _) (Rc.lit _ _ _ 1 rfl ?hs5) ?hs6 ?hs7 ?hs8 ?hs9 ?_))
            case hs5 => simp [maxLen]
            case hs6 => simp [Value.oneCell']
            case hs7 => omega
            case hs8 => omega
            case hs9 => simp; omega
            intro A2 c2 w2 hown2 hbel2 _
            go_wp2
            go_roundw
            case rel => exact ⟨A2, c2, L ++ [cur], [], k + 1, by simp, rfl, by go_num, by omega, by rw [lvs_append]; simpa [lvs] using hown2, by simp; omega, Hs.out, hbel.trans ((((Below.refl _ _).alloc (by omega) _).trans hbel2))⟩
            case measure => simp [intOf]; omega
          · have b32 : ((s[k].toNat : Int) != 32) = true := by rw [h]; rfl
            have b9 : ((s[k].toNat : Int) != 9) = true := by rw [h]; rfl
            have b10 : ((s[k].toNat : Int) != 10) = false := by rw [h]; rfl
            clear h hbl
            have Hs := Lib.hid (hW.word hlt Hbl.out Hc.out)
            clear hW
            go_wp2_with (at_builtin; go_must (refine sty.wpApp rfl (.tmp 50) (.tmp 52) rfl (n := L.length) (m := 1) rfl rfl (hown1.alloc _) (Rc.lit _ _ _ 1 rfl ?hs10) ?hs11 ?hs12 ?hs13 ?hs14 ?_))
            case hs10 => simp [maxLen]
            case hs11 => simp [Value.oneCell']
            case hs12 => omega
            case hs13 => omega
            case hs14 => simp; omega
            intro A2 c2 w2 hown2 hbel2 _
            go_wp2
            go_roundw
            case rel => exact ⟨A2, c2, L ++ [cur], [], k + 1, by simp, rfl, by go_num, by omega, by rw [lvs_append]; simpa [lvs] using hown2, by simp; omega, Hs.out, hbel.trans ((((Below.refl _ _).alloc (by omega) _).trans hbel2))⟩
            case measure => simp [intOf]; omega
          · have b32 : ((s[k].toNat : Int) != 32) = true := by rw [h]; rfl
            have b9 : ((s[k].toNat : Int) != 9) = true := by rw [h]; rfl
            have b10 : ((s[k].toNat : Int) != 10) = true := by rw [h]; rfl
            have b13 : ((s[k].toNat : Int) != 13) = false := by rw [h]; rfl
            clear h hbl
            have Hs := Lib.hid (hW.word hlt Hbl.out Hc.out)
            clear hW
            go_wp2_with (at_builtin; go_must (refine sty.wpApp rfl (.tmp 50) (.tmp 52) rfl (n := L.length) (m := 1) rfl rfl (hown1.alloc _) (Rc.lit _ _ _ 1 rfl ?hs15) ?hs16 ?hs17 ?hs18 ?hs19 ?_))
            case hs15 => simp [maxLen]
            case hs16 => simp [Value.oneCell']
            case hs17 => omega
            case hs18 => omega
            case hs19 => simp; omega
            intro A2 c2 w2 hown2 hbel2 _
            go_wp2
            go_roundw
            case rel => exact ⟨A2, c2, L ++ [cur], [], k + 1, by simp, rfl, by go_num, by omega, by rw [lvs_append]; simpa [lvs] using hown2, by simp; omega, Hs.out, hbel.trans ((((Below.refl _ _).alloc (by omega) _).trans hbel2))⟩
            case measure => simp [intOf]; omega
      · have hbf : Fm.blank s[k] = false := by simpa using hbl
        obtain ⟨n32, n9, n10, n13⟩ := blank_not hbf
        have b32 : ((s[k].toNat : Int) != 32) = true := u8_bne (y := 32) n32
        have b9 : ((s[k].toNat : Int) != 9) = true := u8_bne (y := 9) n9
        have b10 : ((s[k].toNat : Int) != 10) = true := u8_bne (y := 10) n10
        have b13 : ((s[k].toNat : Int) != 13) = true := u8_bne (y := 13) n13
        have Hs := Lib.hid (hW.char hlt hbf)
        have Ha := Lib.hid (str_snoc s k hlt cur)
        clear hbl hbf n32 n9 n10 n13 hW
        go_wp2
        go_roundw
        case rel => exact ⟨A1, c1, L, cur ++ [s[k]], k + 1, rfl, by rw [Ha.out], by go_num, by omega, hown1, by simp; omega, Hs.out, hbel⟩
        case measure => simp [intOf]; omega
    · by_cases he : k = s.size
      · by_cases hc : cur = []
        · subst hc
          have He := Lib.hid he
          have hle : k ≤ s.size := by omega
          clear he
          have Hs := Lib.hid (hW.endgap He.out)
          clear hW
          go_wp2
          go_roundw
          case rel => exact ⟨A1, c1, L, [], k + 1, rfl, rfl, by go_num, by omega, hown1, by simp at hLk ⊢; omega, Hs.out, hbel⟩
          case measure => simp [intOf]; omega
        · have hne := ne_empty hc
          have Hc := Lib.hid hc; clear hc
          have He := Lib.hid he
          have hle : k ≤ s.size := by omega
          clear he
          have Hs := Lib.hid (hW.endword He.out Hc.out)
          clear hW
          go_wp2_with (at_builtin; go_must (refine sty.wpApp rfl (.tmp 50) (.tmp 52) rfl (n := L.length) (m := 1) rfl rfl (hown1.alloc _) (Rc.lit _ _ _ 1 rfl ?hs20) ?hs21 ?hs22 ?hs23 ?hs24 ?_))
          case hs20 => simp [maxLen]
          case hs21 => simp [Value.oneCell']
          case hs22 => omega
          case hs23 => omega
          case hs24 => simp; omega
          intro A2 c2 w2 hown2 hbel2 _
          go_wp2
          go_roundw
          case rel => exact ⟨A2, c2, L ++ [cur], [], k + 1, by simp, rfl, by go_num, by omega, by rw [lvs_append]; simpa [lvs] using hown2, by simp; omega, Hs.out, hbel.trans ((((Below.refl _ _).alloc (by omega) _).trans hbel2))⟩
          case measure => simp [intOf]; omega
      · have Hs := Lib.hid (hW.2 (by omega))
        clear hW
        go_wp2
        go_ret
        rw [Hs.out]
        exact ⟨A1, c1, rfl, hown1, hbel⟩
end Go.Proofs.Ytihfejjkkgnneaa
