/-
  field's unescaped, Escape, Unescape: what each call returns and leaves.
-/
import Derived.Test.YtihfejjkkgnneaaF3
namespace Go.Proofs.Ytihfejjkkgnneaa
open Go.RowKit Go.Maps

/-- What an unescaped text comes to. -/
def unE (o : Option (List UInt8)) : Ending := match o with
  | some t => .returned (.tuple #[.string ⟨t.toArray⟩, .int .i64 0])
  | none => .returned (.tuple #[.string ⟨#[]⟩, .int .i64 3])
def RetU (base : Nat) (w : World) (o : Option (List UInt8)) (e : Ending) (w' : World) : Prop := e = unE o ∧ Below base w w'

theorem letter_plain {x : UInt8} (h : letter x = none) : x ≠ 9 ∧ x ≠ 10 ∧ x ≠ 92 := by
  refine ⟨?_, ?_, ?_⟩ <;> (rintro rfl; cases h)
theorem letter_of {x c : UInt8} (h : letter x = some c) : x = 9 ∨ x = 10 ∨ x = 92 := by
  unfold letter at h
  split at h
  · exact .inl ‹_›
  · split at h
    · exact .inr (.inl ‹_›)
    · split at h
      · exact .inr (.inr ‹_›)
      · cases h
theorem un_orig (y : UInt8) (r : List UInt8) : Fm.unesc (92 :: y :: r) = match orig y with | some o => (Fm.unesc r).map (o :: ·) | none => none := by
  unfold orig
  by_cases h1 : y = 116
  · subst h1; rw [Fm.unesc_t]; rfl
  · by_cases h2 : y = 110
    · subst h2; rw [Fm.unesc_n]; rfl
    · by_cases h3 : y = 92
      · subst h3; rw [Fm.unesc_b]; rfl
      · rw [Fm.unesc_other y r h1 h2 h3, if_neg h1, if_neg h2, if_neg h3]
theorem un_orig_none {y : UInt8} {r : List UInt8} (h : orig y = none) : Fm.unesc (92 :: y :: r) = none := by rw [un_orig, h]
theorem un_orig_some {y o : UInt8} {r : List UInt8} (h : orig y = some o) : Fm.unesc (92 :: y :: r) = (Fm.unesc r).map (o :: ·) := by rw [un_orig, h]
theorem str_drop (s : ByteArray) (k : Nat) (h : k < s.size) : s.data.toList.drop k = s[k] :: s.data.toList.drop (k + 1) := by
  rw [List.drop_eq_getElem_cons (by simpa using h)]; rfl
/-- What is known of the text under way. -/
def Un (T D L : List UInt8) : Prop := Fm.unesc T = (Fm.unesc D).map (L ++ ·)
theorem Un.start (T : List UInt8) : Un T T [] := by
  unfold Un
  cases Fm.unesc T <;> rfl
theorem Un.plain {T D L : List UInt8} {x : UInt8} (h : Un T (x :: D) L) (hx : letter x = none) : Un T D (L ++ [x]) := by
  obtain ⟨h1, h2, h3⟩ := letter_plain hx
  unfold Un at h ⊢
  rw [h, Fm.unesc_plain x D h1 h2 h3]
  cases Fm.unesc D <;> simp
theorem Un.seq {T D L : List UInt8} {y o : UInt8} (h : Un T (92 :: y :: D) L) (hx : orig y = some o) : Un T D (L ++ [o]) := by
  unfold Un at h ⊢
  rw [h, un_orig_some hx]
  cases Fm.unesc D <;> simp
theorem Un.bad {T D L : List UInt8} {x : UInt8} (h : Un T (x :: D) L) (hx : x = 9 ∨ x = 10) : Fm.unesc T = none := by
  unfold Un at h
  rw [h, Fm.unesc_bad x D hx]; rfl
theorem Un.last {T L : List UInt8} (h : Un T [92] L) : Fm.unesc T = none := by
  unfold Un at h
  rw [h, Fm.unesc_last]; rfl
theorem Un.none_ {T D L : List UInt8} {y : UInt8} (h : Un T (92 :: y :: D) L) (hx : orig y = none) : Fm.unesc T = none := by
  unfold Un at h
  rw [h, un_orig_none hx]; rfl
theorem Un.end_ {T L : List UInt8} (h : Un T [] L) : Fm.unesc T = some L := by
  unfold Un at h
  rw [h]; simp [Fm.unesc]

def UnRel (base : Nat) (w : World) (s : ByteArray) (o i : Value) (wr : World) : Prop :=
  ∃ A c L, ∃ k : Nat, o = .slice A L.length c ∧ i = .int .i64 (k : Int) ∧ k ≤ s.size ∧ Own wr 5 base A c L ∧ L.length ≤ k ∧ Un s.data.toList (s.data.toList.drop k) L ∧ Below base w wr

theorem u8_ne {x y : UInt8} (h : x ≠ y) : ((x.toNat : Int) == (y.toNat : Int)) = false := by
  rw [beq_eq_false_iff_ne]
  intro e
  exact h (UInt8.toNat_inj.1 (by omega))
theorem u8_bne {x y : UInt8} (h : x ≠ y) : ((x.toNat : Int) != (y.toNat : Int)) = true := by
  simp only [bne, u8_ne h]; rfl

theorem original_some (b : Nat) (x o : UInt8) (w : World) (hm : Mp w b) (h : orig x = some o) :
    Calls Try.prog 58 #[.map (some b), .int .u8 (x.toNat : Int)] w fun e w' => e = .returned (.tuple #[.int .u8 (o.toNat : Int), .bool true]) ∧ Below w.heap.size w w' :=
  (original_c b x w hm).mono fun e w' ⟨he, hb⟩ => ⟨by rw [he, h]; rfl, hb⟩
theorem original_none (b : Nat) (x : UInt8) (w : World) (hm : Mp w b) (h : orig x = none) :
    Calls Try.prog 58 #[.map (some b), .int .u8 (x.toNat : Int)] w fun e w' => e = .returned (.tuple #[.int .u8 0, .bool false]) ∧ Below w.heap.size w w' :=
  (original_c b x w hm).mono fun e w' ⟨he, hb⟩ => ⟨by rw [he, h]; rfl, hb⟩

set_option maxRecDepth 100000 in
set_option maxHeartbeats 2000000 in
/-- unescaped -/
theorem unescaped_c (b : Nat) (s : ByteArray) (w : World) (hm : Mp w b) (hs : s.size ≤ 100000) :
    Calls Try.prog 41 #[.map (some b), .string s] w (RetU w.heap.size w (Fm.unesc s.data.toList)) := by
  have hbl := hm.lt
  have hmk := bty.make w 0 0 (s.size : Int) s.size rfl rfl (by omega) (by omega)
  have Hm := Lib.hid hm; clear hm
  go_enter Try.func41, Try.ntmps41
  go_wp2
  go_loopw [6, 7] (fun o i wr => UnRel w.heap.size w s o i wr) (fun _ i _ => s.size - (intOf i).toNat)
  case atStart => exact ⟨_, _, [], 0, rfl, rfl, Nat.zero_le _, own_zrow _ _ _ 0 _ (heap_alloc_new w _) (Nat.zero_le _) (by simp only [maxLen]; omega), Nat.zero_le _, Un.start _, (Below.refl _ _).alloc (Nat.le_refl _) _⟩
  case round =>
    obtain ⟨A1, c1, L, k, rfl, rfl, hk, hown1, hLk, hU, hbel⟩ := hrel
    clear hmk
    have hsz := hbel.size
    by_cases hlt : k < s.size
    · have hm1 := Hm.out.below hbel hbl
      have hd := str_drop s k hlt
      rw [hd] at hU
      have HU := Lib.hid hU
      clear hd hU
      cases hc : letter s[k] with
      | none =>
        have hlk := hm1.look_none s[k] hc
        have Hc := Lib.hid hc; clear hc hm1
        go_wp2_with (at_builtin; go_must (refine bty.wpApp rfl (.tmp 32) (.tmp 34) rfl (l := L) rfl rfl (hown1.alloc _) (Rb.oneI _ _ _ s[k] rfl) ?hs1 ?hs2 ?_))
        case hs1 => simp; omega
        case hs2 => simp; omega
        intro A2 c2 w2 hown2 hbel2
        go_wp2
        go_roundw
        case rel => exact ⟨A2, c2, L ++ [s[k]], k + 1, by simp, by go_num, by omega, hown2, by simp; omega, HU.out.plain Hc.out, hbel.trans ((((Below.refl _ _).alloc (by omega) _).trans hbel2))⟩
        case measure => simp [intOf]; omega
      | some d =>
        have hlk := hm1.look_some s[k] d hc
        by_cases h92 : s[k] = 92
        · have hb1 : ((s[k].toNat : Int) != 92) = false := by rw [h92]; rfl
          have hb0 : ((s[k].toNat : Int) == 92) = true := by rw [h92]; rfl
          by_cases hl2 : k + 1 < s.size
          · have hd2 := str_drop s (k + 1) hl2
            have hU2 := HU.out
            rw [hd2, h92] at hU2
            have HU2 := Lib.hid hU2
            have hne : decide ((k : Int) + 1 = (s.size : Int)) = false := by simp; omega
            have hne2 : (((k : Int) + 1) == (s.size : Int)) = false := by simp; omega
            have Hm1 := Lib.hid hm1
            clear hd2 hU2 hc h92 HU hm1
            cases ho : orig s[k + 1] with
            | none =>
              have Hf := Lib.hid (HU2.out.none_ ho)
              have Ho := Lib.hid ho; clear ho
              go_wp2_with fail
              refine (original_none b _ _ Hm1.out Ho.out).mono ?_
              rintro e w2 ⟨rfl, hbel2⟩
              go_wp2
              go_ret2
              rw [Hf.out]
              exact ⟨rfl, hbel.trans (hbel2.mono hsz)⟩
            | some o =>
              have Ho := Lib.hid ho; clear ho
              go_wp2_with fail
              refine (original_some b _ o _ Hm1.out Ho.out).mono ?_
              rintro e w2 ⟨rfl, hbel2⟩
              have hsz2 := hbel2.size
              have hown2 := hown1.keep hbel2
              go_wp2_with (at_builtin; go_must (refine bty.wpApp rfl (.tmp 56) (.tmp 58) rfl (l := L) rfl rfl (hown2.alloc _) (Rb.oneI _ _ _ o rfl) ?hs3 ?hs4 ?_))
              case hs3 => simp; omega
              case hs4 => simp; omega
              intro A3 c3 w3 hown3 hbel3
              go_wp2
              go_roundw
              case rel => exact ⟨A3, c3, L ++ [o], k + 2, by simp, by go_num, by omega, hown3, by simp; omega, HU2.out.seq Ho.out, (hbel.trans (hbel2.mono hsz)).trans ((((Below.refl _ _).alloc (by omega) _).trans hbel3))⟩
              case measure => simp [intOf]; omega
          · have he : k + 1 = s.size := by omega
            have hU2 := HU.out
            rw [List.drop_of_length_le (by rw [str_len]; omega), h92] at hU2
            have Hf := Lib.hid hU2.last
            have hne : decide ((k : Int) + 1 = (s.size : Int)) = true := by simp; omega
            have hne2 : (((k : Int) + 1) == (s.size : Int)) = true := by simp; omega
            clear hU2 hc h92 HU hm1
            have He := Lib.hid he; clear he
            go_wp2
            go_ret2
            rw [Hf.out]
            exact ⟨rfl, hbel⟩
        · have hf : s[k] = 9 ∨ s[k] = 10 := by
            rcases letter_of hc with h | h | h
            · exact .inl h
            · exact .inr h
            · exact absurd h h92
          have Hf := Lib.hid (HU.out.bad hf)
          have hb1 : ((s[k].toNat : Int) != 92) = true := u8_bne h92
          have hb0 : ((s[k].toNat : Int) == 92) = false := u8_ne h92
          clear hc h92 hf HU hm1
          go_wp2
          go_ret2
          rw [Hf.out]
          exact ⟨rfl, hbel⟩
    · have hU2 := hU
      rw [List.drop_of_length_le (by rw [str_len]; omega)] at hU2
      have Hf := Lib.hid hU2.end_
      clear hU hU2
      have hcv := bty.conv hown1.rb
      go_wp2
      go_ret2
      rw [Hf.out]
      exact ⟨rfl, hbel⟩
end Go.Proofs.Ytihfejjkkgnneaa
