/-
  field.Words: a set of white space, a closure that asks it, the library's FieldsFunc.
-/
import Derived.Test.YtihfejjkkgnneaaSh
import Derived.Test.YtihfejjkkgnneaaG1
import Derived.Test.YtihfejjkkgnneaaW1
import Derived.Test.YtihfejjkkgnneaaBy
namespace Go.Proofs.Ytihfejjkkgnneaa
open Go.RowKit

/-- The cells of texts. -/
def lvs (l : List (List UInt8)) : List Value := l.map fun x => Value.string ⟨x.toArray⟩
theorem lvs_length (l : List (List UInt8)) : (lvs l).length = l.length := by simp [lvs]
theorem lvs_append (l r : List (List UInt8)) : lvs (l ++ r) = lvs l ++ lvs r := by simp [lvs]
theorem lvs_one (l : List (List UInt8)) : ∀ u ∈ lvs l, u.oneCell' = true := by
  intro u hu
  obtain ⟨_, _, rfl⟩ := List.mem_map.1 hu
  rfl
theorem lvs_get (l : List (List UInt8)) (j : Nat) (x : List UInt8) (h : l[j]? = some x) : (lvs l)[j]? = some (.string ⟨x.toArray⟩) := by simp [lvs, h]
/-- The cells of runes. -/
def rvs (l : List Nat) : List Value := l.map fun (x : Nat) => Value.int .i32 (x : Int)
theorem rvs_get (l : List Nat) (j : Nat) (x : Nat) (h : l[j]? = some x) : (rvs l)[j]? = some (.int .i32 (x : Int)) := by simp [rvs, h]

theorem rune_ne {x y : Nat} (h : x ≠ y) : ((x : Int) == (y : Int)) = false := by
  rw [beq_eq_false_iff_ne]
  omega
theorem rune_eq (x : Nat) : ((x : Int) == (x : Int)) = true := by simp

def IdxRel (zs : List Nat) (x : Nat) (t : Value) : Prop := ∃ k : Nat, t = .int .i64 (k : Int) ∧ k ≤ zs.length ∧ x ∉ zs.take k

set_option maxRecDepth 100000 in
/-- slices.Index at runes: what is not there. -/
theorem index_no (A : Option Addr) (c B : Nat) (zs : List Nat) (x : Nat) (w : World) (hr : Rc 1 w B A zs.length c (rvs zs)) (hn : zs.length ≤ 1000) (hx : x ∉ zs) :
    Calls Try.prog 66 #[.slice A zs.length c, .int .i32 (x : Int)] w fun e w' => e = .returned (.int .i64 (-1)) ∧ w = w' := by
  have Hr := Lib.hid hr; have Hx := Lib.hid hx; clear hr hx
  go_enter Try.func66, Try.ntmps66
  go_wp2
  go_loop [8] (fun t => IdxRel zs x t) (fun t => zs.length - (intOf t).toNat)
  case atStart => exact ⟨0, rfl, Nat.zero_le _, by simp⟩
  case round =>
    obtain ⟨k, rfl, hk, hnx⟩ := hrel
    by_cases hlt : k < zs.length
    · obtain ⟨b, off, v, rfl, hb, hcell, hv⟩ := Hr.out.at_ hlt
      rw [rvs_get zs k zs[k] (List.getElem?_eq_getElem hlt)] at hv
      injection hv with hv
      subst hv
      have hne : x ≠ zs[k] := fun e => Hx.out (e ▸ List.getElem_mem hlt)
      have hb := rune_ne hne
      have hnx2 : x ∉ zs.take (k + 1) := fun h => Hx.out (List.mem_of_mem_take h)
      have Hnx := Lib.hid hnx2
      clear hnx hnx2 hne
      go_wp2
      go_round
      case rel => exact ⟨k + 1, by go_num, by omega, Hnx.out⟩
      case measure => simp [intOf]; omega
    · have Hnx := Lib.hid hnx; clear hnx
      go_wp2
      go_ret
      exact ⟨rfl, rfl⟩

def SomeIdx (w : World) (e : Ending) (w' : World) : Prop := ∃ k : Nat, e = .returned (.int .i64 (k : Int)) ∧ k < 1000 ∧ w = w'
def IdxRel2 (zs : List Nat) (x : Nat) (t : Value) : Prop := ∃ k : Nat, t = .int .i64 (k : Int) ∧ k < zs.length ∧ x ∈ zs.drop k
set_option maxRecDepth 100000 in
/-- slices.Index at runes: what is there. -/
theorem index_yes (A : Option Addr) (c B : Nat) (zs : List Nat) (x : Nat) (w : World) (hr : Rc 1 w B A zs.length c (rvs zs)) (hn : zs.length ≤ 1000) (hx : x ∈ zs) :
    Calls Try.prog 66 #[.slice A zs.length c, .int .i32 (x : Int)] w (SomeIdx w) := by
  have hp : 0 < zs.length := List.length_pos_of_mem hx
  have Hr := Lib.hid hr; have Hx := Lib.hid hx; clear hr hx
  go_enter Try.func66, Try.ntmps66
  go_wp2
  go_loop [8] (fun t => IdxRel2 zs x t) (fun t => zs.length - (intOf t).toNat)
  case atStart => exact ⟨0, rfl, hp, by simpa using Hx.out⟩
  case round =>
    obtain ⟨k, rfl, hlt, hin⟩ := hrel
    obtain ⟨b, off, v, rfl, hb, hcell, hv⟩ := Hr.out.at_ hlt
    rw [rvs_get zs k zs[k] (List.getElem?_eq_getElem hlt)] at hv
    injection hv with hv
    subst hv
    rw [List.drop_eq_getElem_cons hlt] at hin
    by_cases he : x = zs[k]
    · have hb : ((x : Int) == (zs[k] : Int)) = true := by rw [he]; simp
      have Hin := Lib.hid hin; have He := Lib.hid he; clear hin he
      go_wp2
      go_ret
      exact ⟨k, rfl, by omega, rfl⟩
    · have hb := rune_ne he
      have hin2 : x ∈ zs.drop (k + 1) := by
        rcases List.mem_cons.1 hin with h | h
        · exact absurd h he
        · exact h
      have hlt2 : k + 1 < zs.length := by
        have := List.length_pos_of_mem hin2
        rw [List.length_drop] at this
        omega
      have Hin := Lib.hid hin2; clear hin hin2 he
      go_wp2
      go_round
      case rel => exact ⟨k + 1, by go_num, hlt2, Hin.out⟩
      case measure => simp [intOf]; omega

set_option maxRecDepth 100000 in
/-- slices.Contains at runes. -/
theorem contains_c (A : Option Addr) (c B : Nat) (zs : List Nat) (x : Nat) (w : World) (hr : Rc 1 w B A zs.length c (rvs zs)) (hn : zs.length ≤ 1000) (o : Bool) (ho : o = decide (x ∈ zs)) :
    Calls Try.prog 60 #[.slice A zs.length c, .int .i32 (x : Int)] w fun e w' => e = .returned (.bool o) ∧ w = w' := by
  by_cases hx : x ∈ zs
  · rw [decide_eq_true hx] at ho
    subst ho
    have Hr := Lib.hid hr; have Hx := Lib.hid hx; clear hr hx
    go_enter Try.func60, Try.ntmps60
    go_wp2_with fail
    refine (index_yes A c B zs x _ Hr.out hn Hx.out).mono ?_
    rintro e w' ⟨k, rfl, hk, rfl⟩
    go_wp2
    go_ret
    exact ⟨rfl, rfl⟩
  · rw [decide_eq_false hx] at ho
    subst ho
    have Hr := Lib.hid hr; have Hx := Lib.hid hx; clear hr hx
    go_enter Try.func60, Try.ntmps60
    go_wp2_with fail
    refine (index_no A c B zs x _ Hr.out hn Hx.out).mono ?_
    rintro e w' ⟨rfl, rfl⟩
    go_wp2
    go_ret
    exact ⟨rfl, rfl⟩

def wsSet : List Nat := [32, 9, 10, 13]
theorem wsSet_ws (x : Nat) : Fm.wsR x = decide (x ∈ wsSet) := by
  unfold Fm.wsR wsSet
  rw [Bool.eq_iff_iff]
  simp [or_assoc]

set_option maxRecDepth 100000 in
/-- The closure. -/
theorem white_c (p A : Option Addr) (c B bx : Nat) (x : Nat) (w : World) (hbx : p = some ⟨bx, 0, none⟩) (hcell : w.cell? ⟨bx, 0, none⟩ = some (.slice A 4 c)) (hr : Rc 1 w B A 4 c (rvs wsSet)) :
    Calls Try.prog 59 #[.int .i32 (x : Int), .pointer p] w fun e w' => e = .returned (.bool (Fm.wsR x)) ∧ w = w' := by
  subst hbx
  have Hr := Lib.hid hr; clear hr
  have hw := wsSet_ws x
  obtain ⟨o, ho⟩ : ∃ o, o = Fm.wsR x := ⟨_, rfl⟩
  rw [← ho] at hw ⊢
  have Hw := Lib.hid hw; clear hw ho
  go_enter Try.func59, Try.ntmps59
  go_wp2_with fail
  refine (contains_c A c B wsSet x _ Hr.out (by decide) o Hw.out).mono ?_
  rintro e w' ⟨rfl, rfl⟩
  go_wp2
  go_ret
  exact ⟨rfl, rfl⟩

set_option maxRecDepth 100000 in
/-- oneOf -/
theorem oneOf_c (A : Option Addr) (n c : Nat) (w : World) :
    Calls Try.prog 44 #[.slice A n c] w fun e w' => e = .returned (.func (.func 59) #[] #[.pointer (some ⟨w.heap.size, 0, none⟩)]) ∧ w.alloc (.cells #[.slice A n c] 88) = w' := by
  go_enter Try.func44, Try.ntmps44
  go_wp2
  go_ret
  exact ⟨rfl, rfl⟩

/-- A call hands back a new row of texts. -/
def RetW (base : Nat) (w : World) (l : List (List UInt8)) (e : Ending) (w' : World) : Prop :=
  ∃ A c, e = .returned (.slice A l.length c) ∧ Oc 1 w' 9 base A l.length c (lvs l) ∧ Below base w w'

theorem words_row (s : ByteArray) : (Lib.goFieldsP Fm.wsR s).map Value.string = lvs (Fm.words s.data.toList) := by
  rw [← Fm.fields_words]
  unfold lvs
  rw [List.map_map]
  rfl
theorem words_num (s : ByteArray) : (Lib.goFieldsP Fm.wsR s).length = (Fm.words s.data.toList).length := by
  have := congrArg List.length (words_row s)
  simpa [lvs] using this

theorem fields_c (s : ByteArray) (w : World) (lb : Array Value) (hs : s.size ≤ 100000) (hp : PredAtRunes Try.prog 59 lb Fm.wsR w) :
    Calls Try.prog 43 #[.string s, .func (.func 59) #[] lb] w (RetW w.heap.size w (Fm.words s.data.toList)) :=
  (Try.strings_FieldsFunc_runes 59 lb (fun args w => by kernel_rfl) Fm.wsR s w (by omega) hp).mono fun e w' ⟨A, he, hA, hrow, hb⟩ => by
    rw [words_num, words_row] at hrow
    rw [words_num] at he
    exact ⟨_, _, he, hrow, hb⟩

set_option maxRecDepth 100000 in
/-- field.Words -/
theorem words_c (s : ByteArray) (w : World) (hs : s.size ≤ 100000) :
    Calls Try.prog 22 #[.string s] w (RetW w.heap.size w (Fm.words s.data.toList)) := by
  go_enter Try.func22, Try.ntmps22
  go_wp2_with fail
  refine (oneOf_c _ _ _ _).mono ?_
  rintro e w2 ⟨rfl, hw2⟩
  have hsz : w2.heap.size = w.heap.size + 2 := by rw [← hw2]; simp
  have hb0 : Below w.heap.size w w2 := by rw [← hw2]; exact ((Below.refl _ _).alloc (Nat.le_refl _) _).alloc (by simp) _
  have hcell : w2.cell? ⟨w.heap.size + 1, 0, none⟩ = some (.slice (some ⟨w.heap.size, 0, none⟩) 4 4) := by
    rw [← hw2]
    have := World.cell?_alloc_new (w.alloc (.cells #[.int .i32 32, .int .i32 9, .int .i32 10, .int .i32 13] 21)) #[.slice (some ⟨w.heap.size, 0, none⟩) 4 4] 88 0
    simp
  have hrow : Rc 1 w2 (w.heap.size + 1) (some ⟨w.heap.size, 0, none⟩) 4 4 (rvs wsSet) := by
    rw [← hw2]
    exact (Rc.lit w 21 #[.int .i32 32, .int .i32 9, .int .i32 10, .int .i32 13] 4 rfl (by simp [maxLen])).alloc (by simp) _
  have Hw2 := Lib.hid hw2; have Hsz := Lib.hid hsz; clear hw2 hsz
  have hpred : PredAtRunes Try.prog 59 #[.pointer (some ⟨w.heap.size + 1, 0, none⟩)] Fm.wsR w2 := by
    intro W x hx hb
    unfold FnGives
    have hsz2 := Hsz.out
    exact (white_c _ _ 4 (w.heap.size + 1) (w.heap.size + 1) x W rfl ((hb.cell (p := ⟨w.heap.size + 1, 0, none⟩) (by show w.heap.size + 1 < _; omega)).trans hcell) (hrow.keep fun p hp => hb.cell (by omega))).mono fun e w' ⟨he, hw⟩ => ⟨he, 0, by rw [← hw]; rfl⟩
  have Hp := Lib.hid hpred; clear hpred hcell hrow
  go_wp2_with fail
  refine (fields_c s _ _ hs ?_).mono ?_
  · exact Hp.out
  rintro e w3 ⟨A3, c3, rfl, hown3, hb3⟩
  go_wp2
  go_ret
  have hsz2 := Hsz.out
  exact ⟨A3, c3, rfl, hown3.mono (by omega), hb0.trans (hb3.mono (by omega))⟩
end Go.Proofs.Ytihfejjkkgnneaa
