/-
  strings.Cut at a separator of one byte.
-/
import Derived.Test.YtihfejjkkgnneaaSh
import Derived.Test.YtihfejjkkgnneaaW4
import Derived.BigQuiet
import Derived.Deep.QuietTactic
namespace Go.Proofs.Ytihfejjkkgnneaa
open Go.RowKit

theorem idx_none (c : UInt8) : ∀ l : List UInt8, (∀ x ∈ l, x ≠ c) → Lib.indexByte l c = -1
  | [], _ => rfl
  | b :: l, h => by
    have h1 : (b == c) = false := by simpa using h b (List.mem_cons_self ..)
    have ih := idx_none c l (fun x hx => h x (List.mem_cons_of_mem _ hx))
    simp [Lib.indexByte, h1, ih]
theorem idx_at (c : UInt8) : ∀ (k v : List UInt8), (∀ x ∈ k, x ≠ c) → Lib.indexByte (k ++ c :: v) c = (k.length : Int)
  | [], v, _ => by simp [Lib.indexByte]
  | b :: l, v, h => by
    have h1 : (b == c) = false := by simpa using h b (List.mem_cons_self ..)
    have ih := idx_at c l v (fun x hx => h x (List.mem_cons_of_mem _ hx))
    have hne : ((l.length : Int) == -1) = false := by simp
    simp only [List.cons_append, Lib.indexByte, h1, ih, hne, List.length_cons, Bool.false_eq_true, if_false]
    omega

set_option maxRecDepth 100000 in
theorem lcut_none (c : UInt8) (s : ByteArray) (w : World) (h : ∀ x ∈ s.data.toList, x ≠ c) :
    Calls Try.prog 61 #[.string s, .string ⟨#[c]⟩] w fun e w' => e = .returned (.tuple #[.string s, .string ⟨#[]⟩, .bool false]) ∧ w = w' := by
  have hi := Lib.hid (idx_none c s.data.toList h); clear h
  go_enter Try.func61, Try.ntmps61
  go_wp2_with fail
  refine (Try.stringslite_Index_one s c _).mono ?_
  rintro e w' ⟨rfl, rfl⟩
  rw [hi.out]
  go_wp2
  go_ret3
  exact ⟨rfl, rfl⟩

set_option maxRecDepth 100000 in
theorem lcut_at (c : UInt8) (s : ByteArray) (k v : List UInt8) (w : World) (hs : s.data.toList = k ++ c :: v) (h : ∀ x ∈ k, x ≠ c) (hz : s.size ≤ 100000) :
    Calls Try.prog 61 #[.string s, .string ⟨#[c]⟩] w (RetQ w (.tuple #[.string ⟨k.toArray⟩, .string ⟨v.toArray⟩, .bool true])) := by
  have hi := Lib.hid (show Lib.indexByte s.data.toList c = (k.length : Int) by rw [hs]; exact idx_at c k v h)
  have hl := congrArg List.length hs
  rw [str_len, List.length_append, List.length_cons] at hl
  have e1 : s.extract 0 k.length = ⟨k.toArray⟩ := by
    apply str_eq
    rw [Fm.seg_extract]
    unfold Fm.seg
    rw [hs]
    simp
  have e2 : s.extract (k.length + 1) s.size = ⟨v.toArray⟩ := by
    apply str_eq
    rw [Fm.seg_extract]
    unfold Fm.seg
    rw [List.take_of_length_le (by rw [str_len]; omega), hs]
    simp
  have hkl : k.length + 1 ≤ s.size := by omega
  have H1 := Lib.hid e1; have H2 := Lib.hid e2; have Hl := Lib.hid hl; clear h hs e1 e2 hl
  go_enter Try.func61, Try.ntmps61
  go_wp2_with fail
  refine (Try.stringslite_Index_one s c _).mono ?_
  rintro e w' ⟨rfl, rfl⟩
  rw [hi.out]
  have q1 : IntKind.i64.wrap ((k.length : Int) + 1) = (k.length : Int) + 1 := IntWalk.i64_in _ (by omega)
  have q2 : 0 ≤ (k.length : Int) + 1 := by omega
  have q3 : ((k.length : Int) + 1).toNat = k.length + 1 := by omega
  go_wp2_with fail
  go_quiet (fail)
  go_wp2
  go_ret3
  exact ⟨by rw [H1.out, H2.out]; rfl, nq, rfl⟩

set_option maxRecDepth 100000 in
theorem cut_none (c : UInt8) (s : ByteArray) (w : World) (h : ∀ x ∈ s.data.toList, x ≠ c) :
    Calls Try.prog 45 #[.string s, .string ⟨#[c]⟩] w fun e w' => e = .returned (.tuple #[.string s, .string ⟨#[]⟩, .bool false]) ∧ w = w' := by
  have H := Lib.hid h; clear h
  go_enter Try.func45, Try.ntmps45
  go_wp2_with fail
  refine (lcut_none c s _ H.out).mono ?_
  rintro e w' ⟨rfl, rfl⟩
  go_wp2
  go_ret3
  exact ⟨rfl, rfl⟩
set_option maxRecDepth 100000 in
theorem cut_at (c : UInt8) (s : ByteArray) (k v : List UInt8) (w : World) (hs : s.data.toList = k ++ c :: v) (h : ∀ x ∈ k, x ≠ c) (hz : s.size ≤ 100000) :
    Calls Try.prog 45 #[.string s, .string ⟨#[c]⟩] w (RetQ w (.tuple #[.string ⟨k.toArray⟩, .string ⟨v.toArray⟩, .bool true])) := by
  have H := Lib.hid h; have Hs := Lib.hid hs; clear h hs
  go_enter Try.func45, Try.ntmps45
  go_wp2_with fail
  refine (lcut_at c s k v _ Hs.out H.out hz).mono ?_
  rintro e w' ⟨rfl, q, rfl⟩
  go_wp2
  go_ret3
  exact ⟨rfl, q, rfl⟩

/-- A byte is there, or not. -/
theorem cut_cases (c : UInt8) : ∀ l : List UInt8, (∀ x ∈ l, x ≠ c) ∨ ∃ k v, l = k ++ c :: v ∧ ∀ x ∈ k, x ≠ c
  | [] => .inl (fun x h => by cases h)
  | b :: l => by
    by_cases hb : b = c
    · exact .inr ⟨[], l, by rw [hb]; rfl, fun x h => by cases h⟩
    · rcases cut_cases c l with h | ⟨k, v, rfl, h⟩
      · exact .inl (fun x hx => by rcases List.mem_cons.1 hx with rfl | hx; exact hb; exact h x hx)
      · exact .inr ⟨b :: k, v, rfl, fun x hx => by rcases List.mem_cons.1 hx with rfl | hx; exact hb; exact h x hx⟩
end Go.Proofs.Ytihfejjkkgnneaa
