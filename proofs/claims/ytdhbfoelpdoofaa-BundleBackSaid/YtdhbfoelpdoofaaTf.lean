/-
  varint.TakeFrame, Frame and what they call: what each call returns and leaves.
-/
import Derived.Test.YtdhbfoelpdoofaaTe
namespace Go.Proofs.Ytdhbfoelpdoofaa
open Go.RowKit

theorem frameS_cases (l : List UInt8) (most : Int) : (∃ t s, frameS l most = (t, s, 0) ∧ s ≤ l.length ∧ t.length ≤ s) ∨ (∃ x, frameS l most = ([], 0, x) ∧ (x = 2 ∨ x = 3 ∨ x = 5)) := by
  rcases tk_cases l with ⟨a, s, htk, ha, hs, hs10⟩ | ⟨x, htk, hx⟩
  · by_cases h1 : most < 0 ∨ most < (a : Int)
    · exact .inr ⟨5, frameS_large l most a s htk h1, by omega⟩
    · by_cases h2 : l.length - s < a
      · exact .inr ⟨2, frameS_short l most a s htk h1 h2, by omega⟩
      · exact .inl ⟨_, _, frameS_ok l most a s htk h1 h2, by omega, by simp; omega⟩
  · exact .inr ⟨x, frameS_err l most x htk hx, by omega⟩

theorem frame_ok (A : Option Addr) (n c B : Nat) (l : List UInt8) (most : Int) (w : World) (hr : Rb w B A n c l) (hn : n ≤ 1000000) (hm : I64 most) (t : List UInt8) (s : Nat) (h : frameS l most = (t, s, 0)) :
    Calls Try.prog 53 #[.slice A n c, .int .i64 most] w fun e w' => e = .returned (.tuple #[.string ⟨t.toArray⟩, .int .i64 (s : Int), .int .i64 0]) ∧ w = w' :=
  (frame_c A n c B l most w hr hn hm).mono fun e w' ⟨he, hw⟩ => ⟨by rw [he, h]; rfl, hw⟩
theorem frame_err (A : Option Addr) (n c B : Nat) (l : List UInt8) (most : Int) (w : World) (hr : Rb w B A n c l) (hn : n ≤ 1000000) (hm : I64 most) (x : Nat) (h : frameS l most = ([], 0, x)) :
    Calls Try.prog 53 #[.slice A n c, .int .i64 most] w fun e w' => e = .returned (.tuple #[.string ⟨#[]⟩, .int .i64 0, .int .i64 (x : Int)]) ∧ w = w' :=
  (frame_c A n c B l most w hr hn hm).mono fun e w' ⟨he, hw⟩ => ⟨by rw [he, h]; rfl, hw⟩

/-- What TakeFrame comes to. -/
def tframeS (l : List UInt8) (most : Int) : List UInt8 × List UInt8 × Nat := if (frameS l most).2.2 = 0 then ((frameS l most).1, l.drop (frameS l most).2.1, 0) else ([], [], (frameS l most).2.2)
theorem tframeS_ok (l : List UInt8) (most : Int) (t : List UInt8) (s : Nat) (h : frameS l most = (t, s, 0)) : tframeS l most = (t, l.drop s, 0) := by unfold tframeS; rw [h]; simp
theorem tframeS_err (l : List UInt8) (most : Int) (x : Nat) (h : frameS l most = ([], 0, x)) (hx : x = 2 ∨ x = 3 ∨ x = 5) : tframeS l most = ([], [], x) := by unfold tframeS; rw [h]; dsimp only; rw [if_neg (by omega)]

def RetF (base : Nat) (w : World) (t : List UInt8 × List UInt8 × Nat) (e : Ending) (w' : World) : Prop :=
  ∃ A c, e = .returned (.tuple #[.string ⟨t.1.toArray⟩, .slice A t.2.1.length c, .int .i64 (t.2.2 : Int)]) ∧ Own w' 5 base A c t.2.1 ∧ Below base w w'

set_option maxRecDepth 100000 in
/-- varint.TakeFrame -/
theorem takeFrame_c (A : Option Addr) (n c : Nat) (l : List UInt8) (most : Int) (w : World) (hr : Rb w w.heap.size A n c l) (hn : n ≤ 1000000) (hm : I64 most) :
    Calls Try.prog 52 #[.slice A n c, .int .i64 most] w (RetF w.heap.size w (tframeS l most)) := by
  have hl := hr.len
  rcases frameS_cases l most with ⟨t, s, hf, hs, ht⟩ | ⟨x, hf, hx⟩
  · obtain ⟨D, hD, hrD⟩ := bty.from_ hr (k := s) (by omega) (s : Int) rfl
    rw [tframeS_ok l most t s hf]
    have hsn : s ≤ n := by omega
    have Hr := Lib.hid hr; have Hf := Lib.hid hf; have HrD := Lib.hid hrD; have Hl := Lib.hid hl; have Hm := Lib.hid hm; clear hr hf hrD hl hm
    go_enter Try.func52, Try.ntmps52
    go_wp2_with fail
    refine (frame_ok A n c _ l most _ Hr.out hn Hm.out t s Hf.out).mono ?_
    rintro e w' ⟨rfl, rfl⟩
    go_wp2_with fail
    refine (grown_c D (n - s) (c - s) _ 0 _ HrD.out (by omega) (by omega)).mono ?_
    rintro e w1 ⟨A1, c1, rfl, hown1, hb1⟩
    go_wp2
    go_ret3
    exact ⟨A1, c1, ret3_len (by simp), hown1, hb1⟩
  · rw [tframeS_err l most x hf hx]
    have Hr := Lib.hid hr; have Hf := Lib.hid hf; have Hm := Lib.hid hm; clear hr hf hl hm
    have hx1 : 2 ≤ x := by omega
    clear hx
    go_enter Try.func52, Try.ntmps52
    go_wp2_with fail
    refine (frame_err A n c _ l most _ Hr.out hn Hm.out x Hf.out).mono ?_
    rintro e w' ⟨rfl, rfl⟩
    go_wp2
    go_ret3
    exact ⟨none, 0, rfl, Own.nil _ _ _, Below.refl _ _⟩

/-- The frame of a text. -/
def fr (s : ByteArray) : List UInt8 := Vm.vb s.size ++ s.data.toList
theorem fr_len (s : ByteArray) : (fr s).length = (Vm.vb s.size).length + s.size := by unfold fr; rw [List.length_append, Array.length_toList]; rfl
theorem vb_small (n : Nat) (h : n ≤ 1000000) : (Vm.vb n).length ≤ 3 := by
  have e : (128 : Nat) ^ (2 + 1) = 2097152 := by decide
  exact Vm.vb_len_le 2 n (by omega)

set_option maxRecDepth 100000 in
/-- varint.frameSize -/
theorem frameSize_c (s : ByteArray) (w : World) (hs : s.size ≤ 100000) :
    Calls Try.prog 46 #[.string s] w fun e w' => e = .returned (.int .i64 ((fr s).length : Int)) ∧ w = w' := by
  have hv := vb_small s.size (by omega)
  have hw : IntKind.u64.wrap (s.size : Int) = (s.size : Int) := by rw [IntKind.wrap_u64]; omega
  rw [fr_len]
  go_enter Try.func46, Try.ntmps46
  go_wp2_with fail
  refine (size_c s.size _ (by omega)).mono ?_
  rintro e w' ⟨rfl, rfl⟩
  go_wp2
  go_ret
  exact ⟨ret_int (by omega), rfl⟩

set_option maxRecDepth 100000 in
/-- varint.addFrame -/
theorem addFrame_c (A : Option Addr) (c base : Nat) (l : List UInt8) (s : ByteArray) (w : World) (hown : Own w 5 base A c l) (hb : base ≤ w.heap.size) (hl : l.length ≤ 800000) (hs : s.size ≤ 100000) :
    Calls Try.prog 45 #[.slice A l.length c, .string s] w (RetB base w (l ++ fr s)) := by
  have hv := vb_small s.size (by omega)
  have hw : IntKind.u64.wrap (s.size : Int) = (s.size : Int) := by rw [IntKind.wrap_u64]; omega
  go_enter Try.func45, Try.ntmps45
  go_wp2_with fail
  refine (add_c A c base l s.size _ hown hb (by omega)).mono ?_
  rintro e w1 ⟨A1, c1, rfl, hown1, hb1⟩
  have hsz := hb1.size
  go_wp2_with (at_builtin; go_must (refine bty.wpAppStr rfl (.tmp 9) (.tmp 10) rfl (l := l ++ Vm.vb s.size) ?e1 rfl hown1 ?hs1 ?hs2 ?_))
  case e1 => simp; rfl
  case hs1 => rw [List.length_append]; omega
  case hs2 => omega
  intro A2 c2 w2 hown2 hb2
  go_wp2
  go_ret
  exact ⟨A2, c2, ret_len (by unfold fr; simp), by unfold fr; exact hown2, hb1.trans hb2⟩

set_option maxRecDepth 100000 in
/-- varint.Frame -/
theorem frameP_c (A : Option Addr) (n c : Nat) (l : List UInt8) (s : ByteArray) (w : World) (hr : Rb w w.heap.size A n c l) (hn : n ≤ 700000) (hs : s.size ≤ 100000) :
    Calls Try.prog 33 #[.slice A n c, .string s] w (RetB w.heap.size w (l ++ fr s)) := by
  have hv := vb_small s.size (by omega)
  have hf := fr_len s
  have Hf := Lib.hid hf; clear hf
  have hfl : (fr s).length ≤ 200000 := by rw [Hf.out]; omega
  have hl := hr.len
  have Hr := Lib.hid hr; have Hl := Lib.hid hl; clear hr hl
  go_enter Try.func33, Try.ntmps33
  go_wp2_with fail
  refine (frameSize_c s _ hs).mono ?_
  rintro e w' ⟨rfl, rfl⟩
  go_wp2_with fail
  refine (grown_c A n c l _ _ Hr.out (by omega) (by omega)).mono ?_
  rintro e w1 ⟨A1, c1, rfl, hown1, hb1⟩
  go_wp2_with fail
  refine (addFrame_c A1 c1 w.heap.size l s _ hown1 hb1.size (by rw [Hl.out]; omega) hs).mono ?_
  rintro e w2 ⟨A2, c2, rfl, hown2, hb2⟩
  go_wp2
  go_ret
  exact ⟨A2, c2, ret_len (by simp), hown2, hb1.trans hb2⟩

set_option maxRecDepth 100000 in
/-- the document's Frame -/
theorem rframe_c (A : Option Addr) (n c : Nat) (l : List UInt8) (s : ByteArray) (w : World) (hr : Rb w w.heap.size A n c l) (hn : n ≤ 700000) (hs : s.size ≤ 100000) :
    Calls Try.prog 22 #[.slice A n c, .string s] w (RetB w.heap.size w (l ++ fr s)) := by
  have hv := vb_small s.size (by omega)
  have hw : IntKind.u64.wrap (s.size : Int) = (s.size : Int) := by rw [IntKind.wrap_u64]; omega
  have hl := hr.len
  have Hr := Lib.hid hr; have Hl := Lib.hid hl; clear hr hl
  go_enter Try.func22, Try.ntmps22
  go_wp2_with fail
  refine (rput_c A n c l s.size _ Hr.out (by omega) (by omega)).mono ?_
  rintro e w1 ⟨A1, c1, rfl, hown1, hb1⟩
  have hsz := hb1.size
  go_wp2_with (at_builtin; go_must (refine bty.wpAppStr rfl (.tmp 11) (.tmp 12) rfl (l := l ++ Vm.vb s.size) ?e1 rfl hown1 ?hs1 ?hs2 ?_))
  case e1 => simp; rfl
  case hs1 => rw [List.length_append, Hl.out]; omega
  case hs2 => omega
  intro A2 c2 w2 hown2 hb2
  go_wp2
  go_ret
  exact ⟨A2, c2, ret_len (by unfold fr; simp), by unfold fr; exact hown2, hb1.trans hb2⟩
end Go.Proofs.Ytdhbfoelpdoofaa
