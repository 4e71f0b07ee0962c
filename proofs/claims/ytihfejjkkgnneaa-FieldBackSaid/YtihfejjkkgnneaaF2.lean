/-
  field's addEscaped: what the call returns and leaves.
-/
import Derived.Test.YtihfejjkkgnneaaF1
import Derived.Test.YtihfejjkkgnneaaTf
import Derived.Test.YtihfejjkkgnneaaGr
namespace Go.Proofs.Ytihfejjkkgnneaa
open Go.RowKit Go.Maps

/-- One byte escaped. -/
def escB (x : UInt8) : List UInt8 := match letter x with | some c => [92, c] | none => [x]
theorem escB_some {x c : UInt8} (h : letter x = some c) : escB x = [92, c] := by unfold escB; rw [h]
theorem escB_none {x : UInt8} (h : letter x = none) : escB x = [x] := by unfold escB; rw [h]
theorem esc_cons (x : UInt8) (r : List UInt8) : Fm.esc (x :: r) = escB x ++ Fm.esc r := by
  unfold escB letter
  rw [Fm.esc]
  repeat' split
  all_goals simp_all
theorem esc_app (a b : List UInt8) : Fm.esc (a ++ b) = Fm.esc a ++ Fm.esc b := by
  induction a with
  | nil => rfl
  | cons x r ih => rw [List.cons_append, esc_cons, ih, esc_cons, List.append_assoc]
theorem esc_snoc (a : List UInt8) (x : UInt8) : Fm.esc (a ++ [x]) = Fm.esc a ++ escB x := by
  rw [esc_app, esc_cons]; simp [Fm.esc]
theorem str_take (s : ByteArray) (k : Nat) (h : k < s.size) : s.data.toList.take (k + 1) = s.data.toList.take k ++ [s[k]] := by
  rw [List.take_succ_eq_append_getElem (by simpa using h)]; rfl
theorem str_len (s : ByteArray) : s.data.toList.length = s.size := by rw [Array.length_toList]; rfl
theorem Rb.two (w : World) (e : TypeId) (x y : UInt8) : Rb (w.alloc (.cells #[.int .u8 (x.toNat : Int), .int .u8 (y.toNat : Int)] e)) (w.heap.size + 1) (some ⟨w.heap.size, 0, none⟩) 2 2 [x, y] :=
  ⟨rfl, Nat.le_refl _, by simp [maxLen], fun _ => ⟨_, _, rfl, by omega, fun j z hj => by
    match j, hj with
    | 0, hj => simp at hj; subst hj; simp
    | 1, hj => simp at hj; subst hj; simp⟩⟩
theorem Rb.twoI (w : World) (e : TypeId) (z z' : Int) (x y : UInt8) (hz : z = (x.toNat : Int)) (hz' : z' = (y.toNat : Int)) : Rb (w.alloc (.cells #[.int .u8 z, .int .u8 z'] e)) (w.heap.size + 1) (some ⟨w.heap.size, 0, none⟩) 2 2 [x, y] := by
  subst hz hz'
  exact Rb.two w e x y

/-- A call hands back a longer row of its own. -/
def RetG (base : Nat) (w : World) (A : Option Addr) (L : List UInt8) (e : Ending) (w' : World) : Prop :=
  ∃ A' c', e = .returned (.slice A' L.length c') ∧ Own w' 5 base A' c' L ∧ Grows w w' A A'
def EscG (base : Nat) (w : World) (A : Option Addr) (l : List UInt8) (s : ByteArray) (o i : Value) (wr : World) : Prop :=
  ∃ A' c L, ∃ k : Nat, o = .slice A' L.length c ∧ i = .int .i64 (k : Int) ∧ k ≤ s.size ∧ Own wr 5 base A' c L ∧ L = l ++ Fm.esc (s.data.toList.take k) ∧ Grows w wr A A'
def EscRel (base : Nat) (w : World) (l : List UInt8) (s : ByteArray) (o i : Value) (wr : World) : Prop :=
  ∃ A c L, ∃ k : Nat, o = .slice A L.length c ∧ i = .int .i64 (k : Int) ∧ k ≤ s.size ∧ Own wr 5 base A c L ∧ L = l ++ Fm.esc (s.data.toList.take k) ∧ Below base w wr

set_option maxRecDepth 100000 in
set_option maxHeartbeats 1000000 in
/-- addEscaped -/
theorem addEscaped_g (b base : Nat) (A : Option Addr) (c : Nat) (l : List UInt8) (s : ByteArray) (w : World) (hm : Mp w b) (hbb : b < base) (hown : Own w 5 base A c l) (hb : base ≤ w.heap.size) (hl : l.length ≤ 1000000) (hs : s.size ≤ 100000) :
    Calls Try.prog 42 #[.map (some b), .slice A l.length c, .string s] w (RetG base w A (l ++ Fm.esc s.data.toList)) := by
  have Hm := Lib.hid hm; have Ho := Lib.hid hown; clear hm
  go_enter Try.func42, Try.ntmps42
  go_wp2
  go_loopw [1, 12] (fun o i wr => EscG base w A l s o i wr) (fun _ i _ => s.size - (intOf i).toNat)
  case atStart => exact ⟨A, c, l, 0, rfl, rfl, Nat.zero_le _, hown, by simp [Fm.esc], Grows.refl _ _⟩
  case round =>
    obtain ⟨A1, c1, L, k, rfl, rfl, hk, hown1, hL, hgr⟩ := hrel
    have hbel := hgr.below Ho.out hb
    have hlen := congrArg List.length hL
    have hel := Fm.esc_len (s.data.toList.take k)
    have htl : (s.data.toList.take k).length ≤ k := List.length_take_le _ _
    rw [List.length_append] at hlen
    have hLs : L.length ≤ 1300000 := by omega
    have hsz := hbel.size
    by_cases hlt : k < s.size
    · have hm1 := Hm.out.below hbel hbb
      have ht := str_take s k hlt
      have hnx : L ++ escB s[k] = l ++ Fm.esc (s.data.toList.take (k + 1)) := by rw [ht, esc_snoc, hL, List.append_assoc]
      have Hnx := Lib.hid hnx
      clear hL hlen hel htl ht hnx
      cases hc : letter s[k] with
      | some d =>
        have hlk := hm1.look_some s[k] d hc
        have Hc := Lib.hid hc; clear hc hm1
        go_wp2_with (at_builtin; go_must (refine bty.wpAppAt rfl (.tmp 24) (.tmp 26) rfl (l := L) rfl rfl (hown1.alloc _) (Rb.twoI _ _ _ _ 92 d rfl rfl) ?hs1 ?hs2 ?_))
        case hs1 => simp; omega
        case hs2 => simp; omega
        intro A2 c2 w2 hown2 hbel2
        go_wp2
        go_roundw
        case rel => exact ⟨A2, c2, L ++ [92, d], k + 1, by simp, by go_num, by omega, hown2, by rw [← Hnx.out, escB_some Hc.out], hgr.trans (Grows.pre ((Below.refl _ _).alloc (Nat.le_refl _) _) hbel2)⟩
        case measure => simp [intOf]; omega
      | none =>
        have hlk := hm1.look_none s[k] hc
        have Hc := Lib.hid hc; clear hc hm1
        go_wp2_with (at_builtin; go_must (refine bty.wpAppAt rfl (.tmp 28) (.tmp 32) rfl (l := L) rfl rfl (hown1.alloc _) (Rb.oneI _ _ _ s[k] rfl) ?hs3 ?hs4 ?_))
        case hs3 => simp; omega
        case hs4 => simp; omega
        intro A2 c2 w2 hown2 hbel2
        go_wp2
        go_roundw
        case rel => exact ⟨A2, c2, L ++ [s[k]], k + 1, by simp, by go_num, by omega, hown2, by rw [← Hnx.out, escB_none Hc.out], hgr.trans (Grows.pre ((Below.refl _ _).alloc (Nat.le_refl _) _) hbel2)⟩
        case measure => simp [intOf]; omega
    · have HL := Lib.hid hL; clear hL hlen hel htl
      go_wp2
      go_ret
      have e : L = l ++ Fm.esc s.data.toList := by rw [HL.out, List.take_of_length_le (by rw [str_len]; omega)]
      rw [← e]
      exact ⟨A1, c1, rfl, hown1, hgr⟩
theorem addEscaped_c (b base : Nat) (A : Option Addr) (c : Nat) (l : List UInt8) (s : ByteArray) (w : World) (hm : Mp w b) (hbb : b < base) (hown : Own w 5 base A c l) (hb : base ≤ w.heap.size) (hl : l.length ≤ 1000000) (hs : s.size ≤ 100000) :
    Calls Try.prog 42 #[.map (some b), .slice A l.length c, .string s] w (RetB base w (l ++ Fm.esc s.data.toList)) :=
  (addEscaped_g b base A c l s w hm hbb hown hb hl hs).mono fun _ _ ⟨A', c', he, ho, hg⟩ => ⟨A', c', he, ho, hg.below hown hb⟩
theorem addEscaped_to (b base : Nat) (A : Option Addr) (c : Nat) (l N : List UInt8) (s : ByteArray) (w : World) (hm : Mp w b) (hbb : b < base) (hown : Own w 5 base A c l) (hb : base ≤ w.heap.size) (hl : l.length ≤ 1000000) (hs : s.size ≤ 100000) (hN : l ++ Fm.esc s.data.toList = N) :
    Calls Try.prog 42 #[.map (some b), .slice A l.length c, .string s] w (RetG base w A N) := by
  subst hN
  exact addEscaped_g b base A c l s w hm hbb hown hb hl hs
end Go.Proofs.Ytihfejjkkgnneaa
