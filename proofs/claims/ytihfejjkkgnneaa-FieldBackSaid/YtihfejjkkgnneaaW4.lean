/-
  The document's Strings at rows of the same texts.
-/
import Derived.Test.YtihfejjkkgnneaaW3
import Derived.BigQuiet
import Derived.Deep.QuietTactic
namespace Go.Proofs.Ytihfejjkkgnneaa
open Go.RowKit

def RetQ (w : World) (v : Value) (e : Ending) (w' : World) : Prop := e = .returned v ∧ ∃ q, w' = w.drewN q
def StrRel (n : Nat) (w : World) (t : Value) (wr : World) : Prop := ∃ k q : Nat, t = .int .i64 (k : Int) ∧ k ≤ n ∧ wr = w.drewN q

set_option maxRecDepth 100000 in
set_option maxHeartbeats 1000000 in
/-- Strings: rows of the same texts are alike. -/
theorem strings_c (A A' : Option Addr) (n c c' B B' : Nat) (l : List (List UInt8)) (w : World) (h1 : Rc 1 w B A n c (lvs l)) (h2 : Rc 1 w B' A' n c' (lvs l)) (hn : n ≤ 1000000) :
    Calls Try.prog 21 #[.slice A n c, .slice A' n c'] w (RetQ w (.bool true)) := by
  have hl : l.length = n := by have := h1.len1; rw [lvs_length] at this; exact this
  have H1 := Lib.hid h1; have H2 := Lib.hid h2; have Hl := Lib.hid hl; clear h1 h2 hl
  go_enter Try.func21, Try.ntmps21
  go_wp2
  go_loopw [5] (fun t wr => StrRel n w t wr) (fun t _ => n - (intOf t).toNat)
  case atStart => exact ⟨0, 0, rfl, Nat.zero_le _, rfl⟩
  case round =>
    obtain ⟨k, q, rfl, hk, rfl⟩ := hrel
    by_cases hlt : k < n
    · obtain ⟨b1, o1, v1, rfl, hb1, hc1, hv1⟩ := H1.out.at_ hlt
      obtain ⟨b2, o2, v2, rfl, hb2, hc2, hv2⟩ := H2.out.at_ hlt
      have hll : k < l.length := by rw [Hl.out]; exact hlt
      rw [lvs_get l k l[k] (List.getElem?_eq_getElem hll)] at hv1 hv2
      injection hv1 with hv1
      injection hv2 with hv2
      subst hv1 hv2
      go_wp2_with fail
      go_quiet (fail)
      go_wp2
      go_roundw
      case rel => exact ⟨k + 1, _, by go_num, by omega, rfl⟩
      case measure => simp [intOf]; omega
    · go_wp2
      go_ret
      exact ⟨rfl, q, rfl⟩
end Go.Proofs.Ytihfejjkkgnneaa
