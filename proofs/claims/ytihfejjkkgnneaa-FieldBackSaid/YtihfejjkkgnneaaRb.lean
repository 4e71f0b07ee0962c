/-
  field.Same at rows of the same records.
-/
import Derived.Test.YtihfejjkkgnneaaRa
namespace Go.Proofs.Ytihfejjkkgnneaa
open Go.RowKit

set_option maxRecDepth 100000 in
set_option maxHeartbeats 1000000 in
/-- slices.Equal at records: the same texts. -/
theorem equal_c (A A' : Option Addr) (n c c' B B' : Nat) (l : List (List UInt8)) (w : World) (h1 : Rc 1 w B A n c (lvs l)) (h2 : Rc 1 w B' A' n c' (lvs l)) (hn : n ≤ 1000000) :
    Calls Try.prog 50 #[.slice A n c, .slice A' n c'] w (RetQ w (.bool true)) := by
  have hl : l.length = n := by have := h1.len1; rw [lvs_length] at this; exact this
  have H1 := Lib.hid h1; have H2 := Lib.hid h2; have Hl := Lib.hid hl; clear h1 h2 hl
  go_enter Try.func50, Try.ntmps50
  go_wp2
  go_loopw [13] (fun t wr => StrRel n w t wr) (fun t _ => n - (intOf t).toNat)
  case atStart => exact ⟨0, 0, rfl, Nat.zero_le _, rfl⟩
  case round =>
    obtain ⟨k, q, rfl, hk, rfl⟩ := hrel
    by_cases hlt : k < n
    · obtain ⟨b1, o1, v1, rfl, hb1, hc1, hv1⟩ := H1.out.at_ hlt
      obtain ⟨b2, o2, v2, rfl, hb2, hc2, hv2⟩ := H2.out.at_ hlt
      have hll : k < l.length := by rw [Hl.out]; exact hlt
      rw [lvs_get l k l[k] (List.getElem?_eq_getElem hll)] at hv1 hv2
      injection hv1 with hv1
      injection hv2 with hv2
      subst hv1 hv2
      go_wp2_with fail
      go_quiet (fail)
      go_wp2
      go_roundw
      case rel => exact ⟨k + 1, _, by go_num, by omega, rfl⟩
      case measure => simp [intOf]; omega
    · go_wp2
      go_ret
      exact ⟨rfl, q, rfl⟩

set_option maxRecDepth 100000 in
theorem sameOne_c (A A' : Option Addr) (n c c' B B' : Nat) (l : List (List UInt8)) (w : World) (h1 : Rc 1 w B A n c (lvs l)) (h2 : Rc 1 w B' A' n c' (lvs l)) (hn : n ≤ 1000000) :
    Calls Try.prog 49 #[.slice A n c, .slice A' n c'] w (RetQ w (.bool true)) := by
  have H1 := Lib.hid h1; have H2 := Lib.hid h2; clear h1 h2
  go_enter Try.func49, Try.ntmps49
  go_wp2_with fail
  refine (equal_c A A' n c c' _ _ l _ H1.out H2.out hn).mono ?_
  rintro e w' ⟨rfl, q, rfl⟩
  go_wp2
  go_ret
  exact ⟨rfl, q, rfl⟩

set_option maxRecDepth 100000 in
set_option maxHeartbeats 1000000 in
theorem equalFunc_c (A A' : Option Addr) (n c c' : Nat) (l : List (List (List UInt8))) (w : World) (h1 : RL w w.heap.size A n c l) (h2 : RL w w.heap.size A' n c' l) (hn : n ≤ 1000000) (hz : ∀ r ∈ l, r.length ≤ 1000000) :
    Calls Try.prog 48 #[.slice A n c, .slice A' n c', .func (.func 49) #[] #[]] w (RetQ w (.bool true)) := by
  have H1 := Lib.hid h1; have H2 := Lib.hid h2; have Hz := Lib.hid hz; clear h1 h2 hz
  go_enter Try.func48, Try.ntmps48
  go_wp2
  go_loopw [17] (fun t wr => RecRel l A A' n c c' w t wr) (fun t _ => n - (intOf t).toNat)
  case atStart => exact ⟨0, rfl, Nat.zero_le _, H1.out, H2.out, 0, rfl⟩
  case round =>
    obtain ⟨k, rfl, hk, g1, g2, hq⟩ := hrel
    have Hq := Lib.hid hq; clear hq
    by_cases hlt : k < n
    · obtain ⟨b1, o1, D1, m1, d1, r, rfl, hb1, hc1, hx1, _, hr1⟩ := g1.at_ hlt
      obtain ⟨b2, o2, D2, m2, d2, r2, rfl, hb2, hc2, hx2, _, hr2⟩ := g2.at_ hlt
      rw [hx1] at hx2
      injection hx2 with hx2
      subst hx2
      have e1 := lvs_num hr1
      have e2 := lvs_num hr2
      have hm : m1 ≤ 1000000 := by have := Hz.out r (List.mem_of_getElem? hx1); omega
      subst e1
      obtain rfl : r.length = m2 := e2
      have G1 := Lib.hid g1; have G2 := Lib.hid g2; have R1 := Lib.hid hr1; have R2 := Lib.hid hr2; clear hx1 g1 g2 hr1 hr2
      go_wp2_with fail
      refine (sameOne_c D1 D2 r.length d1 d2 _ _ r _ R1.out R2.out hm).mono ?_
      rintro e w' ⟨rfl, q, rfl⟩
      go_wp2
      go_roundw
      case rel => exact ⟨k + 1, by go_num, by omega, G1.out, G2.out, by obtain ⟨q2, hq⟩ := Hq.out; exact ⟨_, by rw [hq, World.drewN_drewN]⟩⟩
      case measure => simp [intOf]; omega
    · clear g1 g2
      go_wp2
      go_ret
      exact ⟨rfl, Hq.out⟩

set_option maxRecDepth 100000 in
/-- Same -/
theorem same_c (A A' : Option Addr) (n c c' : Nat) (l : List (List (List UInt8))) (w : World) (h1 : RL w w.heap.size A n c l) (h2 : RL w w.heap.size A' n c' l) (hn : n ≤ 1000000) (hz : ∀ r ∈ l, r.length ≤ 1000000) :
    Calls Try.prog 30 #[.slice A n c, .slice A' n c'] w (RetQ w (.bool true)) := by
  have H1 := Lib.hid h1; have H2 := Lib.hid h2; have Hz := Lib.hid hz; clear h1 h2 hz
  go_enter Try.func30, Try.ntmps30
  go_wp2_with fail
  refine (equalFunc_c A A' n c c' l _ H1.out H2.out hn Hz.out).mono ?_
  rintro e w' ⟨rfl, q, rfl⟩
  go_wp2
  go_ret
  exact ⟨rfl, q, rfl⟩
end Go.Proofs.Ytihfejjkkgnneaa
