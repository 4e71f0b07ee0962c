/-
  bytes.ReplaceAll, seq's Escape; bytes.HasPrefix, CutPrefix, Equal: what each call returns.
-/
import Derived.Test.YtddnlimkaagpdaaDoorS5
namespace Go.Proofs.YtddnlimkaagpdaaDoor
open Go.RowKit

set_option maxRecDepth 100000 in
theorem replAll_c (A : Option Addr) (n c g1 g2 : Nat) (l : List UInt8) (w : World) (hr : Rb w w.heap.size A n c l) (hn : n ≤ 1000000) (h1 : Rb w w.heap.size (some ⟨g1, 0, none⟩) 1 1 [255]) (h2 : Rb w w.heap.size (some ⟨g2, 0, none⟩) 2 2 [255, 0]) (hx : Mx w) :
    Calls Tryd.prog 37 #[.slice A n c, .slice (some ⟨g1, 0, none⟩) 1 1, .slice (some ⟨g2, 0, none⟩) 2 2] w (RetB w.heap.size w (Sm.esc l)) := by
  have H := Lib.hid (replace_c A n c g1 g2 l w hr hn h1 h2 hx); clear hr h1 h2 hx
  go_enter Tryd.func37, Tryd.ntmps37
  go_wp2_with fail
  refine H.out.mono ?_
  rintro e w' ⟨A', c', rfl, ho, hb⟩
  go_wp2
  go_ret
  exact ⟨A', c', rfl, ho, hb⟩

set_option maxRecDepth 100000 in
/-- seq's Escape -/
theorem esc_c (A : Option Addr) (n c : Nat) (l : List UInt8) (w : World) (hr : Rb w w.heap.size A n c l) (hn : n ≤ 1000000) (hx : Mx w) :
    Calls Tryd.prog 19 #[.slice A n c] w (RetB w.heap.size w (Sm.esc l)) := by
  obtain ⟨w1, hw1⟩ : ∃ w1, w1 = w.alloc (.cells #[.int .u8 255] 5) := ⟨_, rfl⟩
  obtain ⟨w2, hw2⟩ : ∃ w2, w2 = w1.alloc (.cells #[.int .u8 255, .int .u8 0] 5) := ⟨_, rfl⟩
  have z1 : w1.heap.size = w.heap.size + 1 := by rw [hw1]; simp
  have z2 : w2.heap.size = w.heap.size + 2 := by rw [hw2]; simp [z1]
  have b1 : Below w.heap.size w w1 := by rw [hw1]; exact (Below.refl _ _).alloc (Nat.le_refl _) _
  have b12 : Below w1.heap.size w1 w2 := by rw [hw2]; exact (Below.refl _ _).alloc (Nat.le_refl _) _
  have b2 : Below w.heap.size w w2 := b1.trans (b12.mono b1.size)
  have r1 : Rb w1 w1.heap.size (some ⟨w.heap.size, 0, none⟩) 1 1 [255] := by rw [hw1]; exact (Rb.lit w _ _ _ _ 1 rfl rfl (by omega)).more (by simp)
  have r2 : Rb w2 w2.heap.size (some ⟨w1.heap.size, 0, none⟩) 2 2 [255, 0] := by rw [hw2]; exact (Rb.lit w1 _ _ _ _ 2 rfl rfl (by omega)).more (by simp)
  have H := replAll_c A n c w.heap.size w1.heap.size l w2 ((hr.below b2).more b2.size) hn ((r1.below b12).more b12.size) r2 (hx.below' b2)
  rw [z1] at H
  have H2 : Calls Tryd.prog 37 #[.slice A n c, .slice (some ⟨w.heap.size, 0, none⟩) 1 1, .slice (some ⟨w.heap.size + 1, 0, none⟩) 2 2] w2 (RetB w.heap.size w (Sm.esc l)) :=
    H.mono fun e w' ⟨A', c', he, ho, hb⟩ => ⟨A', c', he, ho.mono b2.size, b2.trans (hb.mono b2.size)⟩
  rw [hw2, hw1] at H2
  have HH := Lib.hid H2
  clear H H2 r1 r2 b2 b12 b1 z2 z1 hw2 hw1 hr hx w2 w1
  go_enter Tryd.func19, Tryd.ntmps19
  go_wp2_with fail
  refine HH.out.mono ?_
  rintro e w' ⟨A', c', rfl, ho, hb⟩
  go_wp2
  go_ret
  exact ⟨A', c', rfl, ho, hb⟩

theorem mk_ne {l r : List UInt8} (h : l ≠ r) : (⟨l.toArray⟩ : ByteArray) ≠ ⟨r.toArray⟩ := fun e => h (by
  have := congrArg (fun b : ByteArray => b.data.toList) e
  simpa using this)

set_option maxRecDepth 100000 in
/-- bytes.Equal -/
theorem equal_c (A D : Option Addr) (n c m d B B' : Nat) (l r : List UInt8) (w : World) (h1 : Rb w B A n c l) (h2 : Rb w B' D m d r) (o : Bool) (ho : o = (l == r)) :
    Calls Tryd.prog 41 #[.slice A n c, .slice D m d] w fun e w' => e = .returned (.bool o) ∧ w = w' := by
  have cv1 := bty.conv h1
  have cv2 := bty.conv h2
  clear h1 h2
  by_cases h : l = r
  · subst h
    obtain rfl : o = true := by rw [ho]; simp
    clear ho
    go_enter Tryd.func41, Tryd.ntmps41
    go_wp2
    go_ret
    exact ⟨rfl, rfl⟩
  · obtain rfl : o = false := by rw [ho]; simpa using h
    clear ho
    go_enter Tryd.func41, Tryd.ntmps41
    go_wp2
    go_ret
    exact ⟨by first | rfl | simp [h], rfl⟩


set_option maxRecDepth 100000 in
/-- bytes.HasPrefix -/
theorem hasp_c (A D : Option Addr) (n c k d B B' : Nat) (l r : List UInt8) (w : World) (h1 : Rb w B A n c l) (h2 : Rb w B' D k d r) (o : Bool) (ho : o = decide (l.take k = r)) :
    Calls Tryd.prog 38 #[.slice A n c, .slice D k d] w fun e w' => e = .returned (.bool o) ∧ w = w' := by
  have hl := h1.len
  have hr := h2.len
  by_cases h : k ≤ n
  · obtain ⟨E, hE, hrE⟩ := bty.upto_ h1 h (k : Int) rfl
    have he := equal_c E D k c k d B B' (l.take k) r w hrE h2 o (by rw [ho, Bool.eq_iff_iff]; simp)
    have H := Lib.hid he
    have hle : (k : Int) ≤ (n : Int) := by omega
    clear he hrE h1 h2 ho hl hr
    go_enter Tryd.func38, Tryd.ntmps38
    go_wp2_with fail
    refine H.out.mono ?_
    rintro e w' ⟨rfl, rfl⟩
    go_wp2
    go_ret
    exact ⟨rfl, rfl⟩
  · obtain rfl : o = false := by
      rw [ho]
      refine decide_eq_false fun e => ?_
      have := congrArg List.length e
      rw [List.length_take] at this
      omega
    have hle : ¬ (k : Int) ≤ (n : Int) := by omega
    clear ho h1 h2 hl hr
    go_enter Tryd.func38, Tryd.ntmps38
    go_wp2
    go_ret
    exact ⟨rfl, rfl⟩

set_option maxRecDepth 100000 in
/-- bytes.CutPrefix where the prefix is there -/
theorem cutp_yes (A D : Option Addr) (n c k d B B' : Nat) (l r : List UInt8) (w : World) (h1 : Rb w B A n c l) (h2 : Rb w B' D k d r) (ho : l.take k = r) :
    Calls Tryd.prog 58 #[.slice A n c, .slice D k d] w fun e w' => (∃ E, e = .returned (.tuple #[.slice E (n - k) (c - k), .bool true]) ∧ Rb w B E (n - k) (c - k) (l.drop k)) ∧ w = w' := by
  have hl := h1.len
  have hr := h2.len
  have hk : k ≤ n := by
    have := congrArg List.length ho
    rw [List.length_take] at this
    omega
  obtain ⟨E, hE, hrE⟩ := bty.from_ h1 hk (k : Int) rfl
  have H := Lib.hid (hasp_c A D n c k d B B' l r w h1 h2 true (by rw [ho]; simp))
  have HrE := Lib.hid hrE
  clear h1 h2 ho hl hr hrE
  go_enter Tryd.func58, Tryd.ntmps58
  go_wp2_with fail
  refine H.out.mono ?_
  rintro e w' ⟨rfl, rfl⟩
  go_wp2
  go_ret2
  exact ⟨⟨E, rfl, HrE.out⟩, rfl⟩
set_option maxRecDepth 100000 in
/-- bytes.CutPrefix where it is not -/
theorem cutp_no (A D : Option Addr) (n c k d B B' : Nat) (l r : List UInt8) (w : World) (h1 : Rb w B A n c l) (h2 : Rb w B' D k d r) (ho : l.take k ≠ r) :
    Calls Tryd.prog 58 #[.slice A n c, .slice D k d] w fun e w' => e = .returned (.tuple #[.slice A n c, .bool false]) ∧ w = w' := by
  have H := Lib.hid (hasp_c A D n c k d B B' l r w h1 h2 false (by simp [ho]))
  clear h1 h2 ho
  go_enter Tryd.func58, Tryd.ntmps58
  go_wp2_with fail
  refine H.out.mono ?_
  rintro e w' ⟨rfl, rfl⟩
  go_wp2
  go_ret2
  exact ⟨rfl, rfl⟩
end Go.Proofs.YtddnlimkaagpdaaDoor
