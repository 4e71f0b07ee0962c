/-
  fixed's areWidths, sum; the document's widths: what each call returns.
-/
import Derived.Test.YtjdmpnonjlffaaaY1
import Derived.Test.YtjdmpnonjlffaaaFy
import Derived.Test.YtjdmpnonjlffaaaVc
import Derived.IntWalk
namespace Go.Proofs.Ytjdmpnonjlffaaa
open Go.RowKit Go.Maps

def WRel (ws : List Int) (m : Nat) (t : Value) : Prop := ∃ j : Nat, t = .int .i64 (j : Int) ∧ j ≤ m ∧ ∀ x ∈ ws.take j, 0 ≤ x ∧ x ≤ 1000
theorem take_next {ws : List Int} {j : Nat} {x : Int} (hx : ws[j]? = some x) (h0 : 0 ≤ x) (h1 : x ≤ 1000) (h : ∀ x ∈ ws.take j, 0 ≤ x ∧ x ≤ 1000) : ∀ x ∈ ws.take (j + 1), 0 ≤ x ∧ x ≤ 1000 := fun y hy => by
  rw [List.take_add_one, hx, List.mem_append] at hy
  rcases hy with hy | hy
  · exact h y hy
  · simp at hy; rw [hy]; exact ⟨h0, h1⟩

set_option maxRecDepth 100000 in
theorem arw_c (A : Option Addr) (m c B : Nat) (ws : List Int) (o : Bool) (ho : o = Fx.wok ws) (w : World) (hr : Rc 1 w B A m c (ivs ws)) :
    Calls Try.prog 35 #[.slice A m c] w fun e w' => e = .returned (.bool o) ∧ w = w' := by
  have hl : ws.length = m := by have := hr.len1; rw [ivs_length] at this; exact this
  have hm : m ≤ 9223372036854775807 := by have h2 := hr.2.1; have h3 := hr.2.2.1; unfold maxLen at h3; omega
  have Hr := Lib.hid hr; have Hl := Lib.hid hl; have Ho := Lib.hid ho; clear hr hl ho
  by_cases h0 : m = 0
  · obtain rfl : o = false := by rw [Ho.out]; exact Fx.wok_none (.inl (by have := Hl.out; omega))
    subst h0
    go_enter Try.func35, Try.ntmps35
    go_wp2
    go_ret
    exact ⟨rfl, rfl⟩
  · have dm : ((m : Int) == 0) = false := by simp; omega
    by_cases h50 : 50 < m
    · obtain rfl : o = false := by rw [Ho.out]; exact Fx.wok_none (.inr (by have := Hl.out; omega))
      have dm2 : decide ((50 : Int) < (m : Int)) = true := by simp; omega
      go_enter Try.func35, Try.ntmps35
      go_wp2
      go_ret
      exact ⟨rfl, rfl⟩
    · have dm2 : decide ((50 : Int) < (m : Int)) = false := by simp; omega
      go_enter Try.func35, Try.ntmps35
      go_wp2
      go_loop [15] (fun t => WRel ws m t) (fun t => m - (intOf t).toNat)
      case atStart => exact ⟨0, rfl, Nat.zero_le _, by simp⟩
      case round =>
        clear dm dm2
        obtain ⟨j, rfl, hj, hall⟩ := hrel
        have Hall := Lib.hid hall; clear hall
        by_cases hlt : j < m
        · obtain ⟨b, off, x, rfl, hb, hcell, hx⟩ := Hr.out.int hlt
          have Hx := Lib.hid hx; clear hx
          by_cases hx0 : x < 0
          · obtain rfl : o = false := by rw [Ho.out]; exact Fx.wok_no Hx.out (.inl hx0)
            have dx : decide (x < 0) = true := by simpa using hx0
            go_wp2
            go_ret
            exact ⟨rfl, rfl⟩
          · have dx : decide (x < 0) = false := by simpa using hx0
            by_cases hx1 : 1000 < x
            · obtain rfl : o = false := by rw [Ho.out]; exact Fx.wok_no Hx.out (.inr hx1)
              have dx1 : decide (1000 < x) = true := by simpa using hx1
              go_wp2
              go_ret
              exact ⟨rfl, rfl⟩
            · have dx1 : decide (1000 < x) = false := by simpa using hx1
              have Hn := Lib.hid (take_next Hx.out (by omega) (by omega) Hall.out)
              go_wp2
              go_round
              case rel => exact ⟨j + 1, by go_num, hlt, Hn.out⟩
              case measure => simp [intOf]; omega
        · obtain rfl : o = true := by
            rw [Ho.out]
            have h1 := Hl.out
            have h2 := Hall.out
            rw [List.take_of_length_le (by omega)] at h2
            exact Fx.wok_yes (by omega) (by omega) h2
          go_wp2
          go_ret
          exact ⟨rfl, rfl⟩

set_option maxRecDepth 100000 in
theorem rws_c (A : Option Addr) (m c B : Nat) (ws : List Int) (o : Bool) (ho : o = Fx.wok ws) (w : World) (hr : Rc 1 w B A m c (ivs ws)) :
    Calls Try.prog 37 #[.slice A m c] w fun e w' => e = .returned (.bool o) ∧ w = w' := by
  have hl : ws.length = m := by have := hr.len1; rw [ivs_length] at this; exact this
  have hm : m ≤ 9223372036854775807 := by have h2 := hr.2.1; have h3 := hr.2.2.1; unfold maxLen at h3; omega
  have Hr := Lib.hid hr; have Hl := Lib.hid hl; have Ho := Lib.hid ho; clear hr hl ho
  by_cases h0 : m = 0
  · obtain rfl : o = false := by rw [Ho.out]; exact Fx.wok_none (.inl (by have := Hl.out; omega))
    subst h0
    go_enter Try.func37, Try.ntmps37
    go_wp2
    go_ret
    exact ⟨rfl, rfl⟩
  · have dm : decide ((m : Int) < 1) = false := by simp; omega
    by_cases h50 : 50 < m
    · obtain rfl : o = false := by rw [Ho.out]; exact Fx.wok_none (.inr (by have := Hl.out; omega))
      have dm2 : decide ((50 : Int) < (m : Int)) = true := by simp; omega
      go_enter Try.func37, Try.ntmps37
      go_wp2
      go_ret
      exact ⟨rfl, rfl⟩
    · have dm2 : decide ((50 : Int) < (m : Int)) = false := by simp; omega
      go_enter Try.func37, Try.ntmps37
      go_wp2
      go_loop [3] (fun t => WRel ws m t) (fun t => m - (intOf t).toNat)
      case atStart => exact ⟨0, rfl, Nat.zero_le _, by simp⟩
      case round =>
        clear dm dm2
        obtain ⟨j, rfl, hj, hall⟩ := hrel
        have Hall := Lib.hid hall; clear hall
        by_cases hlt : j < m
        · obtain ⟨b, off, x, rfl, hb, hcell, hx⟩ := Hr.out.int hlt
          have Hx := Lib.hid hx; clear hx
          by_cases hx0 : x < 0
          · obtain rfl : o = false := by rw [Ho.out]; exact Fx.wok_no Hx.out (.inl hx0)
            have dx : decide (x < 0) = true := by simpa using hx0
            go_wp2
            go_ret
            exact ⟨rfl, rfl⟩
          · have dx : decide (x < 0) = false := by simpa using hx0
            by_cases hx1 : 1000 < x
            · obtain rfl : o = false := by rw [Ho.out]; exact Fx.wok_no Hx.out (.inr hx1)
              have dx1 : decide (1000 < x) = true := by simpa using hx1
              go_wp2
              go_ret
              exact ⟨rfl, rfl⟩
            · have dx1 : decide (1000 < x) = false := by simpa using hx1
              have Hn := Lib.hid (take_next Hx.out (by omega) (by omega) Hall.out)
              go_wp2
              go_round
              case rel => exact ⟨j + 1, by go_num, hlt, Hn.out⟩
              case measure => simp [intOf]; omega
        · obtain rfl : o = true := by
            rw [Ho.out]
            have h1 := Hl.out
            have h2 := Hall.out
            rw [List.take_of_length_le (by omega)] at h2
            exact Fx.wok_yes (by omega) (by omega) h2
          go_wp2
          go_ret
          exact ⟨rfl, rfl⟩

def SumRel (ws : List Int) (m : Nat) (s t : Value) : Prop := ∃ j : Nat, t = .int .i64 (j : Int) ∧ j ≤ m ∧ s = .int .i64 (Fx.pre ws j : Int)
set_option maxRecDepth 100000 in
theorem sum_c (A : Option Addr) (m c B : Nat) (ws : List Int) (hw : Fx.wok ws = true) (w : World) (hr : Rc 1 w B A m c (ivs ws)) :
    Calls Try.prog 36 #[.slice A m c] w fun e w' => e = .returned (.int .i64 (Fx.pre ws m : Int)) ∧ w = w' := by
  have hl : ws.length = m := by have := hr.len1; rw [ivs_length] at this; exact this
  have hm : m ≤ 50 := by have := Fx.wok_len hw; omega
  have Hr := Lib.hid hr; have Hl := Lib.hid hl; have Hw := Lib.hid hw; clear hr hl hw
  go_enter Try.func36, Try.ntmps36
  go_wp2
  go_loop [3, 8] (fun s t => SumRel ws m s t) (fun _ t => m - (intOf t).toNat)
  case atStart => exact ⟨0, rfl, Nat.zero_le _, rfl⟩
  case round =>
    obtain ⟨j, rfl, hj, rfl⟩ := hrel
    by_cases hlt : j < m
    · obtain ⟨b, off, x, rfl, hb, hcell, hx⟩ := Hr.out.int hlt
      have hb1 := Fx.pre_bound Hw.out j (by have := Hl.out; omega)
      have hnx := Fx.pre_next hx
      have hx2 := Fx.wok_at Hw.out hx
      have hnx2 : (Fx.pre ws (j + 1) : Int) = (Fx.pre ws j : Int) + x := by omega
      obtain ⟨p, hp⟩ : ∃ p, p = Fx.pre ws j := ⟨_, rfl⟩
      rw [← hp] at hb1 hnx2 ⊢
      have Hnx := Lib.hid hnx2
      clear hnx hnx2 hx hp
      go_wp2
      go_round
      case rel => exact ⟨j + 1, by go_num, hlt, by rw [Hnx.out]⟩
      case measure => simp [intOf]; omega
    · obtain rfl : j = m := by omega
      go_wp2
      go_ret
      exact ⟨rfl, rfl⟩
end Go.Proofs.Ytjdmpnonjlffaaa
