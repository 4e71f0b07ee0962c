/-
  The law's small: few values, of short texts.
-/
import Derived.Test.YtkkjgiejnblopaaDoorVE
namespace Go.Proofs.YtkkjgiejnblopaaDoor
open Go.RowKit Vl

def smB (l : List V) : Bool := decide (l.length ≤ 8) && l.all fun v => decide (v.s.length ≤ 2100)
theorem smB_true {l : List V} : smB l = true ↔ l.length ≤ 8 ∧ ∀ v ∈ l, v.s.length ≤ 2100 := by unfold smB; simp
theorem smB_false {l : List V} {k : Nat} {v : V} (hv : l[k]? = some v) (h : k = 8 ∨ 2100 < v.s.length) : smB l = false := by
  cases hs : smB l with
  | false => rfl
  | true =>
    obtain ⟨h1, h2⟩ := smB_true.1 hs
    have := h2 v (List.mem_of_getElem? hv)
    have hk : k < l.length := (List.getElem?_eq_some_iff.1 hv).1
    omega
def SmRel (n : Nat) (l : List V) (i : Value) : Prop := ∃ k : Nat, i = .int .i64 (k : Int) ∧ k ≤ n ∧ k ≤ 8 ∧ ∀ v ∈ l.take k, v.s.length ≤ 2100

set_option maxRecDepth 100000 in
set_option maxHeartbeats 1000000 in
theorem small_c (A : Option Addr) (n c : Nat) (l : List V) (w : World) (hr : Rc 3 w w.heap.size A n c (vvs l)) (hn : n ≤ maxLen) :
    Calls Tryd.prog 8 #[.slice A n c] w fun e w' => e = .returned (.bool (smB l)) ∧ Below w.heap.size w w' := by
  have hl : l.length = n := by have := hr.1; rw [vvs_len] at this; omega
  obtain ⟨R, hR⟩ : ∃ R, R = smB l := ⟨_, rfl⟩
  rw [← hR]
  have Hr := Lib.hid hr; have HR := Lib.hid hR; have Hl := Lib.hid hl
  clear hr hR hl
  go_enter Tryd.func8, Tryd.ntmps8
  go_wp2
  go_loop [3] (fun i => SmRel n l i) (fun i => n - (intOf i).toNat)
  case atStart => exact ⟨0, rfl, Nat.zero_le _, by omega, by simp⟩
  case round =>
    obtain ⟨k, rfl, hk, hk8, hall⟩ := hrel
    have Hall := Lib.hid hall
    clear hall
    by_cases hlt : k < n
    · obtain ⟨b, o, v, rfl, hb, hc0, hc1, hc2, hv⟩ := vvs_at Hr.out hlt
      obtain ⟨t, m, s⟩ := v
      dsimp only at hc0 hc1 hc2
      have hcs : w.cell? ⟨b, o + k * 3 + 2, none⟩ = some (.string ⟨s.toArray⟩) := hc2
      clear hc0 hc1 hc2
      have Hv := Lib.hid hv
      clear hv
      by_cases h8 : k = 8
      · have d8 : ((k : Int) == 8) = true := by simp [h8]
        obtain rfl : R = false := by rw [HR.out]; exact smB_false Hv.out (Or.inl h8)
        go_wp2
        go_ret
        exact ⟨rfl, Below.refl _ _⟩
      · have d8 : ((k : Int) == 8) = false := beq_eq_false_iff_ne.2 (by omega)
        by_cases hs : 2100 < s.length
        · have ds : (2100 : Int) < s.length := by omega
          obtain rfl : R = false := by rw [HR.out]; exact smB_false Hv.out (Or.inr hs)
          go_wp2
          go_ret
          exact ⟨rfl, Below.refl _ _⟩
        · have ds : ¬ (2100 : Int) < s.length := by omega
          go_wp2
          go_round
          case rel =>
            refine ⟨k + 1, by go_num, by omega, by omega, fun v hv => ?_⟩
            rw [List.take_add_one, Hv.out] at hv
            rcases List.mem_append.1 hv with h | h
            · exact Hall.out v h
            · obtain rfl : v = ⟨t, m, s⟩ := by simpa using h
              dsimp only
              omega
          case measure => simp [intOf]; omega
    · obtain rfl : k = n := by omega
      obtain rfl : R = true := by
        rw [HR.out]
        refine smB_true.2 ⟨by rw [Hl.out]; exact hk8, fun v hv => Hall.out v ?_⟩
        rw [List.take_of_length_le (by rw [Hl.out]; exact Nat.le_refl _)]
        exact hv
      go_wp2
      go_ret
      exact ⟨rfl, Below.refl _ _⟩
end Go.Proofs.YtkkjgiejnblopaaDoor
