/-
  The walk of the law CrcTable.
-/
import Derived.Test.YtcmagegcolcalabCl
import Derived.Test.YtcmagegcolcalabLawN
import Derived.Deep.RegionLaw
import Derived.Deep.RegionHeld3
namespace Go.Proofs.Ytcmagegcolcalab
open Go.RowKit

def sameB (t : List Nat) (k : Nat) : Bool := decide (t.length = 256 ∧ t.take k = Cm.tab.take k)
def TaRel (W : World) (n : Nat) (t : List Nat) (s i : Value) (wr : World) : Prop :=
  ∃ k : Nat, (k ≤ n ∧ k ≤ 256) ∧ i = .int .i64 (k : Int) ∧ s = .bool (sameB t k) ∧ Below W.heap.size W wr

theorem same_end (t : List Nat) (n k : Nat) (hl : t.length = n) (h : ¬ (k < n ∧ k < 256)) (h2 : k ≤ n ∧ k ≤ 256) : sameB t k = rightB t := by
  unfold sameB rightB
  by_cases hn : n = 256
  · obtain rfl : k = 256 := by omega
    rw [List.take_of_length_le (by omega), List.take_of_length_le (by rw [Cm.tab_len]; omega)]
    simp [hl, hn]
  · have h1 : t ≠ Cm.tab := by
      intro e
      rw [e, Cm.tab_len] at hl
      omega
    simp [h1]
    intro h3
    omega
theorem same_next (t : List Nat) (k x : Nat) (hk : k < 256) (hx : t[k]? = some x) : sameB t (k + 1) = (sameB t k && decide (x = Cm.ent k)) := by
  have ha := all_take t k x hx
  rw [Cm.tab_get k hk] at ha
  unfold sameB
  rw [Bool.eq_iff_iff]
  simp only [Bool.and_eq_true, decide_eq_true_eq, ha, Option.some.injEq]
  constructor
  · rintro ⟨h1, h2, h3⟩; exact ⟨⟨h1, h2⟩, h3.symm⟩
  · rintro ⟨⟨h1, h2⟩, h3⟩; exact ⟨h1, h2, h3.symm⟩
theorem beq_nat (x y : Nat) : ((x : Int) == (y : Int)) = decide (x = y) := by rw [Bool.eq_iff_iff]; simp; omega
theorem rentry_q (n y : Nat) (w : World) (h : n < 256) (hy : Cm.ent n = y) :
    Calls Try.prog 10 #[.int .i64 (n : Int)] w fun e w' => e = .returned (.int .u32 (y : Int)) ∧ w' = w :=
  (rentry_c n w h).mono fun e w' ⟨he, hw⟩ => ⟨by rw [he, hy], hw.symm⟩

theorem right_lit (A : Option Addr) (n c B : Nat) (t : List Nat) (R : Bool) (hR : rightB t = R) (w : World) (ht : Rn w B A n c t) (hn : n ≤ 300) :
    Calls Try.prog 11 #[.slice A n c] w fun e w' => e = .returned (.bool R) ∧ w = w' :=
  (right_c A n c B t w ht hn).mono fun e w' ⟨he, hw⟩ => ⟨by rw [he, hR], hw⟩
theorem right_tab : rightB Cm.tab = true := by simp [rightB]

set_option maxRecDepth 100000 in
set_option maxHeartbeats 4000000 in
theorem crcTable_walk (A : Option Addr) (n c : Nat) (t : List Nat) (i : Int) (w : World) (ht : Rn w w.heap.size A n c t) (hi : B8 i) :
    Calls Try.prog 3 #[.slice A n c, .int .u8 i] w fun e w' => e = .returned (.bool true) ∧ Below w.heap.size w w' := by
  obtain ⟨q, rfl⟩ := Int.eq_ofNat_of_zero_le hi.1
  have hq : q < 256 := by have := hi.2; omega
  have han : n ≤ 9223372036854775807 := by have := ht.2.2.1; have := ht.2.1; unfold maxLen at *; omega
  have hlen := ht.len
  have Ht := Lib.hid ht; have Hlen := Lib.hid hlen
  clear ht hi hlen
  by_cases h1 : 300 < n
  · go_enter Try.func3, Try.ntmps3
    go_wp2_with fail
    refine (alive_c _).mono ?_
    rintro e w2 ⟨rfl, hb2⟩
    go_wp2
    go_ret
    exact ⟨rfl, hb2⟩
  · have hs0 : sameB t 0 = decide (n = 256) := by unfold sameB; simp [Hlen.out]
    have HS0 := Lib.hid hs0; clear hs0
    have hq64 : IntKind.i64.wrap (q : Int) = (q : Int) := IntWalk.i64_in _ (by omega)
    have HQ := Lib.hid hq64; clear hq64
    go_enter Try.func3, Try.ntmps3
    go_wp2_with fail
    refine (table_c _).mono ?_
    rintro e w1 ⟨rfl, ho, hb1, hsz1⟩
    have Ho := Lib.hid ho; clear ho
    have Ht1 := Lib.hid ((Ht.out.below hb1).more hb1.size)
    have HB1 := Lib.hid hb1; clear hb1
    go_wp2
    go_loopw [6, 7] (fun s i wr => TaRel w1 n t s i wr) (fun _ i _ => 256 - (intOf i).toNat)
    case atStart => exact ⟨0, ⟨by omega, by omega⟩, rfl, by rw [HS0.out, ← beq_nat]; simp, Below.refl _ _⟩
    case round =>
      obtain ⟨k, ⟨hk, hk2⟩, rfl, rfl, hbb⟩ := hrel
      by_cases hlt : k < n ∧ k < 256
      · obtain ⟨hl1, hl2⟩ := hlt
        obtain ⟨b, off, x, rfl, hb, hc, hx, hxl, hg⟩ := (Ht1.out.below hbb).at_ hl1
        have hsn := same_next t k x hl2 hx
        obtain ⟨y, hy⟩ : ∃ y, Cm.ent k = y := ⟨_, rfl⟩
        rw [hy] at hsn
        have HC := Lib.hid (fun W => rentry_q k y W hl2 hy)
        obtain ⟨s, hs⟩ : ∃ s, sameB t k = s := ⟨_, rfl⟩
        rw [hs] at hsn ⊢
        have Hsn := Lib.hid hsn; clear hsn hx hg hy hs
        have hkl : (k : Int) < (n : Int) := by omega
        cases s with
        | false =>
          go_wp2
          go_quiet ((go_at_call 10; exact Calls.quiet_of_same (HC.out _)))
          go_wp2
          go_roundw
          case rel => exact ⟨k + 1, ⟨by omega, by omega⟩, by go_num, by rw [Hsn.out]; simp, below_drewN hbb _⟩
          case measure => simp [intOf]; omega
        | true =>
          go_wp2
          go_quiet ((go_at_call 10; exact Calls.quiet_of_same (HC.out _)))
          go_wp2
          go_roundw
          case rel => exact ⟨k + 1, ⟨by omega, by omega⟩, by go_num, by rw [Hsn.out, ← beq_nat]; simp, below_drewN hbb _⟩
          case measure => simp [intOf]; omega
      · rw [same_end t n k Hlen.out hlt ⟨hk, hk2⟩]
        obtain ⟨R, hR⟩ : ∃ R, rightB t = R := ⟨_, rfl⟩
        rw [hR]
        obtain ⟨bo, oo, yo, hao, hbo, hco, hxo, hxlo, hgo⟩ := Ho.out.at_ (k := q) hq
        injection hao with hao
        injection hao with hbo1 hoo1
        subst hbo1 hoo1
        rw [Cm.tab_get q hq] at hxo
        injection hxo with hxo
        rw [Nat.zero_add] at hco
        have HE := Lib.hid (fun W => rentry_q q yo W hq hxo)
        have HRo := Lib.hid (fun (W : World) (hb5 : Below w1.heap.size w1 W) => right_lit (some ⟨w.heap.size, 0, none⟩) 256 256 _ Cm.tab true right_tab W (Ho.out.below hb5) (by omega))
        have HRt := Lib.hid (fun (W : World) (hb5 : Below w1.heap.size w1 W) => right_lit A n c _ t R hR W (Ht1.out.below hb5) (by omega))
        have hco5 := Lib.hid hco
        have hq64 := HQ.out
        have hqi : (q : Int) < 256 := by omega
        clear hxo hgo hR HQ hco
        rcases (show k = n ∨ (k < n ∧ k = 256) by omega) with hkn | ⟨hkn, hk3⟩
        · subst hkn
          go_wp2
          have hcw : wr.cell? ⟨w.heap.size, q, none⟩ = some (.int .u32 (yo : Int)) := (hbb.cell hsz1).trans hco5.out
          go_region_held3 (fun w' => w'.cell? ⟨w.heap.size, q, none⟩ = some (.int .u32 (yo : Int))) (go_keep) (first | (go_at_call 8; (with_reducible refine (alive_c _).mono ?_); rintro e w5 ⟨rfl, hb5⟩; have hb5' : Below w1.heap.size w1 w5 := hbb.trans (Below.mono ⟨hb5.os, hb5.tape, hb5.output, hb5.size, hb5.block⟩ hbb.size); have hc5 : w5.cell? ⟨w.heap.size, q, none⟩ = some (.int .u32 (yo : Int)) := (hb5'.cell hsz1).trans hco5.out) | (go_at_call 10; (with_reducible refine (HE.out _).mono ?_); rintro e w6 ⟨rfl, rfl⟩) | (go_at_call 11; (with_reducible refine (HRo.out _ hb5').mono ?_); rintro e w6 ⟨rfl, rfl⟩) | (go_at_call 11; (with_reducible refine (HRt.out _ hb5').mono ?_); rintro e w6 ⟨rfl, rfl⟩))
          all_goals
            go_wp2
            go_ret
            exact ⟨by simp, HB1.out.trans (hb5'.mono HB1.out.size)⟩
        · subst hk3
          go_wp2
          have hcw : wr.cell? ⟨w.heap.size, q, none⟩ = some (.int .u32 (yo : Int)) := (hbb.cell hsz1).trans hco5.out
          go_region_held3 (fun w' => w'.cell? ⟨w.heap.size, q, none⟩ = some (.int .u32 (yo : Int))) (go_keep) (first | (go_at_call 8; (with_reducible refine (alive_c _).mono ?_); rintro e w5 ⟨rfl, hb5⟩; have hb5' : Below w1.heap.size w1 w5 := hbb.trans (Below.mono ⟨hb5.os, hb5.tape, hb5.output, hb5.size, hb5.block⟩ hbb.size); have hc5 : w5.cell? ⟨w.heap.size, q, none⟩ = some (.int .u32 (yo : Int)) := (hb5'.cell hsz1).trans hco5.out) | (go_at_call 10; (with_reducible refine (HE.out _).mono ?_); rintro e w6 ⟨rfl, rfl⟩) | (go_at_call 11; (with_reducible refine (HRo.out _ hb5').mono ?_); rintro e w6 ⟨rfl, rfl⟩) | (go_at_call 11; (with_reducible refine (HRt.out _ hb5').mono ?_); rintro e w6 ⟨rfl, rfl⟩))
          all_goals
            go_wp2
            go_ret
            exact ⟨by simp, HB1.out.trans (hb5'.mono HB1.out.size)⟩
end Go.Proofs.Ytcmagegcolcalab
