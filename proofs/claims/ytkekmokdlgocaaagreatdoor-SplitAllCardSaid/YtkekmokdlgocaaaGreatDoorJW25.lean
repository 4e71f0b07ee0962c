import Derived.Test.YtkekmokdlgocaaaGreatDoorJW16
import Derived.Test.YtkekmokdlgocaaaGreatDoorJW8
import Derived.Test.YtkekmokdlgocaaaGreatDoorJW24
set_option maxRecDepth 100000
set_option maxHeartbeats 4000000
namespace Go.Proofs.YtkekmokdlgocaaaGreatDoor.Sq
open Go.RowKit
def Mx (w : World) : Prop := (∃ m, w.cell? ⟨0, 0,none⟩ = some (.int .i64 m)) ∧ 0 < w.heap.size
theorem Mx.below {w w' : World} {B : Nat} (h : Mx w) (hb : Below B w w') (hB : 0 < B) : Mx w' := by
 obtain ⟨⟨m, hm⟩, h0⟩ := h
 exact ⟨⟨m, (hb.cell (p := ⟨0, 0,none⟩) hB).trans hm⟩, Nat.lt_of_lt_of_le h0 hb.size⟩
theorem Mx.below' {w w' : World} (h : Mx w) (hb : Below w.heap.size w w') : Mx w' := h.below hb h.2
theorem bytesOf_map (l : List UInt8) : Lib.bytesOf (l.map fun x => (x.toNat : Int)) = l := by
 simp only [Lib.bytesOf, List.map_map]
 induction l with
 | nil => rfl
 | cons x l ih => rw [List.map_cons, ih]; simp
theorem add_plain (b o i : Nat) : (⟨b, o,none⟩ : Addr).add i = ⟨b, o + i,none⟩ := by
 by_cases h0 : i = 0
 ·subst h0; simp [Addr.add]
 ·simp [Addr.add, h0]
theorem rb_nums {w : World} {B : Nat} {b off n c : Nat} {l : List UInt8} (h : Rb w B (some ⟨b, off,none⟩) n c l) (i : Nat) (hi : i < n) : w.cell? ((⟨b, off,none⟩ : Addr).add i) = some (.int .u8 ((l.map fun x => (x.toNat : Int)).getD i 0)) := by
 obtain ⟨b', o', x, e, _, hx, hg, _⟩ := h.at_ hi
 injection e with e
 injection e with e1 e2
 subst e1 e2
 rw [add_plain, hx, List.getD_eq_getElem?_getD, List.getElem?_map, hg]
 rfl
theorem nums_range (l : List UInt8) : ∀ x ∈ l.map fun x => (x.toNat : Int), 0 ≤ x ∧ x < 256 := by
 intro x hx
 obtain ⟨y, _, rfl⟩ := List.mem_map.1 hx
 have := y.toNat_lt
 omega
theorem index_c (A : Option Addr) (n c B B2 g k d : Nat) (l s : List UInt8) (w : World) (hr : Rb w B A n c l) (hn : n ≤ 1000000) (hk : 2 ≤ k ∨ k ≤ n) (hk1 : 1 ≤ k) (hs : Rb w B2 (some ⟨g, 0,none⟩) k d s) (hx : Mx w) :
  Calls Tryz.prog 176 #[.slice A n c, .slice (some ⟨g, 0,none⟩) k d] w fun e w' => e = .returned (.int .i64 (Lib.index l s)) ∧ Below w.heap.size w w' := by
 obtain ⟨⟨m, hm⟩, _⟩ := hx
 have hkb : k ≤ 9223372036854775807 := by have h2 := hs.2.1; have h3 := hs.2.2.1; unfold maxLen at h3; omega
 by_cases h : n < k
 ·refine (Tryz.bytes_Index_longer A (some ⟨g, 0,none⟩) n c k d w (by omega) h hkb).mono ?_
  rintro e w' ⟨rfl,rfl⟩
  refine ⟨?_, Below.refl _ _⟩
  rw [Lib.index_none (fun j hj => ?_)]
  have h1 := hr.len; have h2 := hs.len
  apply Bool.eq_false_iff.2
  intro e
  have := List.IsPrefix.length_le (List.isPrefixOf_iff_prefix.1 e)
  rw [List.length_drop] at this
  omega
 ·obtain ⟨b, off, rfl, _⟩ := hr.2.2.2 (by omega)
  refine (Tryz.bytes_Index_at ⟨b, off,none⟩ ⟨g, 0,none⟩ n c k d (l.map fun x => (x.toNat : Int)) (s.map fun x => (x.toNat : Int)) m w (by simpa using hr.len) (by simpa using hs.len) (nums_range l) (nums_range s) (rb_nums hr) (rb_nums hs) hr.2.1 (by omega) hkb hm).mono ?_
  rintro e w' ⟨rfl, q, rfl⟩
  rw [bytesOf_map, bytesOf_map]
  exact ⟨rfl, below_drewN (Below.refl _ _) q⟩
theorem marker_c (A : Option Addr) (n c : Nat) (l : List UInt8) (a : Int) (w : World) (hr : Rb w w.heap.size A n c l) (hn : n ≤ 1000000) (hx : Mx w) (k : Nat) (hk : k = Sm.nxt l (clamp a n)) :
  Calls Tryz.prog 140 #[.slice A n c, .int .i64 a] w fun e w' => e = .returned (.int .i64 (k : Int)) ∧ Below w.heap.size w w' := by
 have hl := hr.len
 obtain ⟨p, hp⟩ : ∃ p, p = clamp a n := ⟨_, rfl⟩
 have hpn : p ≤ n := by rw [hp]; exact clamp_le a n
 have hpI : min (max a 0) (n : Int) = (p : Int) := by rw [hp]; unfold clamp; omega
 rw [← hp] at hk
 clear hp
 have hmk := Sm.index_mark (l.drop p)
 have hmb := Sm.mark_le (l.drop p)
 rw [List.length_drop, hl] at hmk hmb
 obtain ⟨q, hq⟩ : ∃ q, q = Sm.mark (l.drop p) := ⟨_, rfl⟩
 have hkq : k = p + q := by rw [hk, hq]; rfl
 rw [← hq] at hmk hmb
 obtain ⟨D, hD, hrD⟩ := bty.from_ hr hpn (p : Int) rfl
 obtain ⟨w1, hw1⟩ : ∃ w1, w1 = w.alloc (.cells #[.int .u8 255, .int .u8 83] 5 (2, 3)) := ⟨_, rfl⟩
 have hb1 : Below w.heap.size w w1 := by rw [hw1]; exact ej _ _
 have hlit : Rb w1 (w.heap.size + 1) (some ⟨w.heap.size, 0,none⟩) 2 2 [255, 83] := by rw [hw1]; exact Rb.lit w _ _ _ _ 2 rfl rfl (by omega)
 have hcv : (convert 22 22 (.slice (some ⟨w.heap.size, 0,none⟩) 2 2)).run Tryz.prog (w.alloc (.cells #[.int .u8 255, .int .u8 83] 5)) = .ok (.slice (some ⟨w.heap.size, 0,none⟩) 2 2) w1 := by
  rw [hw1]; exact Lib.run_convert_bytes_const (P := Tryz.prog) w 22 5 #[.int .u8 255, .int .u8 83] 2 2 Tryz.underlying22 Tryz.underlying5
 have hcall : Calls Tryz.prog 176 #[.slice D (n - p) (c - p), .slice (some ⟨w.heap.size, 0,none⟩) 2 2] w1 fun e w' => e = .returned (.int .i64 (if q < n - p then (q : Int) else -1)) ∧ Below w.heap.size w w' := by
  rw [← hmk]
  exact (index_c D (n - p) (c - p) _ _ _ 2 2 (l.drop p) [255, 83] w1 (hrD.below hb1) (by omega) (.inl (by omega)) (by omega) hlit (hx.below' hb1)).mono fun e w' ⟨h1, h2⟩ => ⟨h1, hb1.trans (h2.mono hb1.size)⟩
 have Hcall := ek hcall; have Hkq := ek hkq; clear hcall hkq hlit hb1 hw1 hmk hq hk hrD hx
 by_cases hlt : q < n - p
 ·rw [if_pos hlt] at Hcall
  go_enter Tryz.func140, Tryz.ntmps140
  go_wp2_with fail
  all_goals (
   refine Hcall.out.mono ?_
   rintro e w' ⟨rfl, hb⟩
   go_wp2
   go_ret
   exact ⟨ret_int (by have := Hkq.out; omega), hb⟩)
 ·rw [if_neg hlt] at Hcall
  go_enter Tryz.func140, Tryz.ntmps140
  go_wp2_with fail
  all_goals (
   refine Hcall.out.mono ?_
   rintro e w' ⟨rfl, hb⟩
   go_wp2
   go_ret
   exact ⟨ret_int (by have := Hkq.out; omega), hb⟩)
theorem fstart_c (A : Option Addr) (n c : Nat) (l : List UInt8) (f t : Nat) (w : World) (hr : Rb w w.heap.size A n c l) (hn : n ≤ 1000000) (ht : t ≤ n) (_hf : f ≤ 1000000) (hx : Mx w) (k : Nat) (hk : k = Sm.nxt (l.take (min (t + 1) n)) (clamp f (min (t + 1) n))) :
  Calls Tryz.prog 103 #[.slice A n c, .int .i64 (f : Int), .int .i64 (t : Int)] w fun e w' => e = .returned (.int .i64 (k : Int)) ∧ Below w.heap.size w w' := by
 obtain ⟨m, hm⟩ : ∃ m, m = min (t + 1) n := ⟨_, rfl⟩
 rw [← hm] at hk
 have hmn : m ≤ n := by omega
 have hmI : min ((t : Int) + 1) (n : Int) = (m : Int) := by omega
 obtain ⟨D, hD, hrD⟩ := bty.upto_ hr hmn (m : Int) rfl
 have hcall := marker_c D m c (l.take m) (f : Int) w hrD (by omega) hx k hk
 have Hcall := ek hcall; clear hcall hrD hr hx hk
 by_cases hlt : t + 1 ≤ n
 ·obtain rfl : m = t + 1 := by omega
  have hD' : ∀ W, (Instr.slice 22 (.slice A n c) none (some (.int .i64 ((t : Int) + 1))) none).run Tryz.prog W = .ok (.slice D (t + 1) c) W := fun W => by have := hD W .i64; rwa [show ((t + 1 : Nat) : Int) = (t : Int) + 1 by omega] at this
  have hle : (t : Int) + 1 ≤ (n : Int) := by omega
  clear hD hm
  go_enter Tryz.func103, Tryz.ntmps103
  go_wp2_with fail
  all_goals (
   refine Hcall.out.mono ?_
   rintro e w' ⟨rfl, hb⟩
   go_wp2
   go_ret
   exact ⟨rfl, hb⟩)
 ·obtain rfl : m = n := by omega
  have hle : ¬ (t : Int) + 1 ≤ (m : Int) := by omega
  clear hm
  go_enter Tryz.func103, Tryz.ntmps103
  go_wp2_with fail
  all_goals (
   refine Hcall.out.mono ?_
   rintro e w' ⟨rfl, hb⟩
   go_wp2
   go_ret
   exact ⟨rfl, hb⟩)
theorem rmarker_c (A : Option Addr) (n c B : Nat) (l : List UInt8) (p : Nat) (w : World) (hr : Rb w B A n c l) (hn : n ≤ 1000000) (hp : p ≤ n) (k : Nat) (hk : k = Sm.nxt l p) :
  Calls Tryz.prog 113 #[.slice A n c, .int .i64 (p : Int)] w fun e w' => e = .returned (.int .i64 (k : Int)) ∧ w = w' := by
 have hl := hr.len
 have hkb := Sm.nxt_le (b := l) (k := p) (by omega)
 have hno : ∀ j, p ≤ j → j < k → ¬ Sm.isM l j := fun j h1 h2 => Sm.nxt_no h1 (by rw [hk] at h2; exact h2)
 have hat : k < l.length → Sm.isM l k := fun h => by rw [hk] at h ⊢; exact Sm.nxt_at h
 rw [← hk] at hkb
 have hmax : max (p : Int) 0 = (p : Int) := by omega
 have Hr := ek hr; have Hl := ek hl; have Hno := ek hno; have Hat := ek hat; clear hr hl hno hat hk
 go_enter Tryz.func113, Tryz.ntmps113
 go_wp2
 go_loop [5] (fun t => ∃ j : Nat, t = .int .i64 (j : Int) ∧ p ≤ j ∧ j ≤ k) (fun t => n - (intOf t).toNat)
 case atStart => exact ⟨p, rfl, Nat.le_refl _, hkb.1⟩
 case round =>
  obtain ⟨j, rfl, hj1, hj2⟩ := hrel
  by_cases hlt : j + 1 < n
  ·obtain ⟨b, off, x, rfl, hb, hc, hx, hd⟩ := Hr.out.at_ (k := j) (by omega)
   obtain ⟨b', off', y, e, hb', hc', hy, hd'⟩ := Hr.out.at_ (k := j + 1) hlt
   injection e with e
   injection e with e1 e2
   subst e1 e2
   have hc2 : w.cell? ⟨b, off + (j + 1),none⟩ = some (.int .u8 (y.toNat : Int)) := hc'
   have Hx := ek hx; have Hy := ek hy; clear hx hy hd hd' hc'
   by_cases h1 : x = 255
   ·by_cases h2 : y = 83
    ·subst h1 h2
     have hkj : k = j := by
      rcases Nat.lt_or_ge j k with h | h
      ·exact absurd ⟨Hx.out, Hy.out⟩ (Hno.out j hj1 h)
      ·omega
     subst hkj
     go_wp2
     go_ret
     exact ⟨rfl,rfl⟩
    ·subst h1
     have hne : ((y.toNat : Int) == 83) = false := by
      rw [beq_eq_false_iff_ne]; intro e; exact h2 (UInt8.toNat_inj.1 (by show y.toNat = 83; omega))
     have hkj : j ≠ k := fun e => by
      subst e
      have := (Hat.out (by rw [Hl.out]; omega)).2
      rw [Hy.out] at this
      injection this with this
      exact h2 this
     go_wp2
     go_round
     case rel => exact ⟨j + 1, by go_num, by omega, by omega⟩
     case measure => simp [intOf]; omega
   ·have hne : ((x.toNat : Int) == 255) = false := by
     rw [beq_eq_false_iff_ne]; intro e; exact h1 (UInt8.toNat_inj.1 (by show x.toNat = 255; omega))
    have hkj : j ≠ k := fun e => by
     subst e
     have := (Hat.out (by rw [Hl.out]; omega)).1
     rw [Hx.out] at this
     injection this with this
     exact h1 this
    go_wp2
    go_round
    case rel => exact ⟨j + 1, by go_num, by omega, by omega⟩
    case measure => simp [intOf]; omega
  ·have hkn : k = n := by
    rcases Nat.lt_or_ge k n with h | h
    ·have := Sm.isM_lt (Hat.out (by rw [Hl.out]; exact h)); rw [Hl.out] at this; omega
    ·have := Hl.out; omega
   subst hkn
   go_wp2
   go_ret
   exact ⟨rfl,rfl⟩
end Go.Proofs.YtkekmokdlgocaaaGreatDoor.Sq
