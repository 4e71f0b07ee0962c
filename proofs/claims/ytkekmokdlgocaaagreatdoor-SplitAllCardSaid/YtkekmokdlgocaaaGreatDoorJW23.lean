import Derived.Test.YtkekmokdlgocaaaGreatDoorJW22
import Derived.Shelf.Bytes.SlCountOne
set_option maxRecDepth 100000
set_option maxHeartbeats 4000000
namespace Go.Proofs.YtkekmokdlgocaaaGreatDoor.Csv
open Go.RowKit
theorem bytesOf_map (l : List UInt8) : Lib.bytesOf (l.map fun x => (x.toNat : Int)) = l := by
 simp only [Lib.bytesOf, List.map_map]
 induction l with
 | nil => rfl
 | cons x l ih => rw [List.map_cons, ih]; simp
theorem count_c (A : Option Addr) (n c B g : Nat) (l : List UInt8) (w : World) (hr : Rb w B A n c l) (hs : w.cell? ⟨g, 0,none⟩ = some (.int .u8 34)) :
  Calls Tryz.prog 163 #[.slice A n c, .slice (some ⟨g, 0,none⟩) 1 1] w fun e w' => e = .returned (.int .i64 ((l.count 34 : Nat) : Int)) ∧ w = w' := by
 have hl := hr.len
 have hrun : (Extern.BytealgCount.count #[.slice A n c, .int .u8 34]).run Tryz.prog w = .ok (.int .i64 ((l.count 34 : Nat) : Int)) w := by
  cases A with
  | none =>
   have h0 : n = 0 := by
    rcases Nat.eq_zero_or_pos n with h | h
    ·exact h
    ·obtain ⟨b, off, e, _⟩ := hr.2.2.2 h; cases e
   subst h0
   obtain rfl : l = [] := List.eq_nil_of_length_eq_zero hl
   exact Lib.run_countNil w 0 c 34
  | some a =>
   have h := Lib.run_countAt (P := Tryz.prog) w a n c (l.map fun x => (x.toNat : Int)) (by simpa using hl) (fun i hi => by
    obtain ⟨b', o', x, e, _, hx, hg⟩ := hr.at_ hi
    injection e with e
    subst e
    rw [List.getD_eq_getElem?_getD, List.getElem?_map, hg.1]
    have e2 : (⟨b', o',none⟩ : Addr).add i = ⟨b', o' + i,none⟩ := by
     by_cases h0 : i = 0
     ·subst h0; simp [Addr.add]
     ·simp [Addr.add, h0]
    rw [e2]
    exact hx) 34
   rw [bytesOf_map] at h
   exact h
 have H := ek hrun; clear hrun hr hl
 go_enter Tryz.func163, Tryz.ntmps163
 go_wp2_with fail
 rw [run_callFunc_extern Tryz.func197 (by kernel_rfl) (by kernel_rfl) (by kernel_rfl) (e := Extern.BytealgCount.count) (by kernel_rfl), H.out]
 simp only [Result.andThen]
 rw [Oper.upon_value]
 go_wp2
 go_ret
 exact ⟨rfl,rfl⟩
theorem inside_c (A : Option Addr) (n c : Nat) (l : List UInt8) (a : Int) (ha : I64 a) (w : World) (hr : Rb w w.heap.size A n c l) (hn : n ≤ 1000000) :
  Calls Tryz.prog 131 #[.slice A n c, .int .i64 a] w fun e w' => e = .returned (.bool (Cv.odd (l.take a.toNat))) ∧ Below w.heap.size w w' := by
 have hl := hr.len
 unfold I64 at ha
 have hodd : ∀ m : Nat, ((m : Int).tmod 2 == 1) = (m % 2 == 1) := fun m => by
  rw [Int.tmod_eq_emod_of_nonneg (by omega)]
  rcases Nat.mod_two_eq_zero_or_one m with h | h
  ·have : (m : Int) % 2 = 0 := by omega
   rw [h, this]; rfl
  ·have : (m : Int) % 2 = 1 := by omega
   rw [h, this]; rfl
 obtain ⟨k, hk⟩ : ∃ k, k = (min (max a 0) (n : Int)).toNat := ⟨_, rfl⟩
 have hkn : k ≤ n := by omega
 have hkt : l.take k = l.take a.toNat := by
  by_cases h : a ≤ (n : Int)
  ·rw [show k = a.toNat by omega]
  ·rw [List.take_of_length_le (by omega), List.take_of_length_le (by omega)]
 have hc : Calls Tryz.prog 163 #[.slice A k c, .slice (some ⟨w.heap.size, 0,none⟩) 1 1] (w.alloc (.cells #[.int .u8 34] 5)) fun e w' => e = .returned (.int .i64 (((l.take a.toNat).count 34 : Nat) : Int)) ∧ w.alloc (.cells #[.int .u8 34] 5) = w' := by
  rw [← hkt]
  exact count_c A k c _ _ _ _ ((hr.head hkn).alloc (Nat.le_refl _) _) (by simp)
 have hod : (((((l.take a.toNat).count 34 : Nat) : Int).tmod 2) == 1) = Cv.odd (l.take a.toNat) := hodd _
 have hnc := hr.2.1
 have q1 : 0 ≤ min (max a 0) (n : Int) := by omega
 have q2 : min (max a 0) (n : Int) ≤ (c : Int) := by omega
 have Hod := ek hod; clear hodd hod hr
 rw [hk] at hc
 have Hc := ek hc; clear hc hk hkt hkn
 go_enter Tryz.func131, Tryz.ntmps131
 go_wp2_with fail
 refine Hc.out.mono ?_
 rintro e w' ⟨rfl,rfl⟩
 go_wp2
 go_ret
 exact ⟨by rw [← Hod.out]; rfl, ej _ _⟩
end Go.Proofs.YtkekmokdlgocaaaGreatDoor.Csv
