/-
  Joined: Vc Hb.
-/
import Derived.Test.YtknmhdkomjjneaaGreatDoorJ6
import Derived.Test.YtknmhdkomjjneaaGreatDoorJ1
/-
  The document's Cuts: places out of numbers.
-/

namespace Go.Proofs.YtknmhdkomjjneaaGreatDoor
open Go.RowKit

theorem Rc.litAt {z : Nat} (w : World) (e : TypeId) (cs : Array Value) (n g : Nat) (hg : g = w.heap.size) (h : cs.size = n * z) (hn : n ≤ maxLen) : Rc z (w.alloc (.cells cs e)) (g + 1) (some ⟨g, 0, none⟩) n n cs.toList := by
  subst hg
  exact Rc.lit w e cs n h hn

/-- The cells of numbers. -/
def ivs (l : List Int) : List Value := l.map fun x => .int .i64 x
theorem ivs_get (l : List Int) (j : Nat) (x : Int) (h : l[j]? = some x) : (ivs l)[j]? = some (.int .i64 x) := by simp [ivs, h]
theorem ivs_length (l : List Int) : (ivs l).length = l.length := by simp [ivs]
theorem Rc.int {w : World} {B : Nat} {A : Option Addr} {n c k : Nat} {l : List Int} (h : Rc 1 w B A n c (ivs l)) (hk : k < n) :
    ∃ b off x, A = some ⟨b, off, none⟩ ∧ b < B ∧ w.cell? ⟨b, off + k, none⟩ = some (.int .i64 x) ∧ l[k]? = some x := by
  have hl : l.length = n := by have := h.len1; rw [ivs_length] at this; exact this
  obtain ⟨b, off, v, e, hb, hc, hv⟩ := h.at_ hk
  have hkl : k < l.length := by omega
  rw [ivs_get l k l[k] (List.getElem?_eq_getElem hkl)] at hv
  injection hv with hv
  subst hv
  exact ⟨b, off, l[k], e, hb, hc, List.getElem?_eq_getElem hkl⟩
theorem ity : Sl Tryz.prog 25 3 (.int .i64 0) 1 8 := ⟨Tryz.underlying25, by kernel_rfl, rfl, by omega⟩
end Go.Proofs.YtknmhdkomjjneaaGreatDoor

/-
  Files of compressed blocks: what is written, that it is read back, and what is read of it with one other byte. Plain mathematics.
-/

set_option maxRecDepth 100000
namespace Go.Proofs.YtknmhdkomjjneaaGreatDoor.Cht.Hm

/-- Bytes with their checksum behind them. -/
def sealed (c : List UInt8) : List UInt8 := c ++ Cm.four (Cm.sum Cm.tab c)
/-- A block. -/
def blkw (c : List R) : List UInt8 := sealed (Pm.pressS (Fm.enc c))
/-- Records that a block can have. -/
def Fits (c : List R) : Prop := (∀ r ∈ c, Fm.May r) ∧ 1 ≤ c.length ∧ c.length ≤ 5000 ∧ (Fm.enc c).length ≤ 18000
def ew (c : List R) : Nat × Nat := ((blkw c).length, c.length)
def body (C : List (List R)) : List UInt8 := C.flatMap blkw
/-- An entry, the index's contents. -/
def ixe (x : Nat × Nat) : List UInt8 := Vm.vb x.1 ++ Vm.vb x.2
def ixc (L : List (Nat × Nat)) : List UInt8 := Vm.vb L.length ++ L.flatMap ixe
/-- What stands behind the blocks. -/
def tailw (L : List (Nat × Nat)) : List UInt8 := sealed (ixc L) ++ (Cm.four (sealed (ixc L)).length ++ tl)
def file (C : List (List R)) : List UInt8 := body C ++ tailw (C.map ew)
/-- The pieces of what is written. -/
def pcs : Nat → List (List R) → List (Nat × List R)
  | _, [] => []
  | a, c :: C => (a, c) :: pcs (a + (blkw c).length) C
theorem pcs_len : ∀ (a : Nat) (C : List (List R)), (pcs a C).length = C.length
  | _, [] => rfl
  | a, c :: C => by simp [pcs, pcs_len]
/-- Chunks of four. -/
def chs : Nat → List R → List (List R)
  | 0, _ => []
  | k + 1, l => if l = [] then [] else l.take 4 :: chs k (l.drop 4)
theorem chs_nil (k : Nat) : chs k [] = [] := by cases k <;> simp [chs]
theorem chs_step {k : Nat} {l : List R} (h : l ≠ []) : chs (k + 1) l = l.take 4 :: chs k (l.drop 4) := by rw [chs, if_neg h]
theorem chs_more : ∀ (k m : Nat) (l : List R), l.length ≤ k → l.length ≤ m → chs k l = chs m l
  | 0, m, l, h1, _ => by
    obtain rfl : l = [] := List.eq_nil_of_length_eq_zero (by omega)
    rw [chs_nil, chs_nil]
  | k + 1, 0, l, _, h2 => by
    obtain rfl : l = [] := List.eq_nil_of_length_eq_zero (by omega)
    rw [chs_nil, chs_nil]
  | k + 1, m + 1, l, h1, h2 => by
    by_cases h : l = []
    · subst h; rw [chs_nil, chs_nil]
    · rw [chs_step h, chs_step h, chs_more k m (l.drop 4) (by rw [List.length_drop]; have := List.length_pos_iff.2 h; omega) (by rw [List.length_drop]; have := List.length_pos_iff.2 h; omega)]
def ch (l : List R) : List (List R) := chs l.length l
theorem ch_step {l : List R} (h : l ≠ []) : ch l = l.take 4 :: ch (l.drop 4) := by
  have hp := List.length_pos_iff.2 h
  unfold ch
  rw [show l.length = (l.length - 1) + 1 by omega, chs_step h, chs_more (l.length - 1) (l.drop 4).length (l.drop 4) (by rw [List.length_drop]; omega) (Nat.le_refl _)]
theorem ch_len : ∀ (k : Nat) (l : List R), l.length ≤ k → (ch l).length = (l.length + 3) / 4
  | 0, l, h => by
    obtain rfl : l = [] := List.eq_nil_of_length_eq_zero (by omega)
    rfl
  | k + 1, l, h => by
    by_cases h0 : l = []
    · subst h0; rfl
    · have hp := List.length_pos_iff.2 h0
      rw [ch_step h0, List.length_cons, ch_len k (l.drop 4) (by rw [List.length_drop]; omega), List.length_drop]
      omega
/-- Few records, not long. -/
def Few (l : List R) : Prop := wL l ≤ 1500 ∧ l.length ≤ 60
def wr (l : List R) : List UInt8 := file (ch l)
end Go.Proofs.YtknmhdkomjjneaaGreatDoor.Cht.Hm
