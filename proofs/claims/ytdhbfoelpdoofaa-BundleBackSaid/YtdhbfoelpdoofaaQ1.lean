/-
  bundle: mayFollow, end, next: what each call returns and leaves.
-/
import Derived.Test.YtdhbfoelpdoofaaRw
import Derived.Test.YtdhbfoelpdoofaaTf
import Derived.Test.YtdhbfoelpdoofaaBn
import Derived.RegionTactic
import Derived.Lib.MinMax
import Derived.IntWalk
namespace Go.Proofs.Ytdhbfoelpdoofaa
open Go.RowKit

/-- A name after another. -/
theorem follow_c (a b : List UInt8) (o : Bool) (ho : o = (Op.bytesLess b a && decide (a.length ≤ 100))) (w : World) :
    Calls Try.prog 29 #[.string ⟨a.toArray⟩, .string ⟨b.toArray⟩] w fun e w' => e = .returned (.bool o) ∧ w' = w := by
  have hg := Bm.gt_less a b
  rw [← hg] at ho
  cases hx : (Op.bytesLess a b || a == b) with
  | true =>
    rw [hx] at ho
    subst ho
    clear hg
    go_enter Try.func29, Try.ntmps29
    go_wp2
    go_ret
    exact ⟨rfl, rfl⟩
  | false =>
    rw [hx] at ho
    simp only [Bool.not_false, Bool.true_and] at ho
    subst ho
    clear hg
    have e1 : decide ((a.length : Int) ≤ 100) = decide (a.length ≤ 100) := by simp; omega
    go_enter Try.func29, Try.ntmps29
    go_wp2
    go_ret
    exact ⟨by rw [← e1]; rfl, rfl⟩

/-- A file as a value. -/
def fv (f : Bm.F) : Value := .agg #[.int .i64 (f.at_ : Int), .string ⟨f.nm.toArray⟩, .int .i64 (f.sz : Int), .int .i64 (f.st : Int)]
theorem fend_c (a z s : Nat) (n : ByteArray) (v : Value) (w : World) (hv : v = .agg #[.int .i64 (a : Int), .string n, .int .i64 (z : Int), .int .i64 (s : Int)]) (E : Nat) (hE : s + z + 4 = E) (h : E ≤ 4000000000) :
    Calls Try.prog 43 #[v] w fun e w' => e = .returned (.int .i64 (E : Int)) ∧ w' = w.alloc (.cells #[.int .i64 (a : Int), .string n, .int .i64 (z : Int), .int .i64 (s : Int)] 62) := by
  subst hv
  have e1 : (s : Int) + (z : Int) + 4 = (E : Int) := by omega
  have e2 : IntKind.i64.wrap ((s : Int) + (z : Int)) = (s : Int) + (z : Int) := by rw [IntWalk.i64_in _ (by omega)]
  go_enter Try.func43, Try.ntmps43
  go_wp2
  go_ret
  exact ⟨by first | rfl | (congr 2; omega), rfl⟩

/-- A block of three cells. -/
structure Box3 (w : World) (g : Nat) (v0 v1 v2 : Value) : Prop where
  c0 : w.cell? ⟨g, 0, none⟩ = some v0
  c1 : w.cell? ⟨g, 1, none⟩ = some v1
  c2 : w.cell? ⟨g, 2, none⟩ = some v2
  f0 : w.frozen? ⟨g, 0, none⟩ = false
  f1 : w.frozen? ⟨g, 1, none⟩ = false
  f2 : w.frozen? ⟨g, 2, none⟩ = false
  lt : g < w.heap.size
theorem Box3.made (w : World) (T : TypeId) (v0 v1 v2 : Value) : Box3 (w.alloc (.cells #[v0, v1, v2] T)) w.heap.size v0 v1 v2 :=
  ⟨by simp, by simp, by simp, by simp, by simp, by simp, by simp⟩
theorem Box3.keep {w w' : World} {g : Nat} {v0 v1 v2 : Value} (h : Box3 w g v0 v1 v2) (hs : w.heap.size ≤ w'.heap.size) (hg : w'.heap[g]? = w.heap[g]?) : Box3 w' g v0 v1 v2 := by
  have c : ∀ k, w'.cell? ⟨g, k, none⟩ = w.cell? ⟨g, k, none⟩ := fun k => by unfold World.cell?; rw [hg]
  have f : ∀ k, w'.frozen? ⟨g, k, none⟩ = w.frozen? ⟨g, k, none⟩ := fun k => by unfold World.frozen?; rw [hg]
  exact ⟨(c 0).trans h.c0, (c 1).trans h.c1, (c 2).trans h.c2, (f 0).trans h.f0, (f 1).trans h.f1, (f 2).trans h.f2, Nat.lt_of_lt_of_le h.lt hs⟩
theorem Box3.below {w w' : World} {B g : Nat} {v0 v1 v2 : Value} (h : Box3 w g v0 v1 v2) (hb : Below B w w') (hg : g < B) : Box3 w' g v0 v1 v2 := h.keep hb.size (hb.block g hg)
theorem Box3.drewN {w : World} {g : Nat} {v0 v1 v2 : Value} (h : Box3 w g v0 v1 v2) (k : Nat) : Box3 (w.drewN k) g v0 v1 v2 := ⟨h.c0, h.c1, h.c2, h.f0, h.f1, h.f2, h.lt⟩
theorem Box3.set1 {w : World} {g : Nat} {v0 v1 v2 : Value} (h : Box3 w g v0 v1 v2) (v : Value) : Box3 (w.setCell ⟨g, 1, none⟩ v) g v0 v v2 := by
  have o : ∀ j, j ≠ 1 → (w.setCell ⟨g, 1, none⟩ v).cell? ⟨g, j, none⟩ = w.cell? ⟨g, j, none⟩ := fun j hj => World.cell?_setCell_other w _ _ _ (by simp)
  have f : ∀ j, (w.setCell ⟨g, 1, none⟩ v).frozen? ⟨g, j, none⟩ = w.frozen? ⟨g, j, none⟩ := fun j => by simp
  exact ⟨(o 0 (by omega)).trans h.c0, World.cell?_setCell_same w _ _ h.c1, (o 2 (by omega)).trans h.c2, (f 0).trans h.f0, (f 1).trans h.f1, (f 2).trans h.f2, by simpa using h.lt⟩
theorem Box3.set2 {w : World} {g : Nat} {v0 v1 v2 : Value} (h : Box3 w g v0 v1 v2) (v : Value) : Box3 (w.setCell ⟨g, 2, none⟩ v) g v0 v1 v := by
  have o : ∀ j, j ≠ 2 → (w.setCell ⟨g, 2, none⟩ v).cell? ⟨g, j, none⟩ = w.cell? ⟨g, j, none⟩ := fun j hj => World.cell?_setCell_other w _ _ _ (by simp)
  have f : ∀ j, (w.setCell ⟨g, 2, none⟩ v).frozen? ⟨g, j, none⟩ = w.frozen? ⟨g, j, none⟩ := fun j => by simp
  exact ⟨(o 0 (by omega)).trans h.c0, (o 1 (by omega)).trans h.c1, World.cell?_setCell_same w _ _ h.c2, (f 0).trans h.f0, (f 1).trans h.f1, (f 2).trans h.f2, by simpa using h.lt⟩
/-- A reader in block g: its bytes, its place, whether it has failed. -/
def Rd (w : World) (g : Nat) (A : Option Addr) (n c p : Nat) (fl : Bool) : Prop := Box3 w g (.slice A n c) (.int .i64 (p : Int)) (.bool fl)

set_option maxRecDepth 100000 in
/-- next -/
theorem next_c (g : Nat) (A : Option Addr) (n c p B : Nat) (fl : Bool) (M : Int) (m : Nat) (l : List UInt8) (w : World) (hx : Rd w g A n c p fl) (hr : Rb w B A n c l) (hn : n ≤ 1000000) (hp : p ≤ n) (hM : M = (m : Int)) (hm : m ≤ 1000) :
    Calls Try.prog 49 #[.pointer (some ⟨g, 0, none⟩), .int .i64 M] w fun e w' => (∃ D k, e = .returned (.slice D k (c - p)) ∧ Rb w B D k (c - p) ((l.drop p).take m) ∧ k ≤ 1000) ∧ ∃ q, w' = w.drewN q := by
  subst hM
  have hl := hr.len
  obtain ⟨c0, c1, c2, f0, f1, f2, hlt⟩ := hx
  obtain ⟨k, hk, hkc⟩ : ∃ k : Nat, min (n : Int) ((p : Int) + (m : Int)) = (k : Int) ∧ (k = p + m ∧ p + m ≤ n ∨ k = n ∧ n ≤ p + m) := by
    by_cases h : n ≤ p + m
    · exact ⟨n, by omega, .inr ⟨rfl, h⟩⟩
    · exact ⟨p + m, by omega, .inl ⟨rfl, by omega⟩⟩
  have hkn : k ≤ n := by omega
  have hpk : p ≤ k := by omega
  obtain ⟨D, hD, hrD⟩ := bty.mid_ hr (i := p) (k := k) hpk hkn (p : Int) (k : Int) rfl rfl (k - p) rfl
  have e1 : (l.take k).drop p = (l.drop p).take m := by
    rw [List.drop_take]
    rcases hkc with ⟨rfl, _⟩ | ⟨rfl, h⟩
    · rw [Nat.add_sub_cancel_left]
    · rw [List.take_of_length_le (by rw [List.length_drop]; omega), List.take_of_length_le (by rw [List.length_drop]; omega)]
  rw [e1] at hrD
  have hk1 : k - p ≤ 1000 := by omega
  have HrD := Lib.hid hrD
  clear hr hrD hkc e1 hl
  go_enter Try.func49, Try.ntmps49
  go_wp2_with fail
  go_quiet (fail)
  go_wp2
  go_ret
  exact ⟨⟨D, k - p, rfl, HrD.out, hk1⟩, _, rfl⟩
end Go.Proofs.Ytdhbfoelpdoofaa
