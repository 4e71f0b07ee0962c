/-
  Joined: Ki.
-/
import Derived.Test.YtoalncojijmelaaGreatDoorJ6
import Derived.Test.YtoalncojijmelaaGreatDoorJ9
import Derived.RegionTactic
import Derived.RegionCalls
/-
  A stack under way: its two cells and its row of kinds; the program's push and operation.
-/
namespace Go.Proofs.YtoalncojijmelaaGreatDoor
open Go.RowKit Vl Cd Ck

/-- A block of two cells. -/
structure Bk (w : World) (g : Nat) (a b : Value) : Prop where
  c0 : w.cell? ⟨g, 0, none⟩ = some a
  c1 : w.cell? ⟨g, 1, none⟩ = some b
  f0 : w.frozen? ⟨g, 0, none⟩ = false
  f1 : w.frozen? ⟨g, 1, none⟩ = false
  lt : g < w.heap.size
theorem Bk.made (w : World) (T : TypeId) (a b : Value) : Bk (w.alloc (.cells #[a, b] T)) w.heap.size a b := ⟨by simp, by simp, by simp, by simp, by simp⟩
theorem Bk.keep {w w' : World} {g : Nat} {a b : Value} (h : Bk w g a b) (hs : w.heap.size ≤ w'.heap.size) (hg : w'.heap[g]? = w.heap[g]?) : Bk w' g a b := by
  have c : ∀ k, w'.cell? ⟨g, k, none⟩ = w.cell? ⟨g, k, none⟩ := fun k => by unfold World.cell?; rw [hg]
  have f : ∀ k, w'.frozen? ⟨g, k, none⟩ = w.frozen? ⟨g, k, none⟩ := fun k => by unfold World.frozen?; rw [hg]
  exact ⟨(c 0).trans h.c0, (c 1).trans h.c1, (f 0).trans h.f0, (f 1).trans h.f1, Nat.lt_of_lt_of_le h.lt hs⟩
theorem Bk.below {w w' : World} {g B : Nat} {a b : Value} (h : Bk w g a b) (hb : Below B w w') (hg : g < B) : Bk w' g a b := h.keep hb.size (hb.block g hg)
theorem Bk.set0 {w : World} {g : Nat} {a b : Value} (h : Bk w g a b) (v : Value) : Bk (w.setCell ⟨g, 0, none⟩ v) g v b :=
  ⟨World.cell?_setCell_same w _ _ h.c0, (World.cell?_setCell_other w _ _ _ (by simp)).trans h.c1, by simpa using h.f0, by simpa using h.f1, by simpa using h.lt⟩
theorem Bk.set1 {w : World} {g : Nat} {a b : Value} (h : Bk w g a b) (v : Value) : Bk (w.setCell ⟨g, 1, none⟩ v) g a v :=
  ⟨(World.cell?_setCell_other w _ _ _ (by simp)).trans h.c0, World.cell?_setCell_same w _ _ h.c1, by simpa using h.f0, by simpa using h.f1, by simpa using h.lt⟩
theorem oc_low {z : Nat} {w : World} {e : TypeId} {g n c : Nat} {A : Option Addr} {vs : List Value} (h : Oc z w e (g + 1) A n c vs) : some g ≠ ob A := fun e => by
  have := (oc_ob h g e.symm).1
  omega
theorem oc_setLow {z : Nat} {w : World} {e : TypeId} {base n c : Nat} {A : Option Addr} {vs : List Value} (h : Oc z w e base A n c vs) {p : Addr} (hp : p.block < base) (v : Value) : Oc z (w.setCell p v) e base A n c vs := ownsRow_setCell_below h hp v
theorem Bk.grows {w w' : World} {g : Nat} {a b : Value} {A A' : Option Addr} (h : Bk w g a b) (hg : Grows w w' A A') (hne : some g ≠ ob A) : Bk w' g a b := h.keep hg.size (hg.heap g h.lt hne)
theorem below_set {B : Nat} {a w : World} (h : Below B a w) {g : Nat} (hg : B ≤ g) (k : Nat) (v : Value) : Below B a (w.setCell ⟨g, k, none⟩ v) := h.setCell hg v
/-- The beginning of an own row. -/
theorem Oc.upto {z : Nat} {w : World} {e : TypeId} {base n c k : Nat} {A : Option Addr} {vs : List Value} (h : Oc z w e base A n c vs) (hk : k ≤ n) : Oc z w e base A k c (vs.take (k * z)) := by
  unfold Oc at h ⊢
  have hl := h.1
  refine ⟨by rw [List.length_take, hl]; exact Nat.min_eq_left (Nat.mul_le_mul_right z hk), ?_⟩
  rcases h.2 with ⟨hv, hn⟩ | ⟨g, cap, cur, hv, hbg, hg, hnc, hcm, hcs, ht⟩
  · injection hv with hA _ hc
    subst hA hc
    exact .inl ⟨by rw [show k = 0 by omega], by omega⟩
  · injection hv with hA _ hc
    subst hA hc
    refine .inr ⟨g, _, cur, rfl, hbg, hg, by omega, hcm, hcs, ?_⟩
    rw [← ht, List.take_take, Nat.min_eq_left (Nat.mul_le_mul_right z hk)]
theorem lvb_app (a b : List Bool) : lvb (a ++ b) = lvb a ++ lvb b := by simp [lvb]
theorem lvb_one (l : List Bool) : ∀ v ∈ lvb l, v.oneCell' = true := by
  intro v hv
  obtain ⟨_, _, rfl⟩ := List.mem_map.1 hv
  rfl
theorem lvb_len (l : List Bool) : (lvb l).length = l.length := by simp [lvb]
theorem lvb_take (l : List Bool) (k : Nat) : (lvb l).take (k * 1) = lvb (l.take k) := by simp [lvb, List.map_take]
theorem lvb_drop (l : List Bool) (k : Nat) : (lvb l).drop (k * 1) = lvb (l.drop k) := by simp [lvb, List.map_drop]
theorem kty : Sl Tryz.prog 47 4 (.bool false) 1 1 := ⟨Tryz.underlying47, by kernel_rfl, rfl, by omega⟩

/-- A stack under way: its block, its kinds, how deep it was. -/
def St (w : World) (g : Nat) (s : List Bool) (d : Nat) : Prop := ∃ A c, Bk w g (.slice A s.length c) (.int .i64 (d : Int)) ∧ Oc 1 w 4 (g + 1) A s.length c (lvb s)
/-- What a step on it comes to. -/
def RetK (w : World) (g : Nat) (s : List Bool) (d er : Nat) (e : Ending) (w' : World) : Prop := e = .returned (.int .i64 (er : Int)) ∧ St w' g s d ∧ Below g w w'

set_option maxRecDepth 100000 in
set_option maxHeartbeats 1000000 in
theorem push_c (k : Bool) (g : Nat) (s : List Bool) (d : Nat) (w : World) (h : St w g s d) (hs : s.length ≤ 30) :
    Calls Tryz.prog 69 #[.bool k, .pointer (some ⟨g, 0, none⟩)] w (RetK w g (if 30 ≤ s.length then s else s ++ [k]) d (if 30 ≤ s.length then 13 else 0)) := by
  obtain ⟨A, c, hb, ho⟩ := h
  by_cases h30 : 30 ≤ s.length
  · rw [if_pos h30, if_pos h30]
    have hL : s.length = 30 := by omega
    have HF := Lib.hid (show RetK w g s d 13 (.returned (.int .i64 13)) w from ⟨rfl, ⟨A, c, hb, ho⟩, Below.refl _ _⟩)
    rw [hL] at hb
    obtain ⟨c0, c1, f0, f1, hlt⟩ := hb
    clear ho hs h30 hL
    go_enter Tryz.func69, Tryz.ntmps69
    go_wp2
    go_ret
    exact HF.out
  · rw [if_neg h30, if_neg h30]
    obtain ⟨n, hn⟩ : ∃ n, n = s.length := ⟨_, rfl⟩
    have hb' := hb
    have ho' := ho
    rw [← hn] at hb ho
    have d1 : ((n : Int) == 30) = false := beq_eq_false_iff_ne.2 (by omega)
    have hn30 : n ≤ 30 := by omega
    obtain ⟨w1, hw1⟩ : ∃ w1, w1 = w.alloc (.cells #[.bool k] 4) := ⟨_, rfl⟩
    have b1 : Below w.heap.size w w1 := by rw [hw1]; exact (Below.refl _ _).alloc (Nat.le_refl _) _
    have o1 : Oc 1 w1 4 (g + 1) A n c (lvb s) := by rw [hw1]; exact ho.alloc _
    have r1 : Rc 1 w1 (w.heap.size + 1) (some ⟨w.heap.size, 0, none⟩) 1 1 (lvb [k]) := by rw [hw1]; exact Rc.lit w _ #[.bool k] 1 rfl (by simp [maxLen])
    have B1 := Lib.hid (hb.keep b1.size (b1.block g hb.lt))
    have W1 := Lib.hid hw1; have O1 := Lib.hid o1; have R1 := Lib.hid r1; have Hn := Lib.hid hn; have BB := Lib.hid b1
    have hg1 : g + 1 ≤ w1.heap.size := Nat.le_trans hb.lt b1.size
    obtain ⟨c0, c1, f0, f1, hlt⟩ := hb
    clear hw1 b1 o1 r1 hn h30 hs hb' ho' ho
    go_enter Tryz.func69, Tryz.ntmps69
    go_wp2_with (at_builtin; rw [← W1.out]; go_must (refine Sl.wpAppAt kty rfl (.tmp 15) (.tmp 17) rfl (n := n) (m := 1) (N := n + 1) (ws := lvb (s ++ [k])) rfl rfl O1.out R1.out (lvb_one _) rfl (lvb_app _ _).symm ?hs4 ?hs5 hg1 ?_))
    case hs4 => omega
    case hs5 => omega
    intro A2 c2 w2 ho2 hg2
    have hb2 := B1.out.grows hg2 (oc_low O1.out)
    have hl : (s ++ [k]).length = n + 1 := by rw [List.length_append, List.length_singleton, Hn.out]
    have hbel : Below g w w2 := (BB.out.mono (Nat.le_of_lt hlt)).trans ((hg2.belowC O1.out hg1).mono (Nat.le_succ g))
    have HF := Lib.hid (show RetK w g (s ++ [k]) d 0 (.returned (.int .i64 0)) (w2.setCell ⟨g, 0, none⟩ (.slice A2 (n + 1) c2)) from
      ⟨rfl, ⟨A2, c2, by rw [hl]; exact hb2.set0 _, by rw [hl]; exact oc_setLow ho2 (by show g < g + 1; omega) _⟩, below_set hbel (Nat.le_refl _) _ _⟩)
    clear ho2 hg2 hl hbel c0 c1 f0 f1
    obtain ⟨c0, c1, f0, f1, hlt2⟩ := hb2
    go_wp2
    go_ret
    exact HF.out
end Go.Proofs.YtoalncojijmelaaGreatDoor
