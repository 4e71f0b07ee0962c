/-
  Joined: Rp.
-/
import Derived.Test.YtpdapgbamlcjjaaGreatDoorJ6
import Derived.Test.YtpdapgbamlcjjaaGreatDoorJ7
import Derived.Deep.RegionHeld3
import Derived.BigQuiet
import Derived.Deep.QuietTactic
/-
  strings.(*trieNode).add: the ways that three keys of two bytes take.
-/
namespace Go.Proofs.YtpdapgbamlcjjaaGreatDoor
open Go.RowKit Vl

abbrev em : Value := .string ⟨#[]⟩
abbrev ns : Value := .slice none 0 0
abbrev np : Value := .pointer none
abbrev pt (b : Nat) : Value := .pointer (some ⟨b, 0, none⟩)
theorem OnlyR.refl (R : Nat) (w : World) : OnlyR R w w := ⟨Nat.le_refl _, fun _ _ _ => rfl⟩
theorem onlyR_alloc (R : Nat) (w : World) (o : Obj) : OnlyR R w (w.alloc o) := ⟨by simp, fun k hk _ => by
  show (w.heap.push o)[k]? = w.heap[k]?
  rw [Array.getElem?_push, if_neg (Nat.ne_of_lt hk)]⟩
theorem OnlyR.b5 {R g : Nat} {w w' : World} {v0 v1 v2 v3 v4 : Value} (h : OnlyR R w w') (hb : B5 w g v0 v1 v2 v3 v4) (hne : g ≠ R) : B5 w' g v0 v1 v2 v3 v4 := hb.keep h.1 (h.2 g hb.lt hne)

set_option maxRecDepth 100000 in
theorem addE_c (b : Nat) (V : ByteArray) (p : Int) (r v2 v3 v4 : Value) (w : World) (h : B5 w b em (.int .i64 0) v2 v3 v4) :
    Calls Tryz.prog 105 #[pt b, em, .string V, .int .i64 p, r] w fun e w' => e = .returned (.tuple #[]) ∧ w' = (w.setCell ⟨b, 0, none⟩ (.string V)).setCell ⟨b, 1, none⟩ (.int .i64 p) := by
  have q0 := h.c0; have q1 := h.c1; have f0 := h.fz 0; have f1 := h.fz 1
  have h2 := h.set 0 (.string V)
  have r1 := h2.c1
  have r2 := h2.fz 1
  simp only [reduceIte, Nat.reduceEqDiff] at r1
  go_enter Tryz.func105, Tryz.ntmps105
  go_wp2
  first | go_end0 | refine bodyPost_ret (results_none rfl _ _ _) rfl ?_
  exact ⟨rfl, rfl⟩

/-- Of the blocks that there were only those in S have turned. -/
structure Chg (S : Nat → Prop) (w w' : World) : Prop where
  os : w'.os = w.os
  tape : w'.tape = w.tape
  output : w'.output = w.output
  size : w.heap.size ≤ w'.heap.size
  block : ∀ k, k < w.heap.size → ¬ S k → w'.heap[k]? = w.heap[k]?
theorem Chg.refl (S : Nat → Prop) (w : World) : Chg S w w := ⟨rfl, rfl, rfl, Nat.le_refl _, fun _ _ _ => rfl⟩
theorem Chg.trans {S : Nat → Prop} {a b c : World} (h : Chg S a b) (k : Chg S b c) : Chg S a c :=
  ⟨k.os.trans h.os, k.tape.trans h.tape, k.output.trans h.output, Nat.le_trans h.size k.size, fun j hj hs => (k.block j (Nat.lt_of_lt_of_le hj h.size) hs).trans (h.block j hj hs)⟩
theorem Chg.mono {S S' : Nat → Prop} {a b : World} (h : Chg S a b) (k : ∀ j, j < a.heap.size → S j → S' j) : Chg S' a b := ⟨h.os, h.tape, h.output, h.size, fun j hj hs => h.block j hj (fun q => hs (k j hj q))⟩
theorem Chg.below {S : Nat → Prop} {a b : World} {B : Nat} (h : Chg S a b) (k : ∀ j, S j → B ≤ j) (hB : B ≤ a.heap.size) : Below B a b := ⟨h.os, h.tape, h.output, h.size, fun j hj => h.block j (Nat.lt_of_lt_of_le hj hB) (fun q => by have := k j q; omega)⟩
theorem Chg.set {S : Nat → Prop} {a w : World} (h : Chg S a w) (b k : Nat) (v : Value) (hb : S b ∨ a.heap.size ≤ b) : Chg S a (w.setCell ⟨b, k, none⟩ v) :=
  ⟨h.os, h.tape, h.output, by simp [h.size], fun j hj hs => by
    refine Eq.trans ?_ (h.block j hj hs)
    show (w.heap.modify b _)[j]? = w.heap[j]?
    rw [Array.getElem?_modify, if_neg]
    intro e
    rcases hb with h1 | h1
    · exact hs (e ▸ h1)
    · omega⟩
theorem Chg.alloc {S : Nat → Prop} {a w : World} (h : Chg S a w) (o : Obj) : Chg S a (w.alloc o) :=
  ⟨h.os, h.tape, h.output, by simp; have := h.size; omega, fun j hj hs => by
    refine Eq.trans ?_ (h.block j hj hs)
    show (w.heap.push o)[j]? = w.heap[j]?
    rw [Array.getElem?_push, if_neg (by have := h.size; omega)]⟩
theorem Chg.drewN {S : Nat → Prop} {a w : World} (h : Chg S a w) (q : Nat) : Chg S a (w.drewN q) := ⟨h.os, h.tape, h.output, h.size, h.block⟩
theorem Chg.b5 {S : Nat → Prop} {g : Nat} {w w' : World} {v0 v1 v2 v3 v4 : Value} (h : Chg S w w') (hb : B5 w g v0 v1 v2 v3 v4) (hne : ¬ S g) : B5 w' g v0 v1 v2 v3 v4 := hb.keep h.size (h.block g hb.lt hne)
theorem Chg.blk {S : Nat → Prop} {g N : Nat} {w w' : World} {F : Nat → Value} (h : Chg S w w') (hb : Blk w g N F) (hne : ¬ S g) : Blk w' g N F := hb.keep h.size (h.block g hb.lt hne)
theorem B5.drewN {w : World} {g : Nat} {v0 v1 v2 v3 v4 : Value} (h : B5 w g v0 v1 v2 v3 v4) (q : Nat) : B5 (w.drewN q) g v0 v1 v2 v3 v4 := ⟨h.c0, h.c1, h.c2, h.c3, h.c4, h.fz, h.lt⟩

set_option maxRecDepth 100000 in
set_option maxHeartbeats 2000000 in
theorem addP_c (b : Nat) (V : ByteArray) (p : Int) (r v0 v1 v3 : Value) (w : World) (h : B5 w b v0 v1 em v3 ns) :
    Calls Tryz.prog 105 #[pt b, .string ⟨#[92]⟩, .string V, .int .i64 p, r] w fun e w' => e = .returned (.tuple #[]) ∧
      B5 w' b v0 v1 (.string ⟨#[92]⟩) (pt w.heap.size) ns ∧ B5 w' w.heap.size (.string V) (.int .i64 p) em np ns ∧ Chg (· = b) w w' := by
  have q2 := h.c2; have q3 := h.c3; have q4 := h.c4; have f2 := h.fz 2; have f3 := h.fz 3
  have hlt := h.lt
  have hs2 := h.set 2 (.string ⟨#[92]⟩)
  have p3 := hs2.c3; have g3 := hs2.fz 3; have l3 := hs2.lt
  simp only [reduceIte, Nat.reduceEqDiff] at p3
  clear hs2
  obtain ⟨w1, hw1⟩ : ∃ w1, w1 = ((w.setCell ⟨b, 2, none⟩ (.string ⟨#[92]⟩)).setCell ⟨b, 3, none⟩ (pt w.heap.size)).alloc (.cells #[em, .int .i64 0, em, np, ns] 149) := ⟨_, rfl⟩
  have s1 : ((w.setCell ⟨b, 2, none⟩ (.string ⟨#[92]⟩)).setCell ⟨b, 3, none⟩ (pt w.heap.size)).heap.size = w.heap.size := by simp
  have hb1 : B5 ((w.setCell ⟨b, 2, none⟩ (.string ⟨#[92]⟩)).setCell ⟨b, 3, none⟩ (pt w.heap.size)) b v0 v1 (.string ⟨#[92]⟩) (pt w.heap.size) ns := by
    have := (h.set 2 (.string ⟨#[92]⟩)).set 3 (pt w.heap.size)
    simp only [reduceIte, Nat.reduceEqDiff] at this
    exact this
  have hc1 : Chg (· = b) w w1 := by rw [hw1]; exact (((Chg.refl (fun x => x = b) w).set b 2 _ (.inl rfl)).set b 3 _ (.inl rfl)).alloc _
  have hb2 : B5 w1 b v0 v1 (.string ⟨#[92]⟩) (pt w.heap.size) ns := by rw [hw1]; exact hb1.below ((Below.refl _ _).alloc (Nat.le_refl _) _) hb1.lt
  have hk1 : B5 w1 w.heap.size em (.int .i64 0) em np ns := by
    have := B5.made ((w.setCell ⟨b, 2, none⟩ (.string ⟨#[92]⟩)).setCell ⟨b, 3, none⟩ (pt w.heap.size)) 149 em (.int .i64 0) em np ns
    rw [s1] at this
    rw [hw1]; exact this
  have hE := addE_c w.heap.size V p r em np ns w1 hk1
  have q5 := hb2.c3
  have W1 := Lib.hid hw1; have HE := Lib.hid hE; have Hb2 := Lib.hid hb2; have Hk1 := Lib.hid hk1; have Hc1 := Lib.hid hc1; have Hlt := Lib.hid hlt
  clear hw1 hE hb2 hk1 hc1 s1 hb1 h
  go_enter Tryz.func105, Tryz.ntmps105
  go_wp2_with (rw [← W1.out])
  refine HE.out.mono ?_
  rintro e w2 ⟨rfl, rfl⟩
  go_wp2
  first | go_end0 | refine bodyPost_ret (results_none rfl _ _ _) rfl ?_
  refine ⟨rfl, ?_, ?_, ((Hc1.out.set _ _ _ (.inr (Nat.le_refl _))).set _ _ _ (.inr (Nat.le_refl _)))⟩
  · have hne : b ≠ w.heap.size := by have := Hlt.out; omega
    exact (Chg.set (Chg.set (Chg.refl (fun x => x = w.heap.size) w1) _ 0 _ (.inl rfl)) _ 1 _ (.inl rfl)).b5 Hb2.out hne
  · have := (Hk1.out.set 0 (.string V)).set 1 (.int .i64 p)
    simp only [reduceIte, Nat.reduceEqDiff] at this
    exact this
end Go.Proofs.YtpdapgbamlcjjaaGreatDoor
