import Derived.Test.YtkekmokdlgocaaaGreatDoorJW3
import GoSem.Op.String
set_option maxRecDepth 100000
set_option maxHeartbeats 4000000
namespace Go.Proofs.YtkekmokdlgocaaaGreatDoor.Bun.Bm
open Go.Op
theorem less_nil (a : List UInt8) : bytesLess a [] = false := by cases a <;> rfl
theorem nil_less (a : List UInt8) : bytesLess [] a = decide (0 < a.length) := by cases a <;> simp [bytesLess]
theorem gt_less : ∀ a b : List UInt8, (!(bytesLess a b || a == b)) = bytesLess b a
 | [], [] => rfl
 | x :: a, [] => by simp [bytesLess]
 | [], y :: b => by simp [bytesLess]
 | x :: a, y :: b => by
  have ih := gt_less a b
  by_cases h1 : x < y
  ·have h2 : ¬ y < x := fun h => UInt8.lt_irrefl x (UInt8.lt_trans h1 h)
   have h3 : ¬ y = x := fun e => by subst e; exact UInt8.lt_irrefl _ h1
   simp [bytesLess, h1, h2, h3]
  ·by_cases h2 : x = y
   ·subst h2
    have h4 : ¬ x < x := UInt8.lt_irrefl x
    simpa [bytesLess, h4] using ih
   ·have h3 : y < x := by
     rcases Nat.lt_trichotomy x.toNat y.toNat with h | h | h
     ·exact absurd (UInt8.lt_iff_toNat_lt.2 h) h1
     ·exact absurd (UInt8.toNat_inj.1 h) h2
     ·exact UInt8.lt_iff_toNat_lt.2 h
    have h5 : ¬ y = x := fun e => h2 e.symm
    simp [bytesLess, h1, h2, h3]
def num (m : Nat) (l : List UInt8) : Option (Nat × Nat) := if (Vm.tk l).2.2 = 0 ∧ (Vm.tk l).1 ≤ m then some ((Vm.tk l).1, (Vm.tk l).2.1) else none
theorem num_ok {m a s : Nat} {l : List UInt8} (h : Vm.tk l = (a, s, 0)) (hm : a ≤ m) : num m l = some (a, s) := by unfold num; rw [h, if_pos ⟨rfl, hm⟩]
theorem num_big {m a s : Nat} {l : List UInt8} (h : Vm.tk l = (a, s, 0)) (hm : ¬ a ≤ m) : num m l = none := by unfold num; rw [h, if_neg fun q => hm q.2]
theorem num_inv {m a s : Nat} {l : List UInt8} (h : num m l = some (a, s)) : Vm.tk l = (a, s, 0) ∧ a ≤ m := by
 unfold num at h
 split at h
 ·rename_i hc
  injection h with h
  injection h with h1 h2
  refine ⟨?_, by omega⟩
  rw [← h1, ← h2]
  obtain ⟨hc1, _⟩ := hc
  rw [← hc1]
 ·cases h
theorem num_only {m a s : Nat} {l : List UInt8} (h : num m l = some (a, s)) : l = Vm.vb a ++ l.drop s ∧ s = (Vm.vb a).length ∧ a ≤ m ∧ s ≤ l.length ∧ s ≤ 10 ∧ a < 18446744073709551616 := by
 obtain ⟨ht, hm⟩ := num_inv h
 have ho := Vm.tk_only l (by rw [ht])
 have hz := Vm.tk_size l
 rw [ht] at ho hz
 exact ⟨ho.2.1, ho.2.2, hm, hz.1, hz.2.1, hz.2.2⟩
def nam (l : List UInt8) : Option (List UInt8 × Nat) := (num 100 l).bind fun q => if q.1 ≤ l.length - q.2 then some ((l.drop q.2).take q.1, q.2 + q.1) else none
theorem nam_ok {a s : Nat} {l : List UInt8} (h : num 100 l = some (a, s)) (h2 : a ≤ l.length - s) : nam l = some ((l.drop s).take a, s + a) := by
 unfold nam
 rw [h, Option.bind_some, if_pos h2]
theorem nam_only {l a : List UInt8} {s : Nat} (h : nam l = some (a, s)) : l = Vm.vb a.length ++ (a ++ l.drop s) ∧ s = (Vm.vb a.length).length + a.length ∧ a.length ≤ 100 ∧ s ≤ l.length := by
 obtain ⟨⟨n, k⟩, hq, h2⟩ := Option.bind_eq_some_iff.1 h
 obtain ⟨h3, h4, h5, h6, _, _⟩ := num_only hq
 dsimp only at h2
 split at h2
 ·rename_i hc
  injection h2 with h2
  injection h2 with e1 e2
  have hal : a.length = n := by rw [← e1, List.length_take, List.length_drop]; omega
  rw [hal]
  refine ⟨?_, by omega, by omega, by omega⟩
  have e3 : a ++ l.drop s = l.drop k := by
   rw [← e1, ← e2, ← List.drop_drop]
   exact List.take_append_drop _ _
  rw [e3]
  exact h3
 ·cases h2
structure F where
 at_ : Nat
 nm : List UInt8
 sz : Nat
 st : Nat
def rdE : Nat → Nat → Nat → Nat → List UInt8 → List UInt8 → Option (List F × Nat × Nat)
 | 0, _, p, st, _, _ => some ([], p, st)
 | k + 1, AT, p, st, B, b => (nam (b.drop p)).bind fun q => (num 1000 (b.drop (p + q.2))).bind fun z =>
  if bytesLess B q.1 = true then (rdE k AT (p + q.2 + z.2) (st + z.1 + 4) q.1 b).map fun y => (⟨AT + p, q.1, z.1, st⟩ :: y.1, y.2) else none
theorem rdE_nonam {k AT p st : Nat} {B b : List UInt8} (h : nam (b.drop p) = none) : rdE (k + 1) AT p st B b = none := by rw [rdE, h]; rfl
theorem rdE_nonum {k AT p st s : Nat} {B b a : List UInt8} (h : nam (b.drop p) = some (a, s)) (h2 : num 1000 (b.drop (p + s)) = none) : rdE (k + 1) AT p st B b = none := by
 rw [rdE, h, Option.bind_some]
 dsimp only
 rw [h2]
 rfl
theorem rdE_noasc {k AT p st s z s2 : Nat} {B b a : List UInt8} (h : nam (b.drop p) = some (a, s)) (h2 : num 1000 (b.drop (p + s)) = some (z, s2)) (h3 : bytesLess B a = false) : rdE (k + 1) AT p st B b = none := by
 rw [rdE, h, Option.bind_some]
 dsimp only
 rw [h2, Option.bind_some, if_neg (by rw [h3]; exact Bool.noConfusion)]
theorem rdE_step {k AT p st s z s2 : Nat} {B b a : List UInt8} (h : nam (b.drop p) = some (a, s)) (h2 : num 1000 (b.drop (p + s)) = some (z, s2)) (h3 : bytesLess B a = true) :
  rdE (k + 1) AT p st B b = (rdE k AT (p + s + s2) (st + z + 4) a b).map fun y => (⟨AT + p, a, z, st⟩ :: y.1, y.2) := by
 rw [rdE, h, Option.bind_some]
 dsimp only
 rw [h2, Option.bind_some, if_pos h3]
def takeE (AT st : Nat) (b : List UInt8) : Option (List F × Nat) := (num 1000 b).bind fun q => (rdE q.1 AT q.2 st [] b).bind fun y => if y.2.1 = b.length then some (y.1, y.2.2) else none
def dir (b : List UInt8) : Option (List F × Nat) := (num b.length b).bind fun q => if q.1 ≤ b.length - q.2 then
 (if (Cm.openS Cm.tab ((b.take (q.2 + q.1)).drop q.2)).2 = 0 then takeE q.2 (q.2 + q.1) (Cm.openS Cm.tab ((b.take (q.2 + q.1)).drop q.2)).1 else none) else none
theorem dir_nonum {b : List UInt8} (h : num b.length b = none) : dir b = none := by unfold dir; rw [h]; rfl
theorem dir_short {b : List UInt8} {z s : Nat} (h : num b.length b = some (z, s)) (h2 : ¬ z ≤ b.length - s) : dir b = none := by unfold dir; rw [h, Option.bind_some, if_neg h2]
theorem dir_bad {b x : List UInt8} {z s e : Nat} (h : num b.length b = some (z, s)) (h2 : z ≤ b.length - s) (h3 : Cm.openS Cm.tab ((b.take (s + z)).drop s) = (x, e)) (he : e ≠ 0) : dir b = none := by
 unfold dir
 rw [h, Option.bind_some, if_pos h2]
 dsimp only
 rw [h3, if_neg he]
theorem dir_in {b x : List UInt8} {z s : Nat} (h : num b.length b = some (z, s)) (h2 : z ≤ b.length - s) (h3 : Cm.openS Cm.tab ((b.take (s + z)).drop s) = (x, 0)) : dir b = takeE s (s + z) x := by
 unfold dir
 rw [h, Option.bind_some, if_pos h2]
 dsimp only
 rw [h3, if_pos rfl]
theorem takeE_nonum {AT st : Nat} {b : List UInt8} (h : num 1000 b = none) : takeE AT st b = none := by unfold takeE; rw [h]; rfl
theorem takeE_none {AT st m s : Nat} {b : List UInt8} (h : num 1000 b = some (m, s)) (h2 : rdE m AT s st [] b = none) : takeE AT st b = none := by unfold takeE; rw [h, Option.bind_some]; dsimp only; rw [h2]; rfl
theorem takeE_more {AT st m s p e : Nat} {b : List UInt8} {D : List F} (h : num 1000 b = some (m, s)) (h2 : rdE m AT s st [] b = some (D, p, e)) (h3 : p ≠ b.length) : takeE AT st b = none := by
 unfold takeE; rw [h, Option.bind_some]; dsimp only; rw [h2, Option.bind_some]; dsimp only; rw [if_neg h3]
theorem takeE_ok {AT st m s p e : Nat} {b : List UInt8} {D : List F} (h : num 1000 b = some (m, s)) (h2 : rdE m AT s st [] b = some (D, p, e)) (h3 : p = b.length) : takeE AT st b = some (D, e) := by
 unfold takeE; rw [h, Option.bind_some]; dsimp only; rw [h2, Option.bind_some]; dsimp only; rw [if_pos h3]
def sl (x : List UInt8) : List UInt8 := x ++ Cm.four (Cm.sum Cm.tab x)
theorem sl_len (x : List UInt8) : (sl x).length = x.length + 4 := by unfold sl; rw [List.length_append, Cm.four_len]
theorem open_only {y x : List UInt8} (h : Cm.openS Cm.tab y = (x, 0)) : y = sl x := by
 unfold Cm.openS at h
 rw [if_pos Cm.tab_len] at h
 split at h
 ·injection h with _ h; cases h
 ·split at h
  ·rename_i h2
   injection h with h _
   subst h
   unfold sl
   rw [← h2]
   exact (List.take_append_drop _ _).symm
  ·injection h with _ h; cases h
theorem open_kinds (y : List UInt8) : (∃ x, Cm.openS Cm.tab y = (x, 0)) ∨ ∃ k, k ≠ 0 ∧ Cm.openS Cm.tab y = ([], k) := by
 unfold Cm.openS
 rw [if_pos Cm.tab_len]
 split
 ·exact .inr ⟨2, by omega, rfl⟩
 ·split
  ·exact .inl ⟨_, rfl⟩
  ·exact .inr ⟨4, by omega, rfl⟩
def cts (b : List UInt8) : List F → List (List UInt8)
 | [] => []
 | f :: D => if f.st + f.sz + 4 ≤ b.length then
   (if (Cm.openS Cm.tab ((b.take (f.st + f.sz + 4)).drop f.st)).2 = 0 then (Cm.openS Cm.tab ((b.take (f.st + f.sz + 4)).drop f.st)).1 :: cts b D else []) else []
theorem cts_short {b : List UInt8} {f : F} (D : List F) (h : ¬ f.st + f.sz + 4 ≤ b.length) : cts b (f :: D) = [] := by rw [cts, if_neg h]
theorem cts_bad {b x : List UInt8} {f : F} {e : Nat} (D : List F) (h : f.st + f.sz + 4 ≤ b.length) (h2 : Cm.openS Cm.tab ((b.take (f.st + f.sz + 4)).drop f.st) = (x, e)) (he : e ≠ 0) : cts b (f :: D) = [] := by
 rw [cts, if_pos h, h2, if_neg he]
theorem cts_ok {b x : List UInt8} {f : F} (D : List F) (h : f.st + f.sz + 4 ≤ b.length) (h2 : Cm.openS Cm.tab ((b.take (f.st + f.sz + 4)).drop f.st) = (x, 0)) : cts b (f :: D) = x :: cts b D := by
 rw [cts, if_pos h, h2, if_pos rfl]
theorem cts_cases (b : List UInt8) (f : F) (D : List F) : cts b (f :: D) = [] ∨ ∃ x, f.st + f.sz + 4 ≤ b.length ∧ (b.take (f.st + f.sz + 4)).drop f.st = sl x ∧ cts b (f :: D) = x :: cts b D := by
 by_cases h : f.st + f.sz + 4 ≤ b.length
 ·rcases open_kinds ((b.take (f.st + f.sz + 4)).drop f.st) with ⟨x, hx⟩ | ⟨k, hk, hx⟩
  ·exact .inr ⟨x, h, open_only hx, cts_ok D h hx⟩
  ·exact .inl (cts_bad D h hx hk)
 ·exact .inl (cts_short D h)
theorem cts_len (b : List UInt8) : ∀ D : List F, (cts b D).length ≤ D.length
 | [] => Nat.le_refl _
 | f :: D => by
  have ih := cts_len b D
  rcases cts_cases b f D with h | ⟨x, _, _, h⟩
  ·rw [h]; simp
  ·rw [h]; simpa using ih
def pcs (D : List F) (V : List (List UInt8)) : List (Nat × List (List (List UInt8))) := List.zipWith (fun f x => (f.at_, [[f.nm, x]])) D V
theorem pcs_len (D : List F) (V : List (List UInt8)) (h : V.length ≤ D.length) : (pcs D V).length = V.length := by unfold pcs; rw [List.length_zipWith]; omega
def scS (b : List UInt8) : List (Nat × List (List (List UInt8))) × Nat × Nat :=
 match dir b with
 | none => ([], 0, 3)
 | some (D, e) => match D[(cts b D).length]? with
  | some f => (pcs D (cts b D), f.st, 3)
  | none => if e < b.length then (pcs D (cts b D), e, 3) else (pcs D (cts b D), e, 0)
theorem scS_none {b : List UInt8} (h : dir b = none) : scS b = ([], 0, 3) := by unfold scS; rw [h]
theorem scS_miss {b : List UInt8} {D : List F} {e : Nat} {f : F} (h : dir b = some (D, e)) (h2 : D[(cts b D).length]? = some f) : scS b = (pcs D (cts b D), f.st, 3) := by unfold scS; rw [h]; dsimp only; rw [h2]
theorem scS_left {b : List UInt8} {D : List F} {e : Nat} (h : dir b = some (D, e)) (h2 : D.length ≤ (cts b D).length) (h3 : e < b.length) : scS b = (pcs D (cts b D), e, 3) := by unfold scS; rw [h]; dsimp only; rw [List.getElem?_eq_none h2]; dsimp only; rw [if_pos h3]
theorem scS_good {b : List UInt8} {D : List F} {e : Nat} (h : dir b = some (D, e)) (h2 : D.length ≤ (cts b D).length) (h3 : ¬ e < b.length) : scS b = (pcs D (cts b D), e, 0) := by unfold scS; rw [h]; dsimp only; rw [List.getElem?_eq_none h2]; dsimp only; rw [if_neg h3]
theorem scS_pcs {b : List UInt8} {D : List F} {e : Nat} (h : dir b = some (D, e)) : (scS b).1 = pcs D (cts b D) := by
 by_cases h2 : D.length ≤ (cts b D).length
 ·by_cases h3 : e < b.length
  ·rw [scS_left h h2 h3]
  ·rw [scS_good h h2 h3]
 ·rw [scS_miss h (List.getElem?_eq_getElem (by omega))]
def asc : List UInt8 → List F → Prop
 | _, [] => True
 | B, f :: D => bytesLess B f.nm = true ∧ asc f.nm D
def plc : Nat → List F → Nat → Prop
 | st, [], e => e = st
 | st, f :: D, e => f.st = st ∧ plc (st + f.sz + 4) D e
theorem plc_le : ∀ (D : List F) (st e : Nat), plc st D e → st ≤ e ∧ ∀ f ∈ D, st ≤ f.st ∧ f.st + f.sz + 4 ≤ e
 | [], st, e, h => by subst h; exact ⟨Nat.le_refl _, fun f hf => by cases hf⟩
 | g :: D, st, e, h => by
  obtain ⟨h1, h2⟩ := h
  obtain ⟨a, b⟩ := plc_le D _ _ h2
  refine ⟨by omega, fun f hf => ?_⟩
  rcases List.mem_cons.1 hf with rfl | hf
  ·omega
  ·have := b f hf
   omega
def ewF (f : F) : List UInt8 := Vm.vb f.nm.length ++ (f.nm ++ Vm.vb f.sz)
theorem rdE_only : ∀ (k AT p st : Nat) (B b : List UInt8) (D : List F) (p' e : Nat), p ≤ b.length → rdE k AT p st B b = some (D, p', e) →
  b.drop p = (D.map ewF).flatten ++ b.drop p' ∧ asc B D ∧ plc st D e ∧ D.length = k ∧ (∀ f ∈ D, f.nm.length ≤ 100 ∧ f.sz ≤ 1000 ∧ AT + p ≤ f.at_ ∧ f.at_ ≤ AT + b.length) ∧ p ≤ p' ∧ p' ≤ b.length ∧ e ≤ st + k * 1004
 | 0, AT, p, st, B, b, D, p', e, hp, h => by
  rw [rdE] at h
  injection h with h
  injection h with h1 h2
  injection h2 with h2 h3
  subst h1 h2 h3
  exact ⟨rfl, trivial, rfl, rfl, fun f hf => (by cases hf), Nat.le_refl _, hp, by omega⟩
 | k + 1, AT, p, st, B, b, D, p', e, hp, h => by
  rcases h1 : nam (b.drop p) with _ | ⟨a, s⟩
  ·rw [rdE_nonam h1] at h; cases h
  ·rcases h2 : num 1000 (b.drop (p + s)) with _ | ⟨z, s2⟩
   ·rw [rdE_nonum h1 h2] at h; cases h
   ·by_cases h3 : bytesLess B a = true
    ·rw [rdE_step h1 h2 h3] at h
     obtain ⟨⟨D2, p2, e2⟩, h4, h5⟩ := Option.map_eq_some_iff.1 h
     injection h5 with h5 h6
     injection h6 with h6 h7
     dsimp only at h5 h6 h7
     subst h6 h7
     obtain ⟨n1, n2, n3, n4⟩ := nam_only h1
     obtain ⟨m1, m2, m3, m4, _, _⟩ := num_only h2
     rw [List.length_drop] at n4 m4
     rw [List.drop_drop] at n1 m1
     obtain ⟨i1, i2, i3, i4, i5, i6, i7, i8⟩ := rdE_only k AT (p + s + s2) (st + z + 4) a b D2 p2 e2 (by omega) h4
     subst h5
     refine ⟨?_, ⟨h3, i2⟩,⟨rfl, i3⟩, by simp [i4], fun f hf => ?_, by omega, i7, by omega⟩
     ·have e0 : (List.map ewF (⟨AT + p, a, z, st⟩ :: D2)).flatten ++ b.drop p2 = Vm.vb a.length ++ (a ++ (Vm.vb z ++ ((List.map ewF D2).flatten ++ b.drop p2))) := by
       rw [List.map_cons, List.flatten_cons]
       unfold ewF
       dsimp only
       simp only [List.append_assoc]
      rw [e0, ← i1, ← m1]
      exact n1
     ·rcases List.mem_cons.1 hf with rfl | hf
      ·exact ⟨n3, m3, by dsimp only; omega, by dsimp only; omega⟩
      ·obtain ⟨j1, j2, j3, j4⟩ := i5 f hf
       exact ⟨j1, j2, by omega, j4⟩
    ·rw [rdE_noasc h1 h2 (by simpa using h3)] at h; cases h
theorem dir_inv {b : List UInt8} {D : List F} {e : Nat} (h : dir b = some (D, e)) : ∃ x, b = Vm.vb (sl x).length ++ (sl x ++ b.drop ((Vm.vb (sl x).length).length + (sl x).length)) ∧ x = Vm.vb D.length ++ (D.map ewF).flatten ∧
  asc [] D ∧ plc ((Vm.vb (sl x).length).length + (sl x).length) D e ∧ D.length ≤ 1000 ∧ (∀ f ∈ D, f.nm.length ≤ 100 ∧ f.sz ≤ 1000 ∧ f.at_ ≤ b.length) ∧ (Vm.vb (sl x).length).length + (sl x).length ≤ b.length ∧ e ≤ b.length + 1004000 := by
 rcases h1 : num b.length b with _ | ⟨z, s⟩
 ·rw [dir_nonum h1] at h; cases h
 ·by_cases h2 : z ≤ b.length - s
  ·rcases open_kinds ((b.take (s + z)).drop s) with ⟨x, hx⟩ | ⟨k, hk, hx⟩
   ·rw [dir_in h1 h2 hx] at h
    obtain ⟨m1, m2, m3, m4, _, _⟩ := num_only h1
    have hy := open_only hx
    have hyl : (sl x).length = z := by rw [← hy, List.length_drop, List.length_take]; omega
    rcases h3 : num 1000 x with _ | ⟨m, t⟩
    ·rw [takeE_nonum h3] at h; cases h
    ·obtain ⟨k1, k2, k3, k4, _, _⟩ := num_only h3
     rcases h4 : rdE m s t (s + z) [] x with _ | ⟨D2, p2, e2⟩
     ·rw [takeE_none h3 h4] at h; cases h
     ·by_cases h5 : p2 = x.length
      ·rw [takeE_ok h3 h4 h5] at h
       injection h with h
       injection h with h6 h7
       subst h6 h7
       obtain ⟨i1, i2, i3, i4, i5, i6, i7, i8⟩ := rdE_only m s t (s + z) [] x D2 p2 e2 k4 h4
       subst i4
       rw [sl_len] at hyl
       refine ⟨x, ?_, ?_, i2, ?_, by omega, fun f hf => ?_, ?_, ?_⟩
       ·rw [sl_len, hyl, ← m2]
        have e1 : sl x ++ b.drop (s + z) = b.drop s := by
         rw [← hy]
         have e2 : b.drop (s + z) = (b.drop s).drop z := by rw [List.drop_drop]
         have e3 : (b.take (s + z)).drop s = (b.drop s).take z := by rw [List.drop_take, Nat.add_sub_cancel_left]
         rw [e2, e3]
         exact List.take_append_drop _ _
        rw [e1]
        exact m1
       ·rw [h5, List.drop_length, List.append_nil] at i1
        rw [← i1]
        exact k1
       ·rw [sl_len, hyl, ← m2]; exact i3
       ·obtain ⟨j1, j2, _, j4⟩ := i5 f hf
        exact ⟨j1, j2, by omega⟩
       ·rw [sl_len, hyl, ← m2]; omega
       ·have : D2.length * 1004 ≤ 1000 * 1004 := Nat.mul_le_mul_right _ k3
        omega
      ·rw [takeE_more h3 h4 h5] at h; cases h
   ·rw [dir_bad h1 h2 hx hk] at h; cases h
  ·rw [dir_short h1 h2] at h; cases h
end Go.Proofs.YtkekmokdlgocaaaGreatDoor.Bun.Bm
