/-
  Rows of bytes that grow beside other memory: which block an append touches. (XP2's first half, for seats without press.)
-/
import Derived.Test.YthkjhenaicbepaaDoorBy
import Derived.Maps.AppendAt
namespace Go.Proofs.YthkjhenaicbepaaDoor
open Go.RowKit

/-- The block of a slice. -/
def ob (A : Option Addr) : Option Nat := A.map (·.block)
theorem ownBlock_slice (A : Option Addr) (n c : Nat) : (Value.slice A n c).ownBlock = ob A := by cases A <;> rfl
theorem grown_refl (w : World) (r : Option Nat) : w.grownBy w r := ⟨rfl, rfl, rfl, Nat.le_refl _, fun _ _ _ => rfl⟩
theorem grown_below {w w' : World} (h : Below w.heap.size w w') (r : Option Nat) : w.grownBy w' r := ⟨h.os, h.tape, h.output, h.size, fun k hk _ => h.block k hk⟩
/-- Only the slice's own block and new blocks have turned; the new slice lies in them. -/
def Grows (w w' : World) (A A' : Option Addr) : Prop := w.grownBy w' (ob A) ∧ (ob A' = ob A ∨ ∃ g, ob A' = some g ∧ w.heap.size ≤ g)
theorem Grows.refl (w : World) (A : Option Addr) : Grows w w A A := ⟨grown_refl w _, .inl rfl⟩
theorem Grows.size {w w' : World} {A A' : Option Addr} (h : Grows w w' A A') : w.heap.size ≤ w'.heap.size := h.1.size
theorem Grows.trans {a b c : World} {A B C : Option Addr} (h : Grows a b A B) (k : Grows b c B C) : Grows a c A C := by
  have hs := h.1.size
  refine ⟨⟨k.1.os.trans h.1.os, k.1.tape.trans h.1.tape, k.1.output.trans h.1.output, Nat.le_trans hs k.1.size, fun i hi hne => ?_⟩, ?_⟩
  · refine (k.1.block i (Nat.lt_of_lt_of_le hi hs) fun e => ?_).trans (h.1.block i hi hne)
    rcases h.2 with h1 | ⟨g, h1, h2⟩
    · exact hne (e.trans h1)
    · rw [h1] at e; cases e; omega
  · rcases k.2 with k1 | ⟨g, k1, k2⟩
    · rw [k1]; exact h.2
    · exact .inr ⟨g, k1, by omega⟩
theorem Grows.pre {a b c : World} {A B : Option Addr} (h : Below a.heap.size a b) (k : Grows b c A B) : Grows a c A B := by
  have hs := h.size
  refine ⟨(grown_below h _).trans k.1, ?_⟩
  rcases k.2 with k1 | ⟨g, k1, k2⟩
  · exact .inl k1
  · exact .inr ⟨g, k1, by omega⟩
theorem own_ob {w : World} {e : TypeId} {base c : Nat} {A : Option Addr} {l : List UInt8} (h : Own w e base A c l) (g : Nat) (hg : ob A = some g) : base ≤ g ∧ g < w.heap.size :=
  World.ownsRow.lt h g (by rw [ownBlock_slice]; exact hg)
theorem Grows.below {w w' : World} {A A' : Option Addr} {e : TypeId} {base c : Nat} {l : List UInt8} (h : Grows w w' A A') (ho : Own w e base A c l) (hb : base ≤ w.heap.size) : Below base w w' :=
  ⟨h.1.os, h.1.tape, h.1.output, h.1.size, fun k hk => h.1.block k (by omega) fun e => by have := (own_ob ho k e.symm).1; omega⟩

section
variable {P : Program} {t e s : TypeId}
/-- 'append(x, y...)' (XBase), with where the new slice lies. -/
theorem U8.appendAt (u : U8 P t e s) {w : World} {base c B m d : Nat} {A D : Option Addr} {l r : List UInt8} (ty : TypeId) (hown : Own w e base A c l) (hr : Rb w B D m d r)
    (hsm : l.length + r.length ≤ 140737488355328) (hbase : base ≤ w.heap.size) :
    ∃ A' c' w', (Builtin.append_ #[t, t] ty #[.slice A l.length c, .slice D m d]).run P w = .ok (.slice A' (l ++ r).length c') w' ∧ Own w' e base A' c' (l ++ r) ∧ Grows w w' A A' := by
  obtain ⟨i, hi, hz0, hz1, hz2⟩ := info_parts u.inf
  obtain ⟨h1, h2, h3, h4⟩ := hr
  subst h1
  have key : ∀ ad : Addr, D = some ad → (∀ j v, (bvs r)[j]? = some v → w.cell? (ad.add j) = some v) →
      ∃ A' c' w', (Builtin.append_ #[t, t] ty #[.slice A l.length c, .slice D r.length d]).run P w = .ok (.slice A' (l ++ r).length c') w' ∧ Own w' e base A' c' (l ++ r) ∧ Grows w w' A A' := by
    intro ad hD hcell
    subst hD
    obtain ⟨v', w', hrun, ho, hg, _, hloc⟩ := run_append_own_at (P := P) (w := w) base t ty e i (.int .u8 0) 1 1 u.sl hi hz0 hz1 hz2 rfl (by omega) _ _ _ hown ad r.length d (bvs r) (by rw [bvs_length]; omega) hcell (bvs_one r) (by simp only [maxLen]; omega) (by omega) hbase
    have hsh : ∃ A' c', v' = .slice A' (l.length + r.length) c' := by
      rcases ho.2 with ⟨hv, hn⟩ | ⟨g, cap, cur, hv, _⟩
      · exact ⟨_, _, by rw [hv, hn]⟩
      · exact ⟨_, _, hv⟩
    obtain ⟨A', c', hv⟩ := hsh
    subst hv
    rw [ownBlock_slice, ownBlock_slice] at hloc
    rw [ownBlock_slice] at hg
    refine ⟨A', c', w', by rw [hrun, List.length_append], ?_, hg, hloc.imp id fun h => ⟨_, h, Nat.le_refl _⟩⟩
    unfold Own
    rw [List.length_append, bvs_append]
    exact ho
  by_cases h0 : r.length = 0
  · obtain rfl : r = [] := List.eq_nil_of_length_eq_zero h0
    cases hD : D with
    | some ad => rw [hD] at key; exact key ad rfl (fun j v hj => by simp [bvs] at hj)
    | none =>
      refine ⟨A, c, w, ?_, by simpa using hown, Grows.refl _ _⟩
      have hrun : (Builtin.append_ #[t, t] ty #[.slice A l.length c, .slice none 0 d]).run P w = .ok (.slice A l.length c) w := by
        rcases hown.2 with ⟨hv, hn⟩ | ⟨g, cap, cur, hv, _, _, hnc, _⟩
        · rw [hv]
          simp [Builtin.append_, run_underlying u.sl, sizeOf, typeInfo, hi, Builtin.lenOf, Builtin.firstCells]
        · rw [hv]
          simp [Builtin.append_, run_underlying u.sl, sizeOf, typeInfo, hi, Builtin.lenOf, Builtin.firstCells, hnc, storeCells]
      simpa using hrun
  · obtain ⟨b, off, hD, hb, hc⟩ := h4 (by omega)
    refine key _ hD fun j v hj => ?_
    obtain ⟨x, hx, rfl⟩ := bvs_get r j v hj
    have := hc j x hx
    by_cases hj0 : j = 0
    · subst hj0; simpa [Addr.add] using this
    · simpa [Addr.add, hj0] using this
theorem U8.wpAppAt (u : U8 P t e s) {w : World} {ops : Array Oper} {rest : List Oper} {o : Oper} {a : Act} {Q : Exit → Act → World → Prop} (hgd : o.guard = none) (x y : Operand)
    (ho : o.op = .call { callee := .builtin .append, args := #[x, y], argTypes := #[t, t] })
    {base c B m d : Nat} {A D : Option Addr} {l r : List UInt8} (hx : a.eval x = .slice A l.length c) (hy : a.eval y = .slice D m d) (hown : Own w e base A c l) (hr : Rb w B D m d r)
    (hsm : l.length + r.length ≤ 140737488355328) (hbase : base ≤ w.heap.size)
    (h : ∀ A' c' w', Own w' e base A' c' (l ++ r) → Grows w w' A A' → wpList P ops Q rest (a.put o.dst (.slice A' (l ++ r).length c')) w') : wpList P ops Q (o :: rest) a w := by
  refine wpList_plain hgd fun _ hK => ?_
  obtain ⟨A', c', w', hrun, h2, h3⟩ := u.appendAt o.type hown hr hsm hbase
  unfold Oper.wp execOp
  simp only [ho, resolve, invoke, builtin, Sem.run_bind, Sem.run_pure, Result.andThen_ok, List.map_toArray, List.map_cons, List.map_nil, hx, hy, hrun]
  exact hK _ _ (h A' c' w' h2 h3)
end


/-- An append whose outcome has a name. -/
theorem U8.wpAppTo {P : Program} {t e s : TypeId} (u : U8 P t e s) {w : World} {ops : Array Oper} {rest : List Oper} {o : Oper} {a : Act} {Q : Exit → Act → World → Prop} (hgd : o.guard = none) (x y : Operand)
    (ho : o.op = .call { callee := .builtin .append, args := #[x, y], argTypes := #[t, t] })
    {base c B m d : Nat} {A D : Option Addr} {l r N : List UInt8} (hx : a.eval x = .slice A l.length c) (hy : a.eval y = .slice D m d) (hown : Own w e base A c l) (hr : Rb w B D m d r) (hN : l ++ r = N)
    (hsm : N.length ≤ 140737488355328) (hbase : base ≤ w.heap.size)
    (h : ∀ A' c' w', Own w' e base A' c' N → Grows w w' A A' → wpList P ops Q rest (a.put o.dst (.slice A' N.length c')) w') : wpList P ops Q (o :: rest) a w := by
  subst hN
  exact u.wpAppAt hgd x y ho hx hy hown hr (by rw [← List.length_append]; exact hsm) hbase h

/-- What lies elsewhere stays. -/
theorem Grows.cell {w w' : World} {A A' : Option Addr} (h : Grows w w' A A') (p : Addr) (hp : p.block < w.heap.size) (hne : some p.block ≠ ob A) : w'.cell? p = w.cell? p := by
  have := h.1.block p.block hp hne
  unfold World.cell?
  rw [this]
theorem Grows.heap {w w' : World} {A A' : Option Addr} (h : Grows w w' A A') (g : Nat) (hp : g < w.heap.size) (hne : some g ≠ ob A) : w'.heap[g]? = w.heap[g]? := h.1.block g hp hne
/-- A new block behind the row's is none of the row's. -/
theorem own_ne {w : World} {e : TypeId} {base c : Nat} {A : Option Addr} {l : List UInt8} (h : Own w e base A c l) (g : Nat) (hg : w.heap.size ≤ g) : some g ≠ ob A := fun e => by
  have := (own_ob h g e.symm).2
  omega
end Go.Proofs.YthkjhenaicbepaaDoor
