/-
  Rows of whatever elements that grow beside other memory: which block an append touches; rows of records.
-/
import Derived.Test.YtihfejjkkgnneaaGr
import Derived.Test.YtihfejjkkgnneaaR1
namespace Go.Proofs.Ytihfejjkkgnneaa
open Go.RowKit

section
variable {P : Program} {t e : TypeId} {zv : Value} {z y : Nat}
/-- 'append(x, y...)', x a row of the call's own (or nil). -/
theorem Sl.appendAt (u : Sl P t e zv z y) {w : World} {base n c B m d : Nat} {A D : Option Addr} {vs us : List Value} (ty : TypeId) (hown : Oc z w e base A n c vs) (hr : Rc z w B D m d us) (h1 : ∀ v ∈ us, v.oneCell' = true)
    (hsm : (n + m) * y ≤ 140737488355328) (hnm : n + m ≤ 140737488355328) (hbase : base ≤ w.heap.size) :
    ∃ A' c' w', (Builtin.append_ #[t, t] ty #[.slice A n c, .slice D m d]).run P w = .ok (.slice A' (n + m) c') w' ∧ Oc z w' e base A' (n + m) c' (vs ++ us) ∧ Grows w w' A A' := by
  obtain ⟨i, hi, hz0, hz1, hz2⟩ := info_parts u.inf
  obtain ⟨hl, h2, h3, h4⟩ := hr
  have key : ∀ ad : Addr, D = some ad → (∀ j v, us[j]? = some v → w.cell? (ad.add j) = some v) →
      ∃ A' c' w', (Builtin.append_ #[t, t] ty #[.slice A n c, .slice D m d]).run P w = .ok (.slice A' (n + m) c') w' ∧ Oc z w' e base A' (n + m) c' (vs ++ us) ∧ Grows w w' A A' := by
    intro ad hD hcell
    subst hD
    obtain ⟨v', w', hrun, ho, hg, _, hloc⟩ := run_append_own_at (P := P) (w := w) base t ty e i zv z y u.sl hi hz0 hz1 hz2 u.zc u.zp _ _ _ hown ad m d us hl hcell h1 (by simp only [maxLen]; omega) hsm hbase
    have hsh : ∃ A' c', v' = .slice A' (n + m) c' := by
      rcases ho.2 with ⟨hv, hn⟩ | ⟨g, cap, cur, hv, _⟩
      · exact ⟨_, _, by rw [hv, hn]⟩
      · exact ⟨_, _, hv⟩
    obtain ⟨A', c', hv⟩ := hsh
    subst hv
    rw [ownBlock_slice, ownBlock_slice] at hloc
    rw [ownBlock_slice] at hg
    exact ⟨A', c', w', hrun, ho, hg, hloc.imp id fun h => ⟨_, h, Nat.le_refl _⟩⟩
  by_cases h0 : m = 0
  · subst h0
    obtain rfl : us = [] := List.eq_nil_of_length_eq_zero (by simpa using hl)
    cases hD : D with
    | some ad => rw [hD] at key; exact key ad rfl (fun j v hj => by simp at hj)
    | none =>
      refine ⟨A, c, w, ?_, by simpa using hown, Grows.refl _ _⟩
      have hrun : (Builtin.append_ #[t, t] ty #[.slice A n c, .slice none 0 d]).run P w = .ok (.slice A n c) w := by
        rcases hown.2 with ⟨hv, hn⟩ | ⟨g, cap, cur, hv, _, _, hnc, _⟩
        · rw [hv]
          simp [Builtin.append_, run_underlying u.sl, sizeOf, typeInfo, hi, Builtin.lenOf, Builtin.firstCells]
        · rw [hv]
          simp [Builtin.append_, run_underlying u.sl, sizeOf, typeInfo, hi, Builtin.lenOf, Builtin.firstCells, hnc, storeCells]
      simpa using hrun
  · obtain ⟨b, off, hD, hb, hc⟩ := h4 (by omega)
    refine key _ hD fun j v hj => ?_
    have := hc j v hj
    by_cases hj0 : j = 0
    · subst hj0; simpa [Addr.add] using this
    · simpa [Addr.add, hj0] using this
theorem Sl.wpAppAt (u : Sl P t e zv z y) {w : World} {ops : Array Oper} {rest : List Oper} {o : Oper} {a : Act} {Q : Exit → Act → World → Prop} (hgd : o.guard = none) (p q : Operand)
    (ho : o.op = .call { callee := .builtin .append, args := #[p, q], argTypes := #[t, t] })
    {base n c B m d N : Nat} {A D : Option Addr} {vs us ws : List Value} (hx : a.eval p = .slice A n c) (hy : a.eval q = .slice D m d) (hown : Oc z w e base A n c vs) (hr : Rc z w B D m d us) (h1 : ∀ v ∈ us, v.oneCell' = true)
    (hN : n + m = N) (hvs : vs ++ us = ws) (hsm : N * y ≤ 140737488355328) (hnm : N ≤ 140737488355328) (hbase : base ≤ w.heap.size)
    (h : ∀ A' c' w', Oc z w' e base A' N c' ws → Grows w w' A A' → wpList P ops Q rest (a.put o.dst (.slice A' N c')) w') : wpList P ops Q (o :: rest) a w := by
  subst hN hvs
  refine wpList_plain hgd fun _ hK => ?_
  obtain ⟨A', c', w', hrun, h2, h3⟩ := u.appendAt o.type hown hr h1 hsm hnm hbase
  unfold Oper.wp execOp
  simp only [ho, resolve, invoke, builtin, Sem.run_bind, Sem.run_pure, Result.andThen_ok, List.map_toArray, List.map_cons, List.map_nil, hx, hy, hrun]
  exact hK _ _ (h A' c' w' h2 h3)
end

theorem oc_ob {z : Nat} {w : World} {e : TypeId} {base n c : Nat} {A : Option Addr} {vs : List Value} (h : Oc z w e base A n c vs) (g : Nat) (hg : ob A = some g) : base ≤ g ∧ g < w.heap.size :=
  World.ownsRow.lt h g (by rw [ownBlock_slice]; exact hg)
theorem oc_beside {z : Nat} {w w' : World} {e : TypeId} {base n c : Nat} {A D D' : Option Addr} {vs : List Value} (h : Oc z w e base A n c vs) (hg : Grows w w' D D') (hne : ob A = none ∨ ob A ≠ ob D) : Oc z w' e base A n c vs :=
  World.ownsRow.kept h hg.1 (by rw [ownBlock_slice]; exact hne)
theorem Grows.belowC {z : Nat} {w w' : World} {A A' : Option Addr} {e : TypeId} {base n c : Nat} {vs : List Value} (h : Grows w w' A A') (ho : Oc z w e base A n c vs) (hb : base ≤ w.heap.size) : Below base w w' :=
  ⟨h.1.os, h.1.tape, h.1.output, h.1.size, fun k hk => h.1.block k (by omega) fun e => by have := (oc_ob ho k e.symm).1; omega⟩

/-- The values are the records, in rows of their own, none of them in the block 'av'. -/
def Rx (w : World) (base : Nat) (av : Option Nat) (vs : List Value) (l : List (List (List UInt8))) : Prop :=
  vs.length = l.length ∧ ∀ (j : Nat) (v : Value) (r : List (List UInt8)), vs[j]? = some v → l[j]? = some r → ∃ D d, v = .slice D r.length d ∧ Oc 1 w 9 base D r.length d (lvs r) ∧ (ob D = none ∨ ob D ≠ av)
theorem Rx.nil (w : World) (base : Nat) (av : Option Nat) : Rx w base av [] [] := ⟨rfl, fun j v r h => by simp at h⟩
theorem Rx.below {w w' : World} {base : Nat} {av : Option Nat} {vs : List Value} {l : List (List (List UInt8))} (h : Rx w base av vs l) (hb : Below w.heap.size w w') : Rx w' base av vs l :=
  ⟨h.1, fun j v r h1 h2 => by
    obtain ⟨D, d, e, ho, hn⟩ := h.2 j v r h1 h2
    exact ⟨D, d, e, ho.keep hb, hn⟩⟩
theorem Rx.snoc {w : World} {base : Nat} {av : Option Nat} {vs : List Value} {l : List (List (List UInt8))} {D : Option Addr} {d : Nat} {r : List (List UInt8)} (h : Rx w base av vs l) (ho : Oc 1 w 9 base D r.length d (lvs r)) (hn : ob D = none ∨ ob D ≠ av) :
    Rx w base av (vs ++ [.slice D r.length d]) (l ++ [r]) := by
  refine ⟨by simp [h.1], fun j u s h1 h2 => ?_⟩
  by_cases hj : j < vs.length
  · rw [List.getElem?_append_left hj] at h1
    rw [List.getElem?_append_left (by rw [← h.1]; exact hj)] at h2
    exact h.2 j u s h1 h2
  · rw [List.getElem?_append_right (by omega)] at h1
    rw [List.getElem?_append_right (by rw [← h.1]; omega), ← h.1] at h2
    by_cases h0 : j - vs.length = 0
    · rw [h0] at h1 h2
      simp at h1 h2
      subst h1 h2
      exact ⟨D, d, rfl, ho, hn⟩
    · rw [List.getElem?_eq_none (by simp; omega)] at h1
      cases h1
theorem Rx.grow {w w' : World} {base : Nat} {A A' : Option Addr} {vs : List Value} {l : List (List (List UInt8))} (h : Rx w base (ob A) vs l) (hg : Grows w w' A A') : Rx w' base (ob A') vs l :=
  ⟨h.1, fun j v r h1 h2 => by
    obtain ⟨D, d, e, ho, hn⟩ := h.2 j v r h1 h2
    refine ⟨D, d, e, oc_beside ho hg hn, ?_⟩
    cases hD : ob D with
    | none => exact .inl rfl
    | some b =>
      refine .inr fun e2 => ?_
      rcases hg.2 with h3 | ⟨g, h3, h4⟩
      · rcases hn with hn | hn
        · first | cases hn | (rw [hD] at hn; cases hn)
        · first | exact hn (e2.trans h3) | exact hn (hD.trans (e2.trans h3))
      · rw [h3] at e2
        injection e2 with e2
        have := (oc_ob ho b hD).2
        omega⟩
theorem Rx.rl {w : World} {base bo n c : Nat} {av : Option Nat} {A : Option Addr} {vs : List Value} {l : List (List (List UInt8))} (h : Rx w base av vs l) (ho : Oc 1 w 33 bo A n c vs) : RL w w.heap.size A n c l :=
  ⟨vs, ho.rc, h.1, fun j v r h1 h2 => by
    obtain ⟨D, d, e, hr, _⟩ := h.2 j v r h1 h2
    exact ⟨D, _, d, e, hr.rc⟩⟩
end Go.Proofs.Ytihfejjkkgnneaa
