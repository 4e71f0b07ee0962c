/-
  Words for slices of whatever elements (of z cells each): what cells a slice holds, a row that the call itself made, append, the making. No program is named.
-/
import Derived.Test.YthkjhenaicbepaaDoorBase
namespace Go.Proofs.YthkjhenaicbepaaDoor
open Go.RowKit

/-- The slice value '.slice A n c' (elements of z cells) holds the cells vs in the world w; they lie below block B. -/
def Rc (z : Nat) (w : World) (B : Nat) (A : Option Addr) (n c : Nat) (vs : List Value) : Prop :=
  vs.length = n * z ∧ n ≤ c ∧ c ≤ maxLen ∧ (0 < n → ∃ b off, A = some ⟨b, off, none⟩ ∧ b < B ∧ ∀ j v, vs[j]? = some v → w.cell? ⟨b, off + j, none⟩ = some v)
/-- It is a row that was made from block 'base' on (or nil). -/
def Oc (z : Nat) (w : World) (e : TypeId) (base : Nat) (A : Option Addr) (n c : Nat) (vs : List Value) : Prop := w.ownsRow base e z (.slice A n c) n vs

section
variable {z : Nat} {w w' : World} {B B' n c : Nat} {A : Option Addr} {vs : List Value}
theorem Rc.nil (z : Nat) (w : World) (B : Nat) : Rc z w B none 0 0 [] := ⟨by simp, Nat.le_refl _, by simp [maxLen], fun h => absurd h (by omega)⟩
theorem Rc.len (h : Rc z w B A n c vs) : vs.length = n * z := h.1
theorem Rc.len1 (h : Rc 1 w B A n c vs) : vs.length = n := by rw [h.1, Nat.mul_one]
theorem Rc.keep (h : Rc z w B A n c vs) (hk : ∀ p : Addr, p.block < B → w'.cell? p = w.cell? p) : Rc z w' B A n c vs :=
  ⟨h.1, h.2.1, h.2.2.1, fun hn => by
    obtain ⟨b, off, e, hb, hc⟩ := h.2.2.2 hn
    exact ⟨b, off, e, hb, fun j x hx => (hk _ hb).trans (hc j x hx)⟩⟩
theorem Rc.more (h : Rc z w B A n c vs) (hB : B ≤ B') : Rc z w B' A n c vs :=
  ⟨h.1, h.2.1, h.2.2.1, fun hn => by
    obtain ⟨b, off, e, hb, hc⟩ := h.2.2.2 hn
    exact ⟨b, off, e, by omega, hc⟩⟩
theorem Rc.below (h : Rc z w B A n c vs) (hb : Below B w w') : Rc z w' B A n c vs := h.keep fun _ hp => hb.cell hp
theorem Rc.drewN (h : Rc z w B A n c vs) (k : Nat) : Rc z (w.drewN k) B A n c vs := h
theorem Rc.alloc (h : Rc z w B A n c vs) (hB : B ≤ w.heap.size) (o : Obj) : Rc z (w.alloc o) B A n c vs := h.keep fun p hp => World.cell?_alloc_lt w o p (by omega)
theorem Rc.at_ {k : Nat} (h : Rc 1 w B A n c vs) (hk : k < n) : ∃ b off v, A = some ⟨b, off, none⟩ ∧ b < B ∧ w.cell? ⟨b, off + k, none⟩ = some v ∧ vs[k]? = some v := by
  obtain ⟨h1, h2, h3, h4⟩ := h
  obtain ⟨b, off, rfl, hb, hc⟩ := h4 (by omega)
  have hl : k < vs.length := by omega
  exact ⟨b, off, vs[k], rfl, hb, hc k _ (List.getElem?_eq_getElem hl), List.getElem?_eq_getElem hl⟩
theorem Rc.at2 {k : Nat} (h : Rc 2 w B A n c vs) (hk : k < n) : ∃ b off u v, A = some ⟨b, off, none⟩ ∧ b < B ∧ w.cell? ⟨b, off + k * 2, none⟩ = some u ∧ w.cell? ⟨b, off + k * 2 + 1, none⟩ = some v ∧ vs[k * 2]? = some u ∧ vs[k * 2 + 1]? = some v := by
  obtain ⟨h1, h2, h3, h4⟩ := h
  obtain ⟨b, off, rfl, hb, hc⟩ := h4 (by omega)
  have hl : k * 2 < vs.length := by omega
  have hl2 : k * 2 + 1 < vs.length := by omega
  exact ⟨b, off, vs[k * 2], vs[k * 2 + 1], rfl, hb, hc _ _ (List.getElem?_eq_getElem hl), by rw [Nat.add_assoc]; exact hc _ _ (List.getElem?_eq_getElem hl2), List.getElem?_eq_getElem hl, List.getElem?_eq_getElem hl2⟩
/-- A literal. -/
theorem Rc.lit (w : World) (e : TypeId) (cs : Array Value) (n : Nat) (h : cs.size = n * z) (hn : n ≤ maxLen) : Rc z (w.alloc (.cells cs e)) (w.heap.size + 1) (some ⟨w.heap.size, 0, none⟩) n n cs.toList :=
  ⟨by simpa using h, Nat.le_refl _, hn, fun _ => ⟨_, _, rfl, by omega, fun j v hj => by
    simp at hj ⊢
    obtain ⟨hj1, hj2⟩ := Array.getElem?_eq_some_iff.1 hj
    simp [hj]⟩⟩
end

section
variable {z : Nat} {w w' : World} {e : TypeId} {base n c : Nat} {A : Option Addr} {vs : List Value}
theorem Oc.nil (z : Nat) (w : World) (e : TypeId) (base : Nat) : Oc z w e base none 0 0 [] := World.ownsRow_nil w base e z
theorem Oc.lit (w : World) (e : TypeId) (cs : Array Value) (n : Nat) (h : cs.size = n * z) (hn : n ≤ maxLen) : Oc z (w.alloc (.cells cs e)) e w.heap.size (some ⟨w.heap.size, 0, none⟩) n n cs.toList :=
  World.ownsRow_lit w cs n (Nat.le_refl _) hn h
theorem Oc.made0 (z : Nat) (w : World) (e : TypeId) : Oc z (w.alloc (.cells #[] e)) e w.heap.size (some ⟨w.heap.size, 0, none⟩) 0 0 [] :=
  World.ownsRow_lit w #[] 0 (Nat.le_refl _) (by simp [maxLen]) (by simp)
theorem Oc.lt {g : Nat} {a : Addr} (h : Oc z w e base (some a) n c vs) (hg : a.block = g) : base ≤ g ∧ g < w.heap.size := World.ownsRow.lt h g (by rw [← hg]; rfl)
theorem Oc.rc (h : Oc z w e base A n c vs) : Rc z w w.heap.size A n c vs := by
  have hl := h.1
  rcases h.2 with ⟨hv, hn⟩ | ⟨g, cap, cur, hv, hb, hg, hnc, hcm, hcs, ht⟩
  · injection hv with hA hl' hc
    subst hA hc
    exact ⟨hl, by omega, by simp [maxLen], fun h0 => by omega⟩
  · injection hv with hA hl' hc
    subst hA hc
    refine ⟨hl, hnc, hcm, fun _ => ⟨g, 0, rfl, ?_, fun j v hx => ?_⟩⟩
    · rcases Nat.lt_or_ge g w.heap.size with h' | h'
      · exact h'
      · rw [Array.getElem?_eq_none h'] at hg; cases hg
    · have hc := World.ownsRow.cells h (g := g) rfl j v hx
      by_cases h0 : j = 0
      · subst h0; simpa [Addr.add] using hc
      · simpa [Addr.add, h0] using hc
theorem Oc.keep (h : Oc z w e base A n c vs) (hb : Below w.heap.size w w') : Oc z w' e base A n c vs := by
  unfold Oc at h ⊢
  refine ⟨h.1, ?_⟩
  rcases h.2 with hn | ⟨g, cap, cur, hv, hbg, hg, rest⟩
  · exact .inl hn
  · have hlt : g < w.heap.size := by
      rcases Nat.lt_or_ge g w.heap.size with h' | h'
      · exact h'
      · rw [Array.getElem?_eq_none h'] at hg; cases hg
    exact .inr ⟨g, cap, cur, hv, hbg, (hb.block g hlt).trans hg, rest⟩
theorem Oc.drewN (h : Oc z w e base A n c vs) (k : Nat) : Oc z (w.drewN k) e base A n c vs := h
theorem Oc.alloc (h : Oc z w e base A n c vs) (o : Obj) : Oc z (w.alloc o) e base A n c vs := World.ownsRow.alloc h o
theorem Oc.mono {base' : Nat} (h : Oc z w e base A n c vs) (hb : base' ≤ base) : Oc z w e base' A n c vs := by
  unfold Oc at h ⊢
  refine ⟨h.1, ?_⟩
  rcases h.2 with hn | ⟨g, cap, cur, hv, hbg, rest⟩
  · exact .inl hn
  · exact .inr ⟨g, cap, cur, hv, by omega, rest⟩
/-- The row stays while what lies elsewhere is turned. -/
theorem Oc.other (h : Oc z w e base A n c vs) (hg : ∀ g, A = some ⟨g, 0, none⟩ → w'.heap[g]? = w.heap[g]?) : Oc z w' e base A n c vs := by
  unfold Oc at h ⊢
  refine ⟨h.1, ?_⟩
  rcases h.2 with hn | ⟨g, cap, cur, hv, hbg, hgg, rest⟩
  · exact .inl hn
  · injection hv with hA _ _
    exact .inr ⟨g, cap, cur, by rw [hA]; rename_i hc; subst hc; rfl, hbg, (hg g hA).trans hgg, rest⟩
end

/-- The facts on the types of a slice (t) and its elements (e): zero value, cells, bytes. -/
structure Sl (P : Program) (t e : TypeId) (zv : Value) (z y : Nat) : Prop where
  sl : P.underlying t = some (.slice e)
  inf : (P.info? e).map (fun i => (i.zero, i.size, i.bytes)) = some (some zv, z, y)
  zc : zv.cells.size = z
  zp : 0 < z

section
variable {P : Program} {t e : TypeId} {zv : Value} {z y : Nat}
/-- 'append(x, y...)', x a row of the call's own (or nil). -/
theorem Sl.append (u : Sl P t e zv z y) {w : World} {base n c B m d : Nat} {A D : Option Addr} {vs us : List Value} (ty : TypeId) (hown : Oc z w e base A n c vs) (hr : Rc z w B D m d us) (h1 : ∀ v ∈ us, v.oneCell' = true)
    (hsm : (n + m) * y ≤ 140737488355328) (hnm : n + m ≤ 140737488355328) (hbase : base ≤ w.heap.size) :
    ∃ A' c' w', (Builtin.append_ #[t, t] ty #[.slice A n c, .slice D m d]).run P w = .ok (.slice A' (n + m) c') w' ∧ Oc z w' e base A' (n + m) c' (vs ++ us) ∧ Below base w w' ∧ w.grownBy w' (Value.slice A n c).ownBlock := by
  obtain ⟨i, hi, hz0, hz1, hz2⟩ := info_parts u.inf
  obtain ⟨hl, h2, h3, h4⟩ := hr
  have key : ∀ ad : Addr, D = some ad → (∀ j v, us[j]? = some v → w.cell? (ad.add j) = some v) →
      ∃ A' c' w', (Builtin.append_ #[t, t] ty #[.slice A n c, .slice D m d]).run P w = .ok (.slice A' (n + m) c') w' ∧ Oc z w' e base A' (n + m) c' (vs ++ us) ∧ Below base w w' ∧ w.grownBy w' (Value.slice A n c).ownBlock := by
    intro ad hD hcell
    subst hD
    obtain ⟨v', w', hrun, ho, hg, _⟩ := run_append_own (P := P) w base t ty e i zv z y u.sl hi hz0 hz1 hz2 u.zc u.zp _ _ _ hown ad m d us hl hcell h1 (by simp only [maxLen]; omega) hsm hbase
    have hsh : ∃ A' c', v' = .slice A' (n + m) c' := by
      rcases ho.2 with ⟨hv, hn⟩ | ⟨g, cap, cur, hv, _⟩
      · exact ⟨_, _, by rw [hv, hn]⟩
      · exact ⟨_, _, hv⟩
    obtain ⟨A', c', hv⟩ := hsh
    subst hv
    exact ⟨A', c', w', hrun, ho, (Below.refl base w).grown hg hbase fun k hk => (World.ownsRow.lt hown k hk).1, hg⟩
  by_cases h0 : m = 0
  · subst h0
    obtain rfl : us = [] := List.eq_nil_of_length_eq_zero (by simpa using hl)
    cases hD : D with
    | some ad => rw [hD] at key; exact key ad rfl (fun j v hj => by simp at hj)
    | none =>
      refine ⟨A, c, w, ?_, by simpa using hown, Below.refl _ _, ⟨rfl, rfl, rfl, Nat.le_refl _, fun _ _ _ => rfl⟩⟩
      have hrun : (Builtin.append_ #[t, t] ty #[.slice A n c, .slice none 0 d]).run P w = .ok (.slice A n c) w := by
        rcases hown.2 with ⟨hv, hn⟩ | ⟨g, cap, cur, hv, _, _, hnc, _⟩
        · rw [hv]
          simp [Builtin.append_, run_underlying u.sl, sizeOf, typeInfo, hi, Builtin.lenOf, Builtin.firstCells]
        · rw [hv]
          simp [Builtin.append_, run_underlying u.sl, sizeOf, typeInfo, hi, Builtin.lenOf, Builtin.firstCells, hnc, storeCells]
      simpa using hrun
  · obtain ⟨b, off, hD, hb, hc⟩ := h4 (by omega)
    refine key _ hD fun j v hj => ?_
    have := hc j v hj
    by_cases hj0 : j = 0
    · subst hj0; simpa [Addr.add] using this
    · simpa [Addr.add, hj0] using this
/-- The same as an operation of the walk. -/
theorem Sl.opApp (u : Sl P t e zv z y) {w : World} {o : Oper} {a : Act} {K : Act → World → Prop} {Q : Exit → Act → World → Prop} (p q : Operand)
    (ho : o.op = .call { callee := .builtin .append, args := #[p, q], argTypes := #[t, t] })
    {base n c B m d : Nat} {A D : Option Addr} {vs us : List Value} (hx : a.eval p = .slice A n c) (hy : a.eval q = .slice D m d) (hown : Oc z w e base A n c vs) (hr : Rc z w B D m d us) (h1 : ∀ v ∈ us, v.oneCell' = true)
    (hsm : (n + m) * y ≤ 140737488355328) (hnm : n + m ≤ 140737488355328) (hbase : base ≤ w.heap.size)
    (h : ∀ A' c' w', Oc z w' e base A' (n + m) c' (vs ++ us) → Below base w w' → w.grownBy w' (Value.slice A n c).ownBlock → K (a.put o.dst (.slice A' (n + m) c')) w') : o.wp P a w K Q := by
  obtain ⟨A', c', w', hrun, h2, h3, h4⟩ := u.append o.type hown hr h1 hsm hnm hbase
  unfold Oper.wp execOp
  simp only [ho, resolve, invoke, builtin, Sem.run_bind, Sem.run_pure, Result.andThen_ok, List.map_toArray, List.map_cons, List.map_nil, hx, hy, hrun]
  exact h A' c' w' h2 h3 h4
theorem Sl.wpApp (u : Sl P t e zv z y) {w : World} {ops : Array Oper} {rest : List Oper} {o : Oper} {a : Act} {Q : Exit → Act → World → Prop} (hgd : o.guard = none) (p q : Operand)
    (ho : o.op = .call { callee := .builtin .append, args := #[p, q], argTypes := #[t, t] })
    {base n c B m d : Nat} {A D : Option Addr} {vs us : List Value} (hx : a.eval p = .slice A n c) (hy : a.eval q = .slice D m d) (hown : Oc z w e base A n c vs) (hr : Rc z w B D m d us) (h1 : ∀ v ∈ us, v.oneCell' = true)
    (hsm : (n + m) * y ≤ 140737488355328) (hnm : n + m ≤ 140737488355328) (hbase : base ≤ w.heap.size)
    (h : ∀ A' c' w', Oc z w' e base A' (n + m) c' (vs ++ us) → Below base w w' → w.grownBy w' (Value.slice A n c).ownBlock → wpList P ops Q rest (a.put o.dst (.slice A' (n + m) c')) w') : wpList P ops Q (o :: rest) a w :=
  wpList_plain hgd fun _ hK => u.opApp p q ho hx hy hown hr h1 hsm hnm hbase fun A' c' w' h2 h3 h4 => hK _ _ (h A' c' w' h2 h3 h4)
end
end Go.Proofs.YthkjhenaicbepaaDoor
