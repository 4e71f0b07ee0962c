/-
  Words for slices of bytes: what a slice reads as, a row of bytes that the call itself made, and the laws for append, copy, conversion and cutting in these words. No program is named: each law takes the type numbers' facts.
-/
import Derived.WalkKit
import Derived.WalkSpells
import Derived.WalkLawsBesides
import Derived.Lib.Hide
import Derived.Laws.IdiomStrings
import Derived.Laws.CopyOwn


import Derived.Lib.AppendStr
import Derived.Deep.Draws
namespace Go.Proofs.YthkjhenaicbepaaDoor
open Go.RowKit

/-- A number fits its kind. -/
def I64 (n : Int) : Prop := -9223372036854775808 ≤ n ∧ n ≤ 9223372036854775807
def U64 (n : Int) : Prop := 0 ≤ n ∧ n < 18446744073709551616

/-- The facts on the types '[]byte' (t), 'byte' (e), 'string' (s) of a program. -/
structure U8 (P : Program) (t e s : TypeId) : Prop where
  sl : P.underlying t = some (.slice e)
  el : P.underlying e = some (.int .u8)
  st : P.underlying s = some .string
  inf : (P.info? e).map (fun i => (i.zero, i.size, i.bytes)) = some (some (.int .u8 0), 1, 1)

/-- The cells of bytes. -/
def bvs (l : List UInt8) : List Value := l.map fun b => Value.int .u8 (b.toNat : Int)
theorem bvs_length (l : List UInt8) : (bvs l).length = l.length := by simp [bvs]
theorem bvs_append (l r : List UInt8) : bvs (l ++ r) = bvs l ++ bvs r := by simp [bvs]
theorem bvs_get (l : List UInt8) (j : Nat) (u : Value) (h : (bvs l)[j]? = some u) : ∃ x, l[j]? = some x ∧ u = .int .u8 (x.toNat : Int) := by
  simp only [bvs, List.getElem?_map, Option.map_eq_some_iff] at h
  obtain ⟨x, hx, rfl⟩ := h
  exact ⟨x, hx, rfl⟩
theorem bvs_one (l : List UInt8) : ∀ u ∈ bvs l, u.oneCell' = true := by
  intro u hu
  obtain ⟨_, _, rfl⟩ := List.mem_map.1 hu
  rfl

/-- The slice value '.slice A n c' reads as the bytes l in the world w; its cells lie below block B. -/
def Rb (w : World) (B : Nat) (A : Option Addr) (n c : Nat) (l : List UInt8) : Prop :=
  l.length = n ∧ n ≤ c ∧ c ≤ maxLen ∧
    (0 < n → ∃ b off, A = some ⟨b, off, none⟩ ∧ b < B ∧ ∀ j x, l[j]? = some x → w.cell? ⟨b, off + j, none⟩ = some (.int .u8 (x.toNat : Int)))

section
variable {w w' : World} {B B' n c : Nat} {A : Option Addr} {l : List UInt8}
theorem Rb.nil (w : World) (B : Nat) : Rb w B none 0 0 [] := ⟨rfl, Nat.le_refl _, by simp [maxLen], fun h => absurd h (by omega)⟩
theorem Rb.at_ {k : Nat} (h : Rb w B A n c l) (hk : k < n) :
    ∃ b off x, A = some ⟨b, off, none⟩ ∧ b < B ∧ w.cell? ⟨b, off + k, none⟩ = some (.int .u8 (x.toNat : Int)) ∧ l[k]? = some x ∧ l.drop k = x :: l.drop (k + 1) := by
  obtain ⟨h1, h2, h3, h4⟩ := h
  obtain ⟨b, off, rfl, hb, hc⟩ := h4 (by omega)
  have hl : k < l.length := by omega
  exact ⟨b, off, l[k], rfl, hb, hc k _ (List.getElem?_eq_getElem hl), List.getElem?_eq_getElem hl, List.drop_eq_getElem_cons hl⟩
theorem Rb.keep (h : Rb w B A n c l) (hk : ∀ p : Addr, p.block < B → w'.cell? p = w.cell? p) : Rb w' B A n c l :=
  ⟨h.1, h.2.1, h.2.2.1, fun hn => by
    obtain ⟨b, off, e, hb, hc⟩ := h.2.2.2 hn
    exact ⟨b, off, e, hb, fun j x hx => (hk _ hb).trans (hc j x hx)⟩⟩
theorem Rb.more (h : Rb w B A n c l) (hB : B ≤ B') : Rb w B' A n c l :=
  ⟨h.1, h.2.1, h.2.2.1, fun hn => by
    obtain ⟨b, off, e, hb, hc⟩ := h.2.2.2 hn
    exact ⟨b, off, e, by omega, hc⟩⟩
theorem Rb.below (h : Rb w B A n c l) (hb : Below B w w') : Rb w' B A n c l := h.keep fun _ hp => hb.cell hp
theorem Rb.drewN (h : Rb w B A n c l) (k : Nat) : Rb (w.drewN k) B A n c l := h
theorem Rb.alloc (h : Rb w B A n c l) (hB : B ≤ w.heap.size) (o : Obj) : Rb (w.alloc o) B A n c l := h.keep fun p hp => World.cell?_alloc_lt w o p (by omega)
theorem Rb.setCell (h : Rb w B A n c l) {p : Addr} (hB : B ≤ p.block) (u : Value) : Rb (w.setCell p u) B A n c l :=
  h.keep fun q hq => World.cell?_setCell_other w p q u (fun e => by subst e; omega)
theorem Rb.len (h : Rb w B A n c l) : l.length = n := h.1
/-- 's[k:]' -/
theorem Rb.cut (h : Rb w B A n c l) {k : Nat} (hk : k ≤ n) : Rb w B (if c = k then A else A.map (·.add k)) (n - k) (c - k) (l.drop k) := by
  obtain ⟨h1, h2, h3, h4⟩ := h
  refine ⟨by rw [List.length_drop, h1], by omega, by omega, fun hn => ?_⟩
  obtain ⟨b, off, rfl, hb, hc⟩ := h4 (by omega)
  rw [if_neg (by omega)]
  refine ⟨b, off + k, ?_, hb, fun j x hx => ?_⟩
  · by_cases h0 : k = 0
    · simp [Addr.add, h0]
    · simp [Addr.add, h0]
  · rw [List.getElem?_drop] at hx
    rw [Nat.add_assoc]
    exact hc _ x hx
/-- 's[:k]' -/
theorem Rb.head (h : Rb w B A n c l) {k : Nat} (hk : k ≤ n) : Rb w B A k c (l.take k) := by
  obtain ⟨h1, h2, h3, h4⟩ := h
  refine ⟨by rw [List.length_take]; omega, by omega, h3, fun hn => ?_⟩
  obtain ⟨b, off, rfl, hb, hc⟩ := h4 (by omega)
  refine ⟨b, off, rfl, hb, fun j x hx => ?_⟩
  rw [List.getElem?_take] at hx
  split at hx
  · exact hc _ x hx
  · cases hx
/-- 's[i:k]' -/
theorem Rb.mid (h : Rb w B A n c l) {i k : Nat} (hi : i ≤ k) (hk : k ≤ n) : Rb w B (if c = i then A else A.map (·.add i)) (k - i) (c - i) ((l.take k).drop i) :=
  (h.head hk).cut hi
/-- One new byte in a block of its own. -/
theorem Rb.one (w : World) (e : TypeId) (x : UInt8) : Rb (w.alloc (.cells #[.int .u8 (x.toNat : Int)] e)) (w.heap.size + 1) (some ⟨w.heap.size, 0, none⟩) 1 1 [x] :=
  ⟨rfl, Nat.le_refl _, by simp [maxLen], fun _ => ⟨_, _, rfl, by omega, fun j y hj => by
    match j, hj with
    | 0, hj => simp at hj; subst hj; simp⟩⟩
theorem Rb.oneI (w : World) (e : TypeId) (z : Int) (x : UInt8) (hz : z = (x.toNat : Int)) : Rb (w.alloc (.cells #[.int .u8 z] e)) (w.heap.size + 1) (some ⟨w.heap.size, 0, none⟩) 1 1 [x] := by
  subst hz
  exact Rb.one w e x
end

theorem ret_len {A : Option Addr} {c n m : Nat} (h : n = m) : Ending.returned (.slice A n c) = .returned (.slice A m c) := by rw [h]
theorem ret_int {k : IntKind} {a b : Int} (h : a = b) : Ending.returned (.int k a) = .returned (.int k b) := by rw [h]

/-- The slice '.slice A l.length c' is a row of the bytes l that was made from block 'base' on (or nil). -/
def Own (w : World) (e : TypeId) (base : Nat) (A : Option Addr) (c : Nat) (l : List UInt8) : Prop :=
  w.ownsRow base e 1 (.slice A l.length c) l.length (bvs l)

section
variable {w w' : World} {e : TypeId} {base c : Nat} {A : Option Addr} {l : List UInt8}
theorem Own.nil (w : World) (e : TypeId) (base : Nat) : Own w e base none 0 [] := World.ownsRow_nil w base e 1
theorem Own.made0 (w : World) (e : TypeId) : Own (w.alloc (.cells #[] e)) e w.heap.size (some ⟨w.heap.size, 0, none⟩) 0 [] :=
  World.ownsRow_lit w #[] 0 (Nat.le_refl _) (by simp [maxLen]) rfl
theorem Own.lit (w : World) (e : TypeId) (cs : Array Value) (l : List UInt8) (h : cs.toList = bvs l) (hl : l.length ≤ 1000000) : Own (w.alloc (.cells cs e)) e w.heap.size (some ⟨w.heap.size, 0, none⟩) l.length l := by
  have hs : cs.size = l.length * 1 := by rw [← Array.length_toList, h, bvs_length, Nat.mul_one]
  have := World.ownsRow_lit (base := w.heap.size) (e := e) (size := 1) w cs l.length (Nat.le_refl _) (by simp only [maxLen]; omega) hs
  rw [h] at this
  exact this
theorem Own.rb (h : Own w e base A c l) : Rb w w.heap.size A l.length c l := by
  unfold Own at h
  rcases h.2 with ⟨hv, hn⟩ | ⟨g, cap, cur, hv, hb, hg, hnc, hcm, hcs, ht⟩
  · injection hv with hA hl hc
    subst hA hc
    exact ⟨rfl, by omega, by simp [maxLen], fun h0 => by omega⟩
  · injection hv with hA hl hc
    subst hA hc
    refine ⟨rfl, hnc, hcm, fun _ => ⟨g, 0, rfl, ?_, fun j x hx => ?_⟩⟩
    · rcases Nat.lt_or_ge g w.heap.size with h' | h'
      · exact h'
      · rw [Array.getElem?_eq_none h'] at hg; cases hg
    · have hc := h.cells (g := g) rfl j (.int .u8 (x.toNat : Int)) (by simp [bvs, hx])
      by_cases h0 : j = 0
      · subst h0; simpa [Addr.add] using hc
      · simpa [Addr.add, h0] using hc
theorem Own.keep (h : Own w e base A c l) (hb : Below w.heap.size w w') : Own w' e base A c l := by
  unfold Own at h ⊢
  refine ⟨h.1, ?_⟩
  rcases h.2 with hn | ⟨g, cap, cur, hv, hbg, hg, rest⟩
  · exact .inl hn
  · have hlt : g < w.heap.size := by
      rcases Nat.lt_or_ge g w.heap.size with h' | h'
      · exact h'
      · rw [Array.getElem?_eq_none h'] at hg; cases hg
    exact .inr ⟨g, cap, cur, hv, hbg, (hb.block g hlt).trans hg, rest⟩
theorem Own.drewN (h : Own w e base A c l) (k : Nat) : Own (w.drewN k) e base A c l := h
theorem Own.alloc (h : Own w e base A c l) (o : Obj) : Own (w.alloc o) e base A c l := World.ownsRow.alloc h o
theorem Own.setLow (h : Own w e base A c l) {p : Addr} (hp : p.block < base) (v : Value) : Own (w.setCell p v) e base A c l := ownsRow_setCell_below h hp v
theorem Own.mono {base' : Nat} (h : Own w e base A c l) (hb : base' ≤ base) : Own w e base' A c l := by
  unfold Own at h ⊢
  refine ⟨h.1, ?_⟩
  rcases h.2 with hn | ⟨g, cap, cur, hv, hbg, rest⟩
  · exact .inl hn
  · exact .inr ⟨g, cap, cur, hv, by omega, rest⟩
/-- A byte of an own row, written. -/
theorem Own.put_ (h : Own w e base A c l) {k : Nat} (hk : k < l.length) (x : UInt8) :
    ∃ g, A = some ⟨g, 0, none⟩ ∧ base ≤ g ∧ g < w.heap.size ∧ w.frozen? ⟨g, k, none⟩ = false ∧ (∃ v, w.cell? ⟨g, k, none⟩ = some (.int .u8 v)) ∧
      Own (w.setCell ⟨g, k, none⟩ (.int .u8 (x.toNat : Int))) e base A c (l.set k x) := by
  unfold Own at h ⊢
  rcases h.2 with ⟨hv, hn⟩ | ⟨g, cap, cur, hv, hb, hg, hrest⟩
  · omega
  · injection hv with hA hl hc
    subst hA hc
    have hlt : g < w.heap.size := by
      rcases Nat.lt_or_ge g w.heap.size with h' | h'
      · exact h'
      · rw [Array.getElem?_eq_none h'] at hg; cases hg
    refine ⟨g, rfl, hb, hlt, h.frozenAt k, ?_, ?_⟩
    · have := h.cellAt k (by omega)
      rw [this]
      simp [bvs, hk]
    · have := (h.stored k (.int .u8 (x.toNat : Int))).1
      simp only [List.length_set]
      have e : bvs (l.set k x) = (bvs l).set k (.int .u8 (x.toNat : Int)) := by simp [bvs, List.map_set]
      rw [e]
      exact this
end

section
variable {P : Program} {t e s : TypeId}

/-- 'string(b)'. -/
theorem U8.conv (u : U8 P t e s) {w : World} {B n c : Nat} {A : Option Addr} {l : List UInt8} (h : Rb w B A n c l) :
    (convert t s (.slice A n c)).run P w = .ok (.string ⟨l.toArray⟩) w := by
  obtain ⟨h1, h2, h3, h4⟩ := h
  subst h1
  by_cases h0 : l.length = 0
  · obtain rfl : l = [] := List.eq_nil_of_length_eq_zero h0
    rw [run_convert_bytes_string w t s e A _ c u.sl u.el u.st]
    cases A with
    | none => simp [Conv.bytesToString]; rfl
    | some a =>
      have := run_convert_bytes_back (P := P) w t s e a c [] u.sl u.el u.st (fun j hj => by simp at hj)
      rw [run_convert_bytes_string w t s e (some a) _ c u.sl u.el u.st] at this
      exact this
  · obtain ⟨b, off, rfl, hb, hc⟩ := h4 (by omega)
    refine run_convert_bytes_back (P := P) w t s e ⟨b, off, none⟩ c l u.sl u.el u.st (fun j hj => ?_)
    have := hc j _ (List.getElem?_eq_getElem hj)
    by_cases hj0 : j = 0
    · subst hj0; simpa [Addr.add] using this
    · simpa [Addr.add, hj0] using this

/-- 'append(x, y...)', x a row of the call's own (or nil), y whatever slice of bytes. -/
theorem U8.append (u : U8 P t e s) {w : World} {base c B m d : Nat} {A D : Option Addr} {l r : List UInt8} (ty : TypeId) (hown : Own w e base A c l) (hr : Rb w B D m d r)
    (hsm : l.length + r.length ≤ 140737488355328) (hbase : base ≤ w.heap.size) :
    ∃ A' c' w', (Builtin.append_ #[t, t] ty #[.slice A l.length c, .slice D m d]).run P w = .ok (.slice A' (l ++ r).length c') w' ∧ Own w' e base A' c' (l ++ r) ∧ Below base w w' := by
  obtain ⟨i, hi, hz0, hz1, hz2⟩ := info_parts u.inf
  obtain ⟨h1, h2, h3, h4⟩ := hr
  subst h1
  have key : ∀ ad : Addr, D = some ad → (∀ j v, (bvs r)[j]? = some v → w.cell? (ad.add j) = some v) →
      ∃ A' c' w', (Builtin.append_ #[t, t] ty #[.slice A l.length c, .slice D r.length d]).run P w = .ok (.slice A' (l ++ r).length c') w' ∧ Own w' e base A' c' (l ++ r) ∧ Below base w w' := by
    intro ad hD hcell
    subst hD
    obtain ⟨v', w', hrun, ho, hg, _⟩ := run_append_own (P := P) w base t ty e i (.int .u8 0) 1 1 u.sl hi hz0 hz1 hz2 rfl (by omega) _ _ _ hown ad r.length d (bvs r) (by rw [bvs_length]; omega) hcell (bvs_one r) (by simp only [maxLen]; omega) (by omega) hbase
    have hsh : ∃ A' c', v' = .slice A' (l.length + r.length) c' := by
      rcases ho.2 with ⟨hv, hn⟩ | ⟨g, cap, cur, hv, _⟩
      · exact ⟨_, _, by rw [hv, hn]⟩
      · exact ⟨_, _, hv⟩
    obtain ⟨A', c', hv⟩ := hsh
    subst hv
    refine ⟨A', c', w', by rw [hrun, List.length_append], ?_, (Below.refl base w).grown hg hbase fun k hk => (World.ownsRow.lt hown k hk).1⟩
    unfold Own
    rw [List.length_append, bvs_append]
    exact ho
  by_cases h0 : r.length = 0
  · obtain rfl : r = [] := List.eq_nil_of_length_eq_zero h0
    cases hD : D with
    | some ad => rw [hD] at key; exact key ad rfl (fun j v hj => by simp [bvs] at hj)
    | none =>
      refine ⟨A, c, w, ?_, by simpa using hown, Below.refl _ _⟩
      have hrun : (Builtin.append_ #[t, t] ty #[.slice A l.length c, .slice none 0 d]).run P w = .ok (.slice A l.length c) w := by
        rcases hown.2 with ⟨hv, hn⟩ | ⟨g, cap, cur, hv, _, _, hnc, _⟩
        · rw [hv]
          simp [Builtin.append_, run_underlying u.sl, sizeOf, typeInfo, hi, Builtin.lenOf, Builtin.firstCells]
        · rw [hv]
          simp [Builtin.append_, run_underlying u.sl, sizeOf, typeInfo, hi, Builtin.lenOf, Builtin.firstCells, hnc, storeCells]
      simpa using hrun
  · obtain ⟨b, off, hD, hb, hc⟩ := h4 (by omega)
    refine key _ hD fun j v hj => ?_
    obtain ⟨x, hx, rfl⟩ := bvs_get r j v hj
    have := hc j x hx
    by_cases hj0 : j = 0
    · subst hj0; simpa [Addr.add] using this
    · simpa [Addr.add, hj0] using this
/-- The same as an operation of the walk. -/
theorem U8.opApp (u : U8 P t e s) {w : World} {o : Oper} {a : Act} {K : Act → World → Prop} {Q : Exit → Act → World → Prop} (x y : Operand)
    (ho : o.op = .call { callee := .builtin .append, args := #[x, y], argTypes := #[t, t] })
    {base c B m d : Nat} {A D : Option Addr} {l r : List UInt8} {n : Nat} (hn : n = l.length) (hx : a.eval x = .slice A n c) (hy : a.eval y = .slice D m d) (hown : Own w e base A c l) (hr : Rb w B D m d r)
    (hsm : l.length + r.length ≤ 140737488355328) (hbase : base ≤ w.heap.size)
    (h : ∀ A' c' w', Own w' e base A' c' (l ++ r) → Below base w w' → K (a.put o.dst (.slice A' (l ++ r).length c')) w') : o.wp P a w K Q := by
  subst hn
  obtain ⟨A', c', w', hrun, h2, h3⟩ := u.append o.type hown hr hsm hbase
  unfold Oper.wp execOp
  simp only [ho, resolve, invoke, builtin, Sem.run_bind, Sem.run_pure, Result.andThen_ok, List.map_toArray, List.map_cons, List.map_nil, hx, hy, hrun]
  exact h A' c' w' h2 h3
theorem U8.wpApp (u : U8 P t e s) {w : World} {ops : Array Oper} {rest : List Oper} {o : Oper} {a : Act} {Q : Exit → Act → World → Prop} (hgd : o.guard = none) (x y : Operand)
    (ho : o.op = .call { callee := .builtin .append, args := #[x, y], argTypes := #[t, t] })
    {base c B m d : Nat} {A D : Option Addr} {l r : List UInt8} (hx : a.eval x = .slice A l.length c) (hy : a.eval y = .slice D m d) (hown : Own w e base A c l) (hr : Rb w B D m d r)
    (hsm : l.length + r.length ≤ 140737488355328) (hbase : base ≤ w.heap.size)
    (h : ∀ A' c' w', Own w' e base A' c' (l ++ r) → Below base w w' → wpList P ops Q rest (a.put o.dst (.slice A' (l ++ r).length c')) w') : wpList P ops Q (o :: rest) a w :=
  wpList_plain hgd fun _ hK => u.opApp x y ho rfl hx hy hown hr hsm hbase fun A' c' w' h2 h3 => hK _ _ (h A' c' w' h2 h3)
/-- The same where the operation is guarded ('a && ..'). -/
theorem U8.wpAppW (u : U8 P t e s) {w : World} {ops : Array Oper} {rest : List Oper} {o : Oper} {a : Act} {Q : Exit → Act → World → Prop} (hw : Region.wanted o (yielded ops a.tmps) = true) (x y : Operand)
    (ho : o.op = .call { callee := .builtin .append, args := #[x, y], argTypes := #[t, t] })
    {base c B m d : Nat} {A D : Option Addr} {l r : List UInt8} {n : Nat} (hn : n = l.length) (hx : a.eval x = .slice A n c) (hy : a.eval y = .slice D m d) (hown : Own w e base A c l) (hr : Rb w B D m d r)
    (hsm : l.length + r.length ≤ 140737488355328) (hbase : base ≤ w.heap.size)
    (h : ∀ A' c' w', Own w' e base A' c' (l ++ r) → Below base w w' → wpList P ops Q rest (a.put o.dst (.slice A' (l ++ r).length c')) w') : wpList P ops Q (o :: rest) a w :=
  BigFrame.wpList_want hw fun _ hK => u.opApp x y ho hn hx hy hown hr hsm hbase fun A' c' w' h2 h3 => hK _ _ (h A' c' w' h2 h3)
/-- The same as a step of a region that draws its order, guarded or not. -/
theorem U8.stepAppW (u : U8 P t e s) {w : World} {ops : Array Oper} {o : Oper} {a : Act} {K : Act → World → Prop} {Q : Exit → Act → World → Prop} {E : Prop} (hw : Region.wanted o (yielded ops a.tmps) = true) (x y : Operand)
    (ho : o.op = .call { callee := .builtin .append, args := #[x, y], argTypes := #[t, t] })
    {base c B m d : Nat} {A D : Option Addr} {l r : List UInt8} {n : Nat} (hn : n = l.length) (hx : a.eval x = .slice A n c) (hy : a.eval y = .slice D m d) (hown : Own w e base A c l) (hr : Rb w B D m d r)
    (hsm : l.length + r.length ≤ 140737488355328) (hbase : base ≤ w.heap.size)
    (h : ∀ A' c' w', Own w' e base A' c' (l ++ r) → Below base w w' → K (a.put o.dst (.slice A' (l ++ r).length c')) w') :
    if Region.wanted o (yielded ops a.tmps) = true then Oper.wp P o a w K Q else E := by
  rw [if_pos hw]
  exact u.opApp x y ho hn hx hy hown hr hsm hbase h
theorem U8.stepApp (u : U8 P t e s) {w : World} {ops : Array Oper} {o : Oper} {a : Act} {K : Act → World → Prop} {Q : Exit → Act → World → Prop} {E : Prop} (hgd : o.guard = none) (x y : Operand)
    (ho : o.op = .call { callee := .builtin .append, args := #[x, y], argTypes := #[t, t] })
    {base c B m d : Nat} {A D : Option Addr} {l r : List UInt8} (hx : a.eval x = .slice A l.length c) (hy : a.eval y = .slice D m d) (hown : Own w e base A c l) (hr : Rb w B D m d r)
    (hsm : l.length + r.length ≤ 140737488355328) (hbase : base ≤ w.heap.size)
    (h : ∀ A' c' w', Own w' e base A' c' (l ++ r) → Below base w w' → K (a.put o.dst (.slice A' (l ++ r).length c')) w') :
    if Region.wanted o (yielded ops a.tmps) = true then Oper.wp P o a w K Q else E :=
  u.stepAppW (by simp [Region.wanted, hgd]) x y ho rfl hx hy hown hr hsm hbase h

/-- 'append(x, s...)', s a string. -/
theorem U8.wpAppStr (u : U8 P t e s) {w : World} {ops : Array Oper} {rest : List Oper} {o : Oper} {a : Act} {Q : Exit → Act → World → Prop} (hgd : o.guard = none) (x y : Operand)
    (ho : o.op = .call { callee := .builtin .append, args := #[x, y], argTypes := #[t, s] })
    {base c : Nat} {A : Option Addr} {l : List UInt8} {r : ByteArray} (hx : a.eval x = .slice A l.length c) (hy : a.eval y = .string r) (hown : Own w e base A c l)
    (hsm : l.length + r.size ≤ 140737488355328) (hbase : base ≤ w.heap.size)
    (h : ∀ A' c' w', Own w' e base A' c' (l ++ r.data.toList) → Below base w w' → wpList P ops Q rest (a.put o.dst (.slice A' (l ++ r.data.toList).length c')) w') : wpList P ops Q (o :: rest) a w := by
  obtain ⟨i, hi, hz0, hz1, hz2⟩ := info_parts u.inf
  have hrs : r.size = r.data.toList.length := by rw [Array.length_toList]; rfl
  refine Lib.wpList_append_own_string w hgd x y t s ho base e i u.sl u.st hi hz0 hz1 hz2 _ l.length (bvs l) hx hown r hy (by simp only [maxLen]; omega) hsm hbase fun v' w' ho hg _ => ?_
  have hsh : ∃ A' c', v' = .slice A' (l.length + r.size) c' := by
    rcases ho.2 with ⟨hv, hn⟩ | ⟨g, cap, cur, hv, _⟩
    · exact ⟨_, _, by rw [hv, hn]⟩
    · exact ⟨_, _, hv⟩
  obtain ⟨A', c', hv⟩ := hsh
  subst hv
  have hl : (l ++ r.data.toList).length = l.length + r.size := by rw [List.length_append, hrs]
  have hb := (Below.refl base w).grown hg hbase fun k hk => (World.ownsRow.lt hown k hk).1
  have := h A' c' w' (by
    unfold Own
    rw [hl, bvs_append]
    exact ho) hb
  rw [hl] at this
  exact this

theorem U8.sz (u : U8 P t e s) (W : World) : (sizeOf (P.elem t)).run P W = .ok 1 W := by
  obtain ⟨i, hi, hz0, hz1, hz2⟩ := info_parts u.inf
  have he : P.elem t = e := by simp [Program.elem, u.sl]
  simp [sizeOf, typeInfo, he, hi, hz1]
theorem U8.sl' (u : U8 P t e s) : P.underlying t = some (.slice (P.elem t)) := by
  have he : P.elem t = e := by simp [Program.elem, u.sl]
  rw [he]; exact u.sl

/-- 'b[k:]' as a run, its address under a name. -/
theorem U8.from_ (u : U8 P t e s) {w : World} {B n c : Nat} {A : Option Addr} {l : List UInt8} (h : Rb w B A n c l) {k : Nat} (hk : k ≤ n) (K : Int) (hK : K = (k : Int)) :
    ∃ D, (∀ W kd, (Instr.slice t (.slice A n c) (some (.int kd K)) none none).run P W = .ok (.slice D (n - k) (c - k)) W) ∧ Rb w B D (n - k) (c - k) (l.drop k) := by
  subst hK
  refine ⟨_, fun W kd => ?_, h.cut hk⟩
  rw [run_slice_l W t _ _ _ u.sl' kd (k : Int) (by omega) (by omega), u.sz]
  simp [Result.andThen, sliced]
/-- 'b[:k]' -/
theorem U8.upto_ (u : U8 P t e s) {w : World} {B n c : Nat} {A : Option Addr} {l : List UInt8} (h : Rb w B A n c l) {k : Nat} (hk : k ≤ n) (K : Int) (hK : K = (k : Int)) :
    ∃ D, (∀ W kd, (Instr.slice t (.slice A n c) none (some (.int kd K)) none).run P W = .ok (.slice D k c) W) ∧ Rb w B D k c (l.take k) := by
  subst hK
  refine ⟨A, fun W kd => ?_, h.head hk⟩
  rw [run_slice_h W t _ _ _ u.sl' kd (k : Int) (by omega) (by have := h.2.1; omega), u.sz]
  have := h.2.1
  by_cases h0 : c = 0
  · subst h0
    obtain rfl : k = 0 := by omega
    simp [Result.andThen, sliced]
  · simp [Result.andThen, sliced, h0]
    cases A <;> simp [Addr.add]
/-- 'b[i:k]' -/
theorem U8.mid_ (u : U8 P t e s) {w : World} {B n c : Nat} {A : Option Addr} {l : List UInt8} (h : Rb w B A n c l) {i k : Nat} (hi : i ≤ k) (hk : k ≤ n) (I K : Int) (hI : I = (i : Int)) (hK : K = (k : Int)) (m : Nat) (hm : m = k - i) :
    ∃ D, (∀ W, (Instr.slice t (.slice A n c) (some (.int .i64 I)) (some (.int .i64 K)) none).run P W = .ok (.slice D m (c - i)) W) ∧ Rb w B D m (c - i) ((l.take k).drop i) := by
  subst hI hK hm
  refine ⟨_, fun W => ?_, h.mid hi hk⟩
  rw [run_slice_lh W t _ _ _ u.sl' .i64 .i64 (i : Int) (k : Int) (by omega) (by omega) (by have := h.2.1; omega), u.sz]
  simp [Result.andThen, sliced]

/-- A row of c bytes 0. -/
def zrow (c : Nat) : Array Value := (List.replicate c (Value.int .u8 0)).toArray

theorem U8.make (u : U8 P t e s) (w : World) (n : Nat) (L C : Int) (c : Nat) (hL : L = (n : Int)) (hC : C = (c : Int)) (hn : n ≤ c) (hc : c ≤ 281474976710656) :
    (Instr.makeSlice t (.int .i64 L) (.int .i64 C)).run P w = .ok (.slice (some ⟨w.heap.size, 0, none⟩) n c) (w.alloc (.cells (zrow c) e)) := by
  subst hL hC
  obtain ⟨i, hi, hz0, hz1, hz2⟩ := info_parts u.inf
  have h := run_make (P := P) w t e i (.int .u8 0) u.sl hi hz0 .i64 .i64 (n : Int) (c : Int) (by omega) (by omega) (by rw [hz2]; omega) (by omega)
  simp only [Int.toNat_natCast, hz1, Nat.mul_one] at h
  rw [h]
  have e1 : madeCells (Value.int IntKind.u8 0).cells c = zrow c := by
    apply Array.toList_inj.1
    have hcells : (Value.int IntKind.u8 0).cells = #[.int .u8 0] := rfl
    rw [hcells, toList_madeCells_one]
    simp [zrow]
  rw [e1]

theorem own_zrow (w : World) (e : TypeId) (g n c : Nat) (hg : w.heap[g]? = some (.cells (zrow c) e (0, 0))) (hn : n ≤ c) (hc : c ≤ maxLen) :
    Own w e g (some ⟨g, 0, none⟩) c (List.replicate n 0) := by
  have hl : (List.replicate n (0 : UInt8)).length = n := List.length_replicate
  unfold Own
  rw [hl]
  refine ⟨by rw [bvs_length, hl]; omega, .inr ⟨g, c, _, rfl, Nat.le_refl _, hg, hn, hc, by simp [zrow], ?_⟩⟩
  simp [zrow, bvs, List.take_replicate]
  omega

/-- 'copy(out, b)', out a row that was just made, as long as b. -/
theorem U8.wpCopy (u : U8 P t e s) {w : World} {ops : Array Oper} {rest : List Oper} {o : Oper} {a : Act} {Q : Exit → Act → World → Prop} (hgd : o.guard = none) (x y : Operand)
    (ho : o.op = .call { callee := .builtin .copy, args := #[x, y], argTypes := #[t, t] })
    (g n c d B : Nat) (D : Option Addr) (l : List UInt8) (hx : a.eval x = .slice (some ⟨g, 0, none⟩) n c) (hy : a.eval y = .slice D n d)
    (hg : w.heap[g]? = some (.cells (zrow c) e (0, 0))) (hr : Rb w B D n d l) (hn : n ≤ c) (hc : c ≤ maxLen)
    (h : ∀ w', Own w' e g (some ⟨g, 0, none⟩) c l → Below g w w' → wpList P ops Q rest (a.put o.dst (goInt n)) w') : wpList P ops Q (o :: rest) a w := by
  obtain ⟨h1, h2, h3, h4⟩ := hr
  obtain ⟨i, hi, hz0, hz1, hz2⟩ := info_parts u.inf
  refine wpList_copy_splice hgd x y t t ho e u.sl (by rw [hi]; simp [hz1]) (some ⟨g, 0, none⟩) D n c n d hx hy g 0 (List.replicate c (.int .u8 0)) e hg (bvs l) (by rw [bvs_length, h1]; exact (Nat.min_self n).symm) ?_ (by rw [bvs_length, List.length_replicate]; omega) (bvs_one l) g w (Below.refl _ _) (Nat.le_refl _) fun w' hw' hb => ?_
  · intro hp
    rw [bvs_length, h1] at hp
    obtain ⟨b, off, rfl, hb, hcell⟩ := h4 hp
    refine ⟨rfl, _, rfl, fun j v hj => ?_⟩
    obtain ⟨z, hz, rfl⟩ := bvs_get l j v hj
    have := hcell j z hz
    by_cases hj0 : j = 0
    · subst hj0; simpa [Addr.add] using this
    · simpa [Addr.add, hj0] using this
  · have e1 : (bvs l).length = n := by rw [bvs_length, h1]
    rw [e1]
    refine h w' ?_ hb
    unfold Own
    rw [h1]
    refine ⟨by rw [bvs_length, h1]; omega, .inr ⟨g, c, _, rfl, Nat.le_refl _, hw'.out, hn, hc, ?_, ?_⟩⟩
    · simp [splice, e1]; omega
    · simp only [splice, List.take_zero, List.nil_append]
      rw [Nat.mul_one]
      exact List.take_left' e1
end
end Go.Proofs.YthkjhenaicbepaaDoor
