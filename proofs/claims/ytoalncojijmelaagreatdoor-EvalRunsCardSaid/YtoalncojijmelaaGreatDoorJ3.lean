/-
  Joined: Base G1 C32 By Gr.
-/
import Derived.WalkKit
import Derived.WalkSpells
import Derived.WalkLawsBesides
import Derived.Lib.Hide
import Derived.Laws.IdiomStrings
import Derived.Laws.CopyOwn
import Derived.Lib.AppendStr
import Derived.Deep.Draws
import Derived.Test.YtoalncojijmelaaGreatDoorJ5
import Derived.Laws.BitsAllLaws
import Derived.Laws.OwnMore
import Derived.Maps.AppendAt
/-
  Words for slices of bytes: what a slice reads as, a row of bytes that the call itself made, and the laws for append, copy, conversion and cutting in these words. No program is named: each law takes the type numbers' facts.
-/


namespace Go.Proofs.YtoalncojijmelaaGreatDoor
open Go.RowKit

/-- A number fits its kind. -/
def I64 (n : Int) : Prop := -9223372036854775808 ≤ n ∧ n ≤ 9223372036854775807
def U64 (n : Int) : Prop := 0 ≤ n ∧ n < 18446744073709551616

/-- The facts on the types '[]byte' (t), 'byte' (e), 'string' (s) of a program. -/
structure U8 (P : Program) (t e s : TypeId) : Prop where
  sl : P.underlying t = some (.slice e)
  el : P.underlying e = some (.int .u8)
  st : P.underlying s = some .string
  inf : (P.info? e).map (fun i => (i.zero, i.size, i.bytes)) = some (some (.int .u8 0), 1, 1)

/-- The cells of bytes. -/
def bvs (l : List UInt8) : List Value := l.map fun b => Value.int .u8 (b.toNat : Int)
theorem bvs_length (l : List UInt8) : (bvs l).length = l.length := by simp [bvs]
theorem bvs_append (l r : List UInt8) : bvs (l ++ r) = bvs l ++ bvs r := by simp [bvs]
theorem bvs_get (l : List UInt8) (j : Nat) (u : Value) (h : (bvs l)[j]? = some u) : ∃ x, l[j]? = some x ∧ u = .int .u8 (x.toNat : Int) := by
  simp only [bvs, List.getElem?_map, Option.map_eq_some_iff] at h
  obtain ⟨x, hx, rfl⟩ := h
  exact ⟨x, hx, rfl⟩
theorem bvs_one (l : List UInt8) : ∀ u ∈ bvs l, u.oneCell' = true := by
  intro u hu
  obtain ⟨_, _, rfl⟩ := List.mem_map.1 hu
  rfl

/-- The slice value '.slice A n c' reads as the bytes l in the world w; its cells lie below block B. -/
def Rb (w : World) (B : Nat) (A : Option Addr) (n c : Nat) (l : List UInt8) : Prop :=
  l.length = n ∧ n ≤ c ∧ c ≤ maxLen ∧
    (0 < n → ∃ b off, A = some ⟨b, off, none⟩ ∧ b < B ∧ ∀ j x, l[j]? = some x → w.cell? ⟨b, off + j, none⟩ = some (.int .u8 (x.toNat : Int)))

section
variable {w w' : World} {B B' n c : Nat} {A : Option Addr} {l : List UInt8}
theorem Rb.nil (w : World) (B : Nat) : Rb w B none 0 0 [] := ⟨rfl, Nat.le_refl _, by simp [maxLen], fun h => absurd h (by omega)⟩
theorem Rb.at_ {k : Nat} (h : Rb w B A n c l) (hk : k < n) :
    ∃ b off x, A = some ⟨b, off, none⟩ ∧ b < B ∧ w.cell? ⟨b, off + k, none⟩ = some (.int .u8 (x.toNat : Int)) ∧ l[k]? = some x ∧ l.drop k = x :: l.drop (k + 1) := by
  obtain ⟨h1, h2, h3, h4⟩ := h
  obtain ⟨b, off, rfl, hb, hc⟩ := h4 (by omega)
  have hl : k < l.length := by omega
  exact ⟨b, off, l[k], rfl, hb, hc k _ (List.getElem?_eq_getElem hl), List.getElem?_eq_getElem hl, List.drop_eq_getElem_cons hl⟩
theorem Rb.keep (h : Rb w B A n c l) (hk : ∀ p : Addr, p.block < B → w'.cell? p = w.cell? p) : Rb w' B A n c l :=
  ⟨h.1, h.2.1, h.2.2.1, fun hn => by
    obtain ⟨b, off, e, hb, hc⟩ := h.2.2.2 hn
    exact ⟨b, off, e, hb, fun j x hx => (hk _ hb).trans (hc j x hx)⟩⟩
theorem Rb.more (h : Rb w B A n c l) (hB : B ≤ B') : Rb w B' A n c l :=
  ⟨h.1, h.2.1, h.2.2.1, fun hn => by
    obtain ⟨b, off, e, hb, hc⟩ := h.2.2.2 hn
    exact ⟨b, off, e, by omega, hc⟩⟩
theorem Rb.below (h : Rb w B A n c l) (hb : Below B w w') : Rb w' B A n c l := h.keep fun _ hp => hb.cell hp
theorem Rb.drewN (h : Rb w B A n c l) (k : Nat) : Rb (w.drewN k) B A n c l := h
theorem Rb.alloc (h : Rb w B A n c l) (hB : B ≤ w.heap.size) (o : Obj) : Rb (w.alloc o) B A n c l := h.keep fun p hp => World.cell?_alloc_lt w o p (by omega)
theorem Rb.setCell (h : Rb w B A n c l) {p : Addr} (hB : B ≤ p.block) (u : Value) : Rb (w.setCell p u) B A n c l :=
  h.keep fun q hq => World.cell?_setCell_other w p q u (fun e => by subst e; omega)
theorem Rb.len (h : Rb w B A n c l) : l.length = n := h.1
/-- 's[k:]' -/
theorem Rb.cut (h : Rb w B A n c l) {k : Nat} (hk : k ≤ n) : Rb w B (if c = k then A else A.map (·.add k)) (n - k) (c - k) (l.drop k) := by
  obtain ⟨h1, h2, h3, h4⟩ := h
  refine ⟨by rw [List.length_drop, h1], by omega, by omega, fun hn => ?_⟩
  obtain ⟨b, off, rfl, hb, hc⟩ := h4 (by omega)
  rw [if_neg (by omega)]
  refine ⟨b, off + k, ?_, hb, fun j x hx => ?_⟩
  · by_cases h0 : k = 0
    · simp [Addr.add, h0]
    · simp [Addr.add, h0]
  · rw [List.getElem?_drop] at hx
    rw [Nat.add_assoc]
    exact hc _ x hx
/-- 's[:k]' -/
theorem Rb.head (h : Rb w B A n c l) {k : Nat} (hk : k ≤ n) : Rb w B A k c (l.take k) := by
  obtain ⟨h1, h2, h3, h4⟩ := h
  refine ⟨by rw [List.length_take]; omega, by omega, h3, fun hn => ?_⟩
  obtain ⟨b, off, rfl, hb, hc⟩ := h4 (by omega)
  refine ⟨b, off, rfl, hb, fun j x hx => ?_⟩
  rw [List.getElem?_take] at hx
  split at hx
  · exact hc _ x hx
  · cases hx
/-- 's[i:k]' -/
theorem Rb.mid (h : Rb w B A n c l) {i k : Nat} (hi : i ≤ k) (hk : k ≤ n) : Rb w B (if c = i then A else A.map (·.add i)) (k - i) (c - i) ((l.take k).drop i) :=
  (h.head hk).cut hi
/-- One new byte in a block of its own. -/
theorem Rb.one (w : World) (e : TypeId) (x : UInt8) : Rb (w.alloc (.cells #[.int .u8 (x.toNat : Int)] e)) (w.heap.size + 1) (some ⟨w.heap.size, 0, none⟩) 1 1 [x] :=
  ⟨rfl, Nat.le_refl _, by simp [maxLen], fun _ => ⟨_, _, rfl, by omega, fun j y hj => by
    match j, hj with
    | 0, hj => simp at hj; subst hj; simp⟩⟩
theorem Rb.oneI (w : World) (e : TypeId) (z : Int) (x : UInt8) (hz : z = (x.toNat : Int)) : Rb (w.alloc (.cells #[.int .u8 z] e)) (w.heap.size + 1) (some ⟨w.heap.size, 0, none⟩) 1 1 [x] := by
  subst hz
  exact Rb.one w e x
end

theorem ret_len {A : Option Addr} {c n m : Nat} (h : n = m) : Ending.returned (.slice A n c) = .returned (.slice A m c) := by rw [h]
theorem ret_int {k : IntKind} {a b : Int} (h : a = b) : Ending.returned (.int k a) = .returned (.int k b) := by rw [h]

/-- The slice '.slice A l.length c' is a row of the bytes l that was made from block 'base' on (or nil). -/
def Own (w : World) (e : TypeId) (base : Nat) (A : Option Addr) (c : Nat) (l : List UInt8) : Prop :=
  w.ownsRow base e 1 (.slice A l.length c) l.length (bvs l)

section
variable {w w' : World} {e : TypeId} {base c : Nat} {A : Option Addr} {l : List UInt8}
theorem Own.nil (w : World) (e : TypeId) (base : Nat) : Own w e base none 0 [] := World.ownsRow_nil w base e 1
theorem Own.made0 (w : World) (e : TypeId) : Own (w.alloc (.cells #[] e)) e w.heap.size (some ⟨w.heap.size, 0, none⟩) 0 [] :=
  World.ownsRow_lit w #[] 0 (Nat.le_refl _) (by simp [maxLen]) rfl
theorem Own.lit (w : World) (e : TypeId) (cs : Array Value) (l : List UInt8) (h : cs.toList = bvs l) (hl : l.length ≤ 1000000) : Own (w.alloc (.cells cs e)) e w.heap.size (some ⟨w.heap.size, 0, none⟩) l.length l := by
  have hs : cs.size = l.length * 1 := by rw [← Array.length_toList, h, bvs_length, Nat.mul_one]
  have := World.ownsRow_lit (base := w.heap.size) (e := e) (size := 1) w cs l.length (Nat.le_refl _) (by simp only [maxLen]; omega) hs
  rw [h] at this
  exact this
theorem Own.rb (h : Own w e base A c l) : Rb w w.heap.size A l.length c l := by
  unfold Own at h
  rcases h.2 with ⟨hv, hn⟩ | ⟨g, cap, cur, hv, hb, hg, hnc, hcm, hcs, ht⟩
  · injection hv with hA hl hc
    subst hA hc
    exact ⟨rfl, by omega, by simp [maxLen], fun h0 => by omega⟩
  · injection hv with hA hl hc
    subst hA hc
    refine ⟨rfl, hnc, hcm, fun _ => ⟨g, 0, rfl, ?_, fun j x hx => ?_⟩⟩
    · rcases Nat.lt_or_ge g w.heap.size with h' | h'
      · exact h'
      · rw [Array.getElem?_eq_none h'] at hg; cases hg
    · have hc := h.cells (g := g) rfl j (.int .u8 (x.toNat : Int)) (by simp [bvs, hx])
      by_cases h0 : j = 0
      · subst h0; simpa [Addr.add] using hc
      · simpa [Addr.add, h0] using hc
theorem Own.keep (h : Own w e base A c l) (hb : Below w.heap.size w w') : Own w' e base A c l := by
  unfold Own at h ⊢
  refine ⟨h.1, ?_⟩
  rcases h.2 with hn | ⟨g, cap, cur, hv, hbg, hg, rest⟩
  · exact .inl hn
  · have hlt : g < w.heap.size := by
      rcases Nat.lt_or_ge g w.heap.size with h' | h'
      · exact h'
      · rw [Array.getElem?_eq_none h'] at hg; cases hg
    exact .inr ⟨g, cap, cur, hv, hbg, (hb.block g hlt).trans hg, rest⟩
theorem Own.drewN (h : Own w e base A c l) (k : Nat) : Own (w.drewN k) e base A c l := h
theorem Own.alloc (h : Own w e base A c l) (o : Obj) : Own (w.alloc o) e base A c l := World.ownsRow.alloc h o
theorem Own.setLow (h : Own w e base A c l) {p : Addr} (hp : p.block < base) (v : Value) : Own (w.setCell p v) e base A c l := ownsRow_setCell_below h hp v
theorem Own.mono {base' : Nat} (h : Own w e base A c l) (hb : base' ≤ base) : Own w e base' A c l := by
  unfold Own at h ⊢
  refine ⟨h.1, ?_⟩
  rcases h.2 with hn | ⟨g, cap, cur, hv, hbg, rest⟩
  · exact .inl hn
  · exact .inr ⟨g, cap, cur, hv, by omega, rest⟩
/-- A byte of an own row, written. -/
theorem Own.put_ (h : Own w e base A c l) {k : Nat} (hk : k < l.length) (x : UInt8) :
    ∃ g, A = some ⟨g, 0, none⟩ ∧ base ≤ g ∧ g < w.heap.size ∧ w.frozen? ⟨g, k, none⟩ = false ∧ (∃ v, w.cell? ⟨g, k, none⟩ = some (.int .u8 v)) ∧
      Own (w.setCell ⟨g, k, none⟩ (.int .u8 (x.toNat : Int))) e base A c (l.set k x) := by
  unfold Own at h ⊢
  rcases h.2 with ⟨hv, hn⟩ | ⟨g, cap, cur, hv, hb, hg, hrest⟩
  · omega
  · injection hv with hA hl hc
    subst hA hc
    have hlt : g < w.heap.size := by
      rcases Nat.lt_or_ge g w.heap.size with h' | h'
      · exact h'
      · rw [Array.getElem?_eq_none h'] at hg; cases hg
    refine ⟨g, rfl, hb, hlt, h.frozenAt k, ?_, ?_⟩
    · have := h.cellAt k (by omega)
      rw [this]
      simp [bvs, hk]
    · have := (h.stored k (.int .u8 (x.toNat : Int))).1
      simp only [List.length_set]
      have e : bvs (l.set k x) = (bvs l).set k (.int .u8 (x.toNat : Int)) := by simp [bvs, List.map_set]
      rw [e]
      exact this
end

section
variable {P : Program} {t e s : TypeId}

/-- 'string(b)'. -/
theorem U8.conv (u : U8 P t e s) {w : World} {B n c : Nat} {A : Option Addr} {l : List UInt8} (h : Rb w B A n c l) :
    (convert t s (.slice A n c)).run P w = .ok (.string ⟨l.toArray⟩) w := by
  obtain ⟨h1, h2, h3, h4⟩ := h
  subst h1
  by_cases h0 : l.length = 0
  · obtain rfl : l = [] := List.eq_nil_of_length_eq_zero h0
    rw [run_convert_bytes_string w t s e A _ c u.sl u.el u.st]
    cases A with
    | none => simp [Conv.bytesToString]; rfl
    | some a =>
      have := run_convert_bytes_back (P := P) w t s e a c [] u.sl u.el u.st (fun j hj => by simp at hj)
      rw [run_convert_bytes_string w t s e (some a) _ c u.sl u.el u.st] at this
      exact this
  · obtain ⟨b, off, rfl, hb, hc⟩ := h4 (by omega)
    refine run_convert_bytes_back (P := P) w t s e ⟨b, off, none⟩ c l u.sl u.el u.st (fun j hj => ?_)
    have := hc j _ (List.getElem?_eq_getElem hj)
    by_cases hj0 : j = 0
    · subst hj0; simpa [Addr.add] using this
    · simpa [Addr.add, hj0] using this

/-- 'append(x, y...)', x a row of the call's own (or nil), y whatever slice of bytes. -/
theorem U8.append (u : U8 P t e s) {w : World} {base c B m d : Nat} {A D : Option Addr} {l r : List UInt8} (ty : TypeId) (hown : Own w e base A c l) (hr : Rb w B D m d r)
    (hsm : l.length + r.length ≤ 140737488355328) (hbase : base ≤ w.heap.size) :
    ∃ A' c' w', (Builtin.append_ #[t, t] ty #[.slice A l.length c, .slice D m d]).run P w = .ok (.slice A' (l ++ r).length c') w' ∧ Own w' e base A' c' (l ++ r) ∧ Below base w w' := by
  obtain ⟨i, hi, hz0, hz1, hz2⟩ := info_parts u.inf
  obtain ⟨h1, h2, h3, h4⟩ := hr
  subst h1
  have key : ∀ ad : Addr, D = some ad → (∀ j v, (bvs r)[j]? = some v → w.cell? (ad.add j) = some v) →
      ∃ A' c' w', (Builtin.append_ #[t, t] ty #[.slice A l.length c, .slice D r.length d]).run P w = .ok (.slice A' (l ++ r).length c') w' ∧ Own w' e base A' c' (l ++ r) ∧ Below base w w' := by
    intro ad hD hcell
    subst hD
    obtain ⟨v', w', hrun, ho, hg, _⟩ := run_append_own (P := P) w base t ty e i (.int .u8 0) 1 1 u.sl hi hz0 hz1 hz2 rfl (by omega) _ _ _ hown ad r.length d (bvs r) (by rw [bvs_length]; omega) hcell (bvs_one r) (by simp only [maxLen]; omega) (by omega) hbase
    have hsh : ∃ A' c', v' = .slice A' (l.length + r.length) c' := by
      rcases ho.2 with ⟨hv, hn⟩ | ⟨g, cap, cur, hv, _⟩
      · exact ⟨_, _, by rw [hv, hn]⟩
      · exact ⟨_, _, hv⟩
    obtain ⟨A', c', hv⟩ := hsh
    subst hv
    refine ⟨A', c', w', by rw [hrun, List.length_append], ?_, (Below.refl base w).grown hg hbase fun k hk => (World.ownsRow.lt hown k hk).1⟩
    unfold Own
    rw [List.length_append, bvs_append]
    exact ho
  by_cases h0 : r.length = 0
  · obtain rfl : r = [] := List.eq_nil_of_length_eq_zero h0
    cases hD : D with
    | some ad => rw [hD] at key; exact key ad rfl (fun j v hj => by simp [bvs] at hj)
    | none =>
      refine ⟨A, c, w, ?_, by simpa using hown, Below.refl _ _⟩
      have hrun : (Builtin.append_ #[t, t] ty #[.slice A l.length c, .slice none 0 d]).run P w = .ok (.slice A l.length c) w := by
        rcases hown.2 with ⟨hv, hn⟩ | ⟨g, cap, cur, hv, _, _, hnc, _⟩
        · rw [hv]
          simp [Builtin.append_, run_underlying u.sl, sizeOf, typeInfo, hi, Builtin.lenOf, Builtin.firstCells]
        · rw [hv]
          simp [Builtin.append_, run_underlying u.sl, sizeOf, typeInfo, hi, Builtin.lenOf, Builtin.firstCells, hnc, storeCells]
      simpa using hrun
  · obtain ⟨b, off, hD, hb, hc⟩ := h4 (by omega)
    refine key _ hD fun j v hj => ?_
    obtain ⟨x, hx, rfl⟩ := bvs_get r j v hj
    have := hc j x hx
    by_cases hj0 : j = 0
    · subst hj0; simpa [Addr.add] using this
    · simpa [Addr.add, hj0] using this
/-- The same as an operation of the walk. -/
theorem U8.opApp (u : U8 P t e s) {w : World} {o : Oper} {a : Act} {K : Act → World → Prop} {Q : Exit → Act → World → Prop} (x y : Operand)
    (ho : o.op = .call { callee := .builtin .append, args := #[x, y], argTypes := #[t, t] })
    {base c B m d : Nat} {A D : Option Addr} {l r : List UInt8} {n : Nat} (hn : n = l.length) (hx : a.eval x = .slice A n c) (hy : a.eval y = .slice D m d) (hown : Own w e base A c l) (hr : Rb w B D m d r)
    (hsm : l.length + r.length ≤ 140737488355328) (hbase : base ≤ w.heap.size)
    (h : ∀ A' c' w', Own w' e base A' c' (l ++ r) → Below base w w' → K (a.put o.dst (.slice A' (l ++ r).length c')) w') : o.wp P a w K Q := by
  subst hn
  obtain ⟨A', c', w', hrun, h2, h3⟩ := u.append o.type hown hr hsm hbase
  unfold Oper.wp execOp
  simp only [ho, resolve, invoke, builtin, Sem.run_bind, Sem.run_pure, Result.andThen_ok, List.map_toArray, List.map_cons, List.map_nil, hx, hy, hrun]
  exact h A' c' w' h2 h3
theorem U8.wpApp (u : U8 P t e s) {w : World} {ops : Array Oper} {rest : List Oper} {o : Oper} {a : Act} {Q : Exit → Act → World → Prop} (hgd : o.guard = none) (x y : Operand)
    (ho : o.op = .call { callee := .builtin .append, args := #[x, y], argTypes := #[t, t] })
    {base c B m d : Nat} {A D : Option Addr} {l r : List UInt8} (hx : a.eval x = .slice A l.length c) (hy : a.eval y = .slice D m d) (hown : Own w e base A c l) (hr : Rb w B D m d r)
    (hsm : l.length + r.length ≤ 140737488355328) (hbase : base ≤ w.heap.size)
    (h : ∀ A' c' w', Own w' e base A' c' (l ++ r) → Below base w w' → wpList P ops Q rest (a.put o.dst (.slice A' (l ++ r).length c')) w') : wpList P ops Q (o :: rest) a w :=
  wpList_plain hgd fun _ hK => u.opApp x y ho rfl hx hy hown hr hsm hbase fun A' c' w' h2 h3 => hK _ _ (h A' c' w' h2 h3)
/-- The same where the operation is guarded ('a && ..'). -/
theorem U8.wpAppW (u : U8 P t e s) {w : World} {ops : Array Oper} {rest : List Oper} {o : Oper} {a : Act} {Q : Exit → Act → World → Prop} (hw : Region.wanted o (yielded ops a.tmps) = true) (x y : Operand)
    (ho : o.op = .call { callee := .builtin .append, args := #[x, y], argTypes := #[t, t] })
    {base c B m d : Nat} {A D : Option Addr} {l r : List UInt8} {n : Nat} (hn : n = l.length) (hx : a.eval x = .slice A n c) (hy : a.eval y = .slice D m d) (hown : Own w e base A c l) (hr : Rb w B D m d r)
    (hsm : l.length + r.length ≤ 140737488355328) (hbase : base ≤ w.heap.size)
    (h : ∀ A' c' w', Own w' e base A' c' (l ++ r) → Below base w w' → wpList P ops Q rest (a.put o.dst (.slice A' (l ++ r).length c')) w') : wpList P ops Q (o :: rest) a w :=
  BigFrame.wpList_want hw fun _ hK => u.opApp x y ho hn hx hy hown hr hsm hbase fun A' c' w' h2 h3 => hK _ _ (h A' c' w' h2 h3)
/-- The same as a step of a region that draws its order, guarded or not. -/
theorem U8.stepAppW (u : U8 P t e s) {w : World} {ops : Array Oper} {o : Oper} {a : Act} {K : Act → World → Prop} {Q : Exit → Act → World → Prop} {E : Prop} (hw : Region.wanted o (yielded ops a.tmps) = true) (x y : Operand)
    (ho : o.op = .call { callee := .builtin .append, args := #[x, y], argTypes := #[t, t] })
    {base c B m d : Nat} {A D : Option Addr} {l r : List UInt8} {n : Nat} (hn : n = l.length) (hx : a.eval x = .slice A n c) (hy : a.eval y = .slice D m d) (hown : Own w e base A c l) (hr : Rb w B D m d r)
    (hsm : l.length + r.length ≤ 140737488355328) (hbase : base ≤ w.heap.size)
    (h : ∀ A' c' w', Own w' e base A' c' (l ++ r) → Below base w w' → K (a.put o.dst (.slice A' (l ++ r).length c')) w') :
    if Region.wanted o (yielded ops a.tmps) = true then Oper.wp P o a w K Q else E := by
  rw [if_pos hw]
  exact u.opApp x y ho hn hx hy hown hr hsm hbase h
theorem U8.stepApp (u : U8 P t e s) {w : World} {ops : Array Oper} {o : Oper} {a : Act} {K : Act → World → Prop} {Q : Exit → Act → World → Prop} {E : Prop} (hgd : o.guard = none) (x y : Operand)
    (ho : o.op = .call { callee := .builtin .append, args := #[x, y], argTypes := #[t, t] })
    {base c B m d : Nat} {A D : Option Addr} {l r : List UInt8} (hx : a.eval x = .slice A l.length c) (hy : a.eval y = .slice D m d) (hown : Own w e base A c l) (hr : Rb w B D m d r)
    (hsm : l.length + r.length ≤ 140737488355328) (hbase : base ≤ w.heap.size)
    (h : ∀ A' c' w', Own w' e base A' c' (l ++ r) → Below base w w' → K (a.put o.dst (.slice A' (l ++ r).length c')) w') :
    if Region.wanted o (yielded ops a.tmps) = true then Oper.wp P o a w K Q else E :=
  u.stepAppW (by simp [Region.wanted, hgd]) x y ho rfl hx hy hown hr hsm hbase h

/-- 'append(x, s...)', s a string. -/
theorem U8.wpAppStr (u : U8 P t e s) {w : World} {ops : Array Oper} {rest : List Oper} {o : Oper} {a : Act} {Q : Exit → Act → World → Prop} (hgd : o.guard = none) (x y : Operand)
    (ho : o.op = .call { callee := .builtin .append, args := #[x, y], argTypes := #[t, s] })
    {base c : Nat} {A : Option Addr} {l : List UInt8} {r : ByteArray} (hx : a.eval x = .slice A l.length c) (hy : a.eval y = .string r) (hown : Own w e base A c l)
    (hsm : l.length + r.size ≤ 140737488355328) (hbase : base ≤ w.heap.size)
    (h : ∀ A' c' w', Own w' e base A' c' (l ++ r.data.toList) → Below base w w' → wpList P ops Q rest (a.put o.dst (.slice A' (l ++ r.data.toList).length c')) w') : wpList P ops Q (o :: rest) a w := by
  obtain ⟨i, hi, hz0, hz1, hz2⟩ := info_parts u.inf
  have hrs : r.size = r.data.toList.length := by rw [Array.length_toList]; rfl
  refine Lib.wpList_append_own_string w hgd x y t s ho base e i u.sl u.st hi hz0 hz1 hz2 _ l.length (bvs l) hx hown r hy (by simp only [maxLen]; omega) hsm hbase fun v' w' ho hg _ => ?_
  have hsh : ∃ A' c', v' = .slice A' (l.length + r.size) c' := by
    rcases ho.2 with ⟨hv, hn⟩ | ⟨g, cap, cur, hv, _⟩
    · exact ⟨_, _, by rw [hv, hn]⟩
    · exact ⟨_, _, hv⟩
  obtain ⟨A', c', hv⟩ := hsh
  subst hv
  have hl : (l ++ r.data.toList).length = l.length + r.size := by rw [List.length_append, hrs]
  have hb := (Below.refl base w).grown hg hbase fun k hk => (World.ownsRow.lt hown k hk).1
  have := h A' c' w' (by
    unfold Own
    rw [hl, bvs_append]
    exact ho) hb
  rw [hl] at this
  exact this

theorem U8.sz (u : U8 P t e s) (W : World) : (sizeOf (P.elem t)).run P W = .ok 1 W := by
  obtain ⟨i, hi, hz0, hz1, hz2⟩ := info_parts u.inf
  have he : P.elem t = e := by simp [Program.elem, u.sl]
  simp [sizeOf, typeInfo, he, hi, hz1]
theorem U8.sl' (u : U8 P t e s) : P.underlying t = some (.slice (P.elem t)) := by
  have he : P.elem t = e := by simp [Program.elem, u.sl]
  rw [he]; exact u.sl

/-- 'b[k:]' as a run, its address under a name. -/
theorem U8.from_ (u : U8 P t e s) {w : World} {B n c : Nat} {A : Option Addr} {l : List UInt8} (h : Rb w B A n c l) {k : Nat} (hk : k ≤ n) (K : Int) (hK : K = (k : Int)) :
    ∃ D, (∀ W kd, (Instr.slice t (.slice A n c) (some (.int kd K)) none none).run P W = .ok (.slice D (n - k) (c - k)) W) ∧ Rb w B D (n - k) (c - k) (l.drop k) := by
  subst hK
  refine ⟨_, fun W kd => ?_, h.cut hk⟩
  rw [run_slice_l W t _ _ _ u.sl' kd (k : Int) (by omega) (by omega), u.sz]
  simp [Result.andThen, sliced]
/-- 'b[:k]' -/
theorem U8.upto_ (u : U8 P t e s) {w : World} {B n c : Nat} {A : Option Addr} {l : List UInt8} (h : Rb w B A n c l) {k : Nat} (hk : k ≤ n) (K : Int) (hK : K = (k : Int)) :
    ∃ D, (∀ W kd, (Instr.slice t (.slice A n c) none (some (.int kd K)) none).run P W = .ok (.slice D k c) W) ∧ Rb w B D k c (l.take k) := by
  subst hK
  refine ⟨A, fun W kd => ?_, h.head hk⟩
  rw [run_slice_h W t _ _ _ u.sl' kd (k : Int) (by omega) (by have := h.2.1; omega), u.sz]
  have := h.2.1
  by_cases h0 : c = 0
  · subst h0
    obtain rfl : k = 0 := by omega
    simp [Result.andThen, sliced]
  · simp [Result.andThen, sliced, h0]
    cases A <;> simp [Addr.add]
/-- 'b[i:k]' -/
theorem U8.mid_ (u : U8 P t e s) {w : World} {B n c : Nat} {A : Option Addr} {l : List UInt8} (h : Rb w B A n c l) {i k : Nat} (hi : i ≤ k) (hk : k ≤ n) (I K : Int) (hI : I = (i : Int)) (hK : K = (k : Int)) (m : Nat) (hm : m = k - i) :
    ∃ D, (∀ W, (Instr.slice t (.slice A n c) (some (.int .i64 I)) (some (.int .i64 K)) none).run P W = .ok (.slice D m (c - i)) W) ∧ Rb w B D m (c - i) ((l.take k).drop i) := by
  subst hI hK hm
  refine ⟨_, fun W => ?_, h.mid hi hk⟩
  rw [run_slice_lh W t _ _ _ u.sl' .i64 .i64 (i : Int) (k : Int) (by omega) (by omega) (by have := h.2.1; omega), u.sz]
  simp [Result.andThen, sliced]

/-- A row of c bytes 0. -/
def zrow (c : Nat) : Array Value := (List.replicate c (Value.int .u8 0)).toArray

theorem U8.make (u : U8 P t e s) (w : World) (n : Nat) (L C : Int) (c : Nat) (hL : L = (n : Int)) (hC : C = (c : Int)) (hn : n ≤ c) (hc : c ≤ 281474976710656) :
    (Instr.makeSlice t (.int .i64 L) (.int .i64 C)).run P w = .ok (.slice (some ⟨w.heap.size, 0, none⟩) n c) (w.alloc (.cells (zrow c) e)) := by
  subst hL hC
  obtain ⟨i, hi, hz0, hz1, hz2⟩ := info_parts u.inf
  have h := run_make (P := P) w t e i (.int .u8 0) u.sl hi hz0 .i64 .i64 (n : Int) (c : Int) (by omega) (by omega) (by rw [hz2]; omega) (by omega)
  simp only [Int.toNat_natCast, hz1, Nat.mul_one] at h
  rw [h]
  have e1 : madeCells (Value.int IntKind.u8 0).cells c = zrow c := by
    apply Array.toList_inj.1
    have hcells : (Value.int IntKind.u8 0).cells = #[.int .u8 0] := rfl
    rw [hcells, toList_madeCells_one]
    simp [zrow]
  rw [e1]

theorem own_zrow (w : World) (e : TypeId) (g n c : Nat) (hg : w.heap[g]? = some (.cells (zrow c) e (0, 0))) (hn : n ≤ c) (hc : c ≤ maxLen) :
    Own w e g (some ⟨g, 0, none⟩) c (List.replicate n 0) := by
  have hl : (List.replicate n (0 : UInt8)).length = n := List.length_replicate
  unfold Own
  rw [hl]
  refine ⟨by rw [bvs_length, hl]; omega, .inr ⟨g, c, _, rfl, Nat.le_refl _, hg, hn, hc, by simp [zrow], ?_⟩⟩
  simp [zrow, bvs, List.take_replicate]
  omega

/-- 'copy(out, b)', out a row that was just made, as long as b. -/
theorem U8.wpCopy (u : U8 P t e s) {w : World} {ops : Array Oper} {rest : List Oper} {o : Oper} {a : Act} {Q : Exit → Act → World → Prop} (hgd : o.guard = none) (x y : Operand)
    (ho : o.op = .call { callee := .builtin .copy, args := #[x, y], argTypes := #[t, t] })
    (g n c d B : Nat) (D : Option Addr) (l : List UInt8) (hx : a.eval x = .slice (some ⟨g, 0, none⟩) n c) (hy : a.eval y = .slice D n d)
    (hg : w.heap[g]? = some (.cells (zrow c) e (0, 0))) (hr : Rb w B D n d l) (hn : n ≤ c) (hc : c ≤ maxLen)
    (h : ∀ w', Own w' e g (some ⟨g, 0, none⟩) c l → Below g w w' → wpList P ops Q rest (a.put o.dst (goInt n)) w') : wpList P ops Q (o :: rest) a w := by
  obtain ⟨h1, h2, h3, h4⟩ := hr
  obtain ⟨i, hi, hz0, hz1, hz2⟩ := info_parts u.inf
  refine wpList_copy_splice hgd x y t t ho e u.sl (by rw [hi]; simp [hz1]) (some ⟨g, 0, none⟩) D n c n d hx hy g 0 (List.replicate c (.int .u8 0)) e hg (bvs l) (by rw [bvs_length, h1]; exact (Nat.min_self n).symm) ?_ (by rw [bvs_length, List.length_replicate]; omega) (bvs_one l) g w (Below.refl _ _) (Nat.le_refl _) fun w' hw' hb => ?_
  · intro hp
    rw [bvs_length, h1] at hp
    obtain ⟨b, off, rfl, hb, hcell⟩ := h4 hp
    refine ⟨rfl, _, rfl, fun j v hj => ?_⟩
    obtain ⟨z, hz, rfl⟩ := bvs_get l j v hj
    have := hcell j z hz
    by_cases hj0 : j = 0
    · subst hj0; simpa [Addr.add] using this
    · simpa [Addr.add, hj0] using this
  · have e1 : (bvs l).length = n := by rw [bvs_length, h1]
    rw [e1]
    refine h w' ?_ hb
    unfold Own
    rw [h1]
    refine ⟨by rw [bvs_length, h1]; omega, .inr ⟨g, c, _, rfl, Nat.le_refl _, hw'.out, hn, hc, ?_, ?_⟩⟩
    · simp [splice, e1]; omega
    · simp only [splice, List.take_zero, List.nil_append]
      rw [Nat.mul_one]
      exact List.take_left' e1
end
end Go.Proofs.YtoalncojijmelaaGreatDoor

/-
  Words for slices of whatever elements (of z cells each): what cells a slice holds, a row that the call itself made, append, the making. No program is named.
-/
namespace Go.Proofs.YtoalncojijmelaaGreatDoor
open Go.RowKit

/-- The slice value '.slice A n c' (elements of z cells) holds the cells vs in the world w; they lie below block B. -/
def Rc (z : Nat) (w : World) (B : Nat) (A : Option Addr) (n c : Nat) (vs : List Value) : Prop :=
  vs.length = n * z ∧ n ≤ c ∧ c ≤ maxLen ∧ (0 < n → ∃ b off, A = some ⟨b, off, none⟩ ∧ b < B ∧ ∀ j v, vs[j]? = some v → w.cell? ⟨b, off + j, none⟩ = some v)
/-- It is a row that was made from block 'base' on (or nil). -/
def Oc (z : Nat) (w : World) (e : TypeId) (base : Nat) (A : Option Addr) (n c : Nat) (vs : List Value) : Prop := w.ownsRow base e z (.slice A n c) n vs

section
variable {z : Nat} {w w' : World} {B B' n c : Nat} {A : Option Addr} {vs : List Value}
theorem Rc.nil (z : Nat) (w : World) (B : Nat) : Rc z w B none 0 0 [] := ⟨by simp, Nat.le_refl _, by simp [maxLen], fun h => absurd h (by omega)⟩
theorem Rc.len (h : Rc z w B A n c vs) : vs.length = n * z := h.1
theorem Rc.len1 (h : Rc 1 w B A n c vs) : vs.length = n := by rw [h.1, Nat.mul_one]
theorem Rc.keep (h : Rc z w B A n c vs) (hk : ∀ p : Addr, p.block < B → w'.cell? p = w.cell? p) : Rc z w' B A n c vs :=
  ⟨h.1, h.2.1, h.2.2.1, fun hn => by
    obtain ⟨b, off, e, hb, hc⟩ := h.2.2.2 hn
    exact ⟨b, off, e, hb, fun j x hx => (hk _ hb).trans (hc j x hx)⟩⟩
theorem Rc.more (h : Rc z w B A n c vs) (hB : B ≤ B') : Rc z w B' A n c vs :=
  ⟨h.1, h.2.1, h.2.2.1, fun hn => by
    obtain ⟨b, off, e, hb, hc⟩ := h.2.2.2 hn
    exact ⟨b, off, e, by omega, hc⟩⟩
theorem Rc.below (h : Rc z w B A n c vs) (hb : Below B w w') : Rc z w' B A n c vs := h.keep fun _ hp => hb.cell hp
theorem Rc.drewN (h : Rc z w B A n c vs) (k : Nat) : Rc z (w.drewN k) B A n c vs := h
theorem Rc.alloc (h : Rc z w B A n c vs) (hB : B ≤ w.heap.size) (o : Obj) : Rc z (w.alloc o) B A n c vs := h.keep fun p hp => World.cell?_alloc_lt w o p (by omega)
theorem Rc.at_ {k : Nat} (h : Rc 1 w B A n c vs) (hk : k < n) : ∃ b off v, A = some ⟨b, off, none⟩ ∧ b < B ∧ w.cell? ⟨b, off + k, none⟩ = some v ∧ vs[k]? = some v := by
  obtain ⟨h1, h2, h3, h4⟩ := h
  obtain ⟨b, off, rfl, hb, hc⟩ := h4 (by omega)
  have hl : k < vs.length := by omega
  exact ⟨b, off, vs[k], rfl, hb, hc k _ (List.getElem?_eq_getElem hl), List.getElem?_eq_getElem hl⟩
theorem Rc.at2 {k : Nat} (h : Rc 2 w B A n c vs) (hk : k < n) : ∃ b off u v, A = some ⟨b, off, none⟩ ∧ b < B ∧ w.cell? ⟨b, off + k * 2, none⟩ = some u ∧ w.cell? ⟨b, off + k * 2 + 1, none⟩ = some v ∧ vs[k * 2]? = some u ∧ vs[k * 2 + 1]? = some v := by
  obtain ⟨h1, h2, h3, h4⟩ := h
  obtain ⟨b, off, rfl, hb, hc⟩ := h4 (by omega)
  have hl : k * 2 < vs.length := by omega
  have hl2 : k * 2 + 1 < vs.length := by omega
  exact ⟨b, off, vs[k * 2], vs[k * 2 + 1], rfl, hb, hc _ _ (List.getElem?_eq_getElem hl), by rw [Nat.add_assoc]; exact hc _ _ (List.getElem?_eq_getElem hl2), List.getElem?_eq_getElem hl, List.getElem?_eq_getElem hl2⟩
/-- A literal. -/
theorem Rc.lit (w : World) (e : TypeId) (cs : Array Value) (n : Nat) (h : cs.size = n * z) (hn : n ≤ maxLen) : Rc z (w.alloc (.cells cs e)) (w.heap.size + 1) (some ⟨w.heap.size, 0, none⟩) n n cs.toList :=
  ⟨by simpa using h, Nat.le_refl _, hn, fun _ => ⟨_, _, rfl, by omega, fun j v hj => by
    simp at hj ⊢
    obtain ⟨hj1, hj2⟩ := Array.getElem?_eq_some_iff.1 hj
    simp [hj]⟩⟩
end

section
variable {z : Nat} {w w' : World} {e : TypeId} {base n c : Nat} {A : Option Addr} {vs : List Value}
theorem Oc.nil (z : Nat) (w : World) (e : TypeId) (base : Nat) : Oc z w e base none 0 0 [] := World.ownsRow_nil w base e z
theorem Oc.lit (w : World) (e : TypeId) (cs : Array Value) (n : Nat) (h : cs.size = n * z) (hn : n ≤ maxLen) : Oc z (w.alloc (.cells cs e)) e w.heap.size (some ⟨w.heap.size, 0, none⟩) n n cs.toList :=
  World.ownsRow_lit w cs n (Nat.le_refl _) hn h
theorem Oc.made0 (z : Nat) (w : World) (e : TypeId) : Oc z (w.alloc (.cells #[] e)) e w.heap.size (some ⟨w.heap.size, 0, none⟩) 0 0 [] :=
  World.ownsRow_lit w #[] 0 (Nat.le_refl _) (by simp [maxLen]) (by simp)
theorem Oc.lt {g : Nat} {a : Addr} (h : Oc z w e base (some a) n c vs) (hg : a.block = g) : base ≤ g ∧ g < w.heap.size := World.ownsRow.lt h g (by rw [← hg]; rfl)
theorem Oc.rc (h : Oc z w e base A n c vs) : Rc z w w.heap.size A n c vs := by
  have hl := h.1
  rcases h.2 with ⟨hv, hn⟩ | ⟨g, cap, cur, hv, hb, hg, hnc, hcm, hcs, ht⟩
  · injection hv with hA hl' hc
    subst hA hc
    exact ⟨hl, by omega, by simp [maxLen], fun h0 => by omega⟩
  · injection hv with hA hl' hc
    subst hA hc
    refine ⟨hl, hnc, hcm, fun _ => ⟨g, 0, rfl, ?_, fun j v hx => ?_⟩⟩
    · rcases Nat.lt_or_ge g w.heap.size with h' | h'
      · exact h'
      · rw [Array.getElem?_eq_none h'] at hg; cases hg
    · have hc := World.ownsRow.cells h (g := g) rfl j v hx
      by_cases h0 : j = 0
      · subst h0; simpa [Addr.add] using hc
      · simpa [Addr.add, h0] using hc
theorem Oc.keep (h : Oc z w e base A n c vs) (hb : Below w.heap.size w w') : Oc z w' e base A n c vs := by
  unfold Oc at h ⊢
  refine ⟨h.1, ?_⟩
  rcases h.2 with hn | ⟨g, cap, cur, hv, hbg, hg, rest⟩
  · exact .inl hn
  · have hlt : g < w.heap.size := by
      rcases Nat.lt_or_ge g w.heap.size with h' | h'
      · exact h'
      · rw [Array.getElem?_eq_none h'] at hg; cases hg
    exact .inr ⟨g, cap, cur, hv, hbg, (hb.block g hlt).trans hg, rest⟩
theorem Oc.drewN (h : Oc z w e base A n c vs) (k : Nat) : Oc z (w.drewN k) e base A n c vs := h
theorem Oc.alloc (h : Oc z w e base A n c vs) (o : Obj) : Oc z (w.alloc o) e base A n c vs := World.ownsRow.alloc h o
theorem Oc.mono {base' : Nat} (h : Oc z w e base A n c vs) (hb : base' ≤ base) : Oc z w e base' A n c vs := by
  unfold Oc at h ⊢
  refine ⟨h.1, ?_⟩
  rcases h.2 with hn | ⟨g, cap, cur, hv, hbg, rest⟩
  · exact .inl hn
  · exact .inr ⟨g, cap, cur, hv, by omega, rest⟩
/-- The row stays while what lies elsewhere is turned. -/
theorem Oc.other (h : Oc z w e base A n c vs) (hg : ∀ g, A = some ⟨g, 0, none⟩ → w'.heap[g]? = w.heap[g]?) : Oc z w' e base A n c vs := by
  unfold Oc at h ⊢
  refine ⟨h.1, ?_⟩
  rcases h.2 with hn | ⟨g, cap, cur, hv, hbg, hgg, rest⟩
  · exact .inl hn
  · injection hv with hA _ _
    exact .inr ⟨g, cap, cur, by rw [hA]; rename_i hc; subst hc; rfl, hbg, (hg g hA).trans hgg, rest⟩
end

/-- The facts on the types of a slice (t) and its elements (e): zero value, cells, bytes. -/
structure Sl (P : Program) (t e : TypeId) (zv : Value) (z y : Nat) : Prop where
  sl : P.underlying t = some (.slice e)
  inf : (P.info? e).map (fun i => (i.zero, i.size, i.bytes)) = some (some zv, z, y)
  zc : zv.cells.size = z
  zp : 0 < z

section
variable {P : Program} {t e : TypeId} {zv : Value} {z y : Nat}
/-- 'append(x, y...)', x a row of the call's own (or nil). -/
theorem Sl.append (u : Sl P t e zv z y) {w : World} {base n c B m d : Nat} {A D : Option Addr} {vs us : List Value} (ty : TypeId) (hown : Oc z w e base A n c vs) (hr : Rc z w B D m d us) (h1 : ∀ v ∈ us, v.oneCell' = true)
    (hsm : (n + m) * y ≤ 140737488355328) (hnm : n + m ≤ 140737488355328) (hbase : base ≤ w.heap.size) :
    ∃ A' c' w', (Builtin.append_ #[t, t] ty #[.slice A n c, .slice D m d]).run P w = .ok (.slice A' (n + m) c') w' ∧ Oc z w' e base A' (n + m) c' (vs ++ us) ∧ Below base w w' ∧ w.grownBy w' (Value.slice A n c).ownBlock := by
  obtain ⟨i, hi, hz0, hz1, hz2⟩ := info_parts u.inf
  obtain ⟨hl, h2, h3, h4⟩ := hr
  have key : ∀ ad : Addr, D = some ad → (∀ j v, us[j]? = some v → w.cell? (ad.add j) = some v) →
      ∃ A' c' w', (Builtin.append_ #[t, t] ty #[.slice A n c, .slice D m d]).run P w = .ok (.slice A' (n + m) c') w' ∧ Oc z w' e base A' (n + m) c' (vs ++ us) ∧ Below base w w' ∧ w.grownBy w' (Value.slice A n c).ownBlock := by
    intro ad hD hcell
    subst hD
    obtain ⟨v', w', hrun, ho, hg, _⟩ := run_append_own (P := P) w base t ty e i zv z y u.sl hi hz0 hz1 hz2 u.zc u.zp _ _ _ hown ad m d us hl hcell h1 (by simp only [maxLen]; omega) hsm hbase
    have hsh : ∃ A' c', v' = .slice A' (n + m) c' := by
      rcases ho.2 with ⟨hv, hn⟩ | ⟨g, cap, cur, hv, _⟩
      · exact ⟨_, _, by rw [hv, hn]⟩
      · exact ⟨_, _, hv⟩
    obtain ⟨A', c', hv⟩ := hsh
    subst hv
    exact ⟨A', c', w', hrun, ho, (Below.refl base w).grown hg hbase fun k hk => (World.ownsRow.lt hown k hk).1, hg⟩
  by_cases h0 : m = 0
  · subst h0
    obtain rfl : us = [] := List.eq_nil_of_length_eq_zero (by simpa using hl)
    cases hD : D with
    | some ad => rw [hD] at key; exact key ad rfl (fun j v hj => by simp at hj)
    | none =>
      refine ⟨A, c, w, ?_, by simpa using hown, Below.refl _ _, ⟨rfl, rfl, rfl, Nat.le_refl _, fun _ _ _ => rfl⟩⟩
      have hrun : (Builtin.append_ #[t, t] ty #[.slice A n c, .slice none 0 d]).run P w = .ok (.slice A n c) w := by
        rcases hown.2 with ⟨hv, hn⟩ | ⟨g, cap, cur, hv, _, _, hnc, _⟩
        · rw [hv]
          simp [Builtin.append_, run_underlying u.sl, sizeOf, typeInfo, hi, Builtin.lenOf, Builtin.firstCells]
        · rw [hv]
          simp [Builtin.append_, run_underlying u.sl, sizeOf, typeInfo, hi, Builtin.lenOf, Builtin.firstCells, hnc, storeCells]
      simpa using hrun
  · obtain ⟨b, off, hD, hb, hc⟩ := h4 (by omega)
    refine key _ hD fun j v hj => ?_
    have := hc j v hj
    by_cases hj0 : j = 0
    · subst hj0; simpa [Addr.add] using this
    · simpa [Addr.add, hj0] using this
/-- The same as an operation of the walk. -/
theorem Sl.opApp (u : Sl P t e zv z y) {w : World} {o : Oper} {a : Act} {K : Act → World → Prop} {Q : Exit → Act → World → Prop} (p q : Operand)
    (ho : o.op = .call { callee := .builtin .append, args := #[p, q], argTypes := #[t, t] })
    {base n c B m d : Nat} {A D : Option Addr} {vs us : List Value} (hx : a.eval p = .slice A n c) (hy : a.eval q = .slice D m d) (hown : Oc z w e base A n c vs) (hr : Rc z w B D m d us) (h1 : ∀ v ∈ us, v.oneCell' = true)
    (hsm : (n + m) * y ≤ 140737488355328) (hnm : n + m ≤ 140737488355328) (hbase : base ≤ w.heap.size)
    (h : ∀ A' c' w', Oc z w' e base A' (n + m) c' (vs ++ us) → Below base w w' → w.grownBy w' (Value.slice A n c).ownBlock → K (a.put o.dst (.slice A' (n + m) c')) w') : o.wp P a w K Q := by
  obtain ⟨A', c', w', hrun, h2, h3, h4⟩ := u.append o.type hown hr h1 hsm hnm hbase
  unfold Oper.wp execOp
  simp only [ho, resolve, invoke, builtin, Sem.run_bind, Sem.run_pure, Result.andThen_ok, List.map_toArray, List.map_cons, List.map_nil, hx, hy, hrun]
  exact h A' c' w' h2 h3 h4
theorem Sl.wpApp (u : Sl P t e zv z y) {w : World} {ops : Array Oper} {rest : List Oper} {o : Oper} {a : Act} {Q : Exit → Act → World → Prop} (hgd : o.guard = none) (p q : Operand)
    (ho : o.op = .call { callee := .builtin .append, args := #[p, q], argTypes := #[t, t] })
    {base n c B m d : Nat} {A D : Option Addr} {vs us : List Value} (hx : a.eval p = .slice A n c) (hy : a.eval q = .slice D m d) (hown : Oc z w e base A n c vs) (hr : Rc z w B D m d us) (h1 : ∀ v ∈ us, v.oneCell' = true)
    (hsm : (n + m) * y ≤ 140737488355328) (hnm : n + m ≤ 140737488355328) (hbase : base ≤ w.heap.size)
    (h : ∀ A' c' w', Oc z w' e base A' (n + m) c' (vs ++ us) → Below base w w' → w.grownBy w' (Value.slice A n c).ownBlock → wpList P ops Q rest (a.put o.dst (.slice A' (n + m) c')) w') : wpList P ops Q (o :: rest) a w :=
  wpList_plain hgd fun _ hK => u.opApp p q ho hx hy hown hr h1 hsm hnm hbase fun A' c' w' h2 h3 h4 => hK _ _ (h A' c' w' h2 h3 h4)
end
end Go.Proofs.YtoalncojijmelaaGreatDoor

/-
  Words for slices of 32-bit numbers: what one reads as, a row of numbers that the call itself made, and a store into it; exclusive or of numbers as the model spells it.
-/
namespace Go.Proofs.YtoalncojijmelaaGreatDoor
open Go.RowKit

def U32 (n : Int) : Prop := 0 ≤ n ∧ n < 4294967296

theorem xor32 {a b : Int} (A B : Nat) (ha : a = (A : Int)) (hb : b = (B : Int)) (hA : A < 4294967296) (hB : B < 4294967296) : bits .xor .u32 a b = ((A ^^^ B : Nat) : Int) := by
  subst ha hb
  exact u32_xor_nat A B hA hB
theorem xor8 {a b : Int} (A B : Nat) (ha : a = (A : Int)) (hb : b = (B : Int)) (hA : A < 256) (hB : B < 256) : bits .xor .u8 a b = ((A ^^^ B : Nat) : Int) := by
  subst ha hb
  exact u8_xor_nat A B hA hB

/-- The cells of numbers. -/
def nvs (l : List Nat) : List Value := l.map fun (b : Nat) => Value.int .u32 (b : Int)
theorem nvs_length (l : List Nat) : (nvs l).length = l.length := by simp [nvs]

/-- The slice value '.slice A n c' reads as the numbers l in the world w; its cells lie below block B. -/
def Rn (w : World) (B : Nat) (A : Option Addr) (n c : Nat) (l : List Nat) : Prop :=
  l.length = n ∧ n ≤ c ∧ c ≤ maxLen ∧ Cm.Fits l ∧
    (0 < n → ∃ b off, A = some ⟨b, off, none⟩ ∧ b < B ∧ ∀ j (x : Nat), l[j]? = some x → w.cell? ⟨b, off + j, none⟩ = some (.int .u32 (x : Int)))

section
variable {w w' : World} {B B' n c : Nat} {A : Option Addr} {l : List Nat}
theorem Rn.nil (w : World) (B : Nat) : Rn w B none 0 0 [] := ⟨rfl, Nat.le_refl _, by simp [maxLen], fun x hx => by simp at hx, fun h => absurd h (by omega)⟩
theorem Rn.len (h : Rn w B A n c l) : l.length = n := h.1
theorem Rn.fits (h : Rn w B A n c l) : Cm.Fits l := h.2.2.2.1
theorem Rn.at_ {k : Nat} (h : Rn w B A n c l) (hk : k < n) :
    ∃ b off, ∃ x : Nat, A = some ⟨b, off, none⟩ ∧ b < B ∧ w.cell? ⟨b, off + k, none⟩ = some (.int .u32 (x : Int)) ∧ l[k]? = some x ∧ x < 4294967296 ∧ l.getD k 0 = x := by
  obtain ⟨h1, h2, h3, h5, h4⟩ := h
  obtain ⟨b, off, rfl, hb, hc⟩ := h4 (by omega)
  have hl : k < l.length := by omega
  have e := List.getElem?_eq_getElem hl
  exact ⟨b, off, l[k], rfl, hb, hc k _ e, e, h5 _ (List.getElem_mem hl), by simp [List.getD, e]⟩
theorem Rn.keep (h : Rn w B A n c l) (hk : ∀ p : Addr, p.block < B → w'.cell? p = w.cell? p) : Rn w' B A n c l :=
  ⟨h.1, h.2.1, h.2.2.1, h.2.2.2.1, fun hn => by
    obtain ⟨b, off, e, hb, hc⟩ := h.2.2.2.2 hn
    exact ⟨b, off, e, hb, fun j x hx => (hk _ hb).trans (hc j x hx)⟩⟩
theorem Rn.more (h : Rn w B A n c l) (hB : B ≤ B') : Rn w B' A n c l :=
  ⟨h.1, h.2.1, h.2.2.1, h.2.2.2.1, fun hn => by
    obtain ⟨b, off, e, hb, hc⟩ := h.2.2.2.2 hn
    exact ⟨b, off, e, by omega, hc⟩⟩
theorem Rn.below (h : Rn w B A n c l) (hb : Below B w w') : Rn w' B A n c l := h.keep fun _ hp => hb.cell hp
theorem Rn.alloc (h : Rn w B A n c l) (hB : B ≤ w.heap.size) (o : Obj) : Rn (w.alloc o) B A n c l := h.keep fun p hp => World.cell?_alloc_lt w o p (by omega)
theorem Rn.drewN (h : Rn w B A n c l) (k : Nat) : Rn (w.drewN k) B A n c l := h
end

/-- The facts on the types '[]uint32' (t) and 'uint32' (e) of a program. -/
structure N32 (P : Program) (t e : TypeId) : Prop where
  sl : P.underlying t = some (.slice e)
  el : P.underlying e = some (.int .u32)
  inf : (P.info? e).map (fun i => (i.zero, i.size, i.bytes)) = some (some (.int .u32 0), 1, 4)

/-- A row of c numbers 0. -/
def nrow (c : Nat) : Array Value := (List.replicate c (Value.int .u32 0)).toArray
theorem N32.make {P : Program} {t e : TypeId} (u : N32 P t e) (w : World) (n : Nat) (L : Int) (hL : L = (n : Int)) (hc : n ≤ 1000000) :
    (Instr.makeSlice t (.int .i64 L) (.int .i64 L)).run P w = .ok (.slice (some ⟨w.heap.size, 0, none⟩) n n) (w.alloc (.cells (nrow n) e)) := by
  subst hL
  obtain ⟨i, hi, hz0, hz1, hz2⟩ := info_parts u.inf
  have h := run_make (P := P) w t e i (.int .u32 0) u.sl hi hz0 .i64 .i64 (n : Int) (n : Int) (by omega) (by omega) (by rw [hz2]; omega) (by omega)
  simp only [Int.toNat_natCast, hz1, Nat.mul_one] at h
  rw [h]
  have e1 : madeCells (Value.int IntKind.u32 0).cells n = nrow n := by
    apply Array.toList_inj.1
    have hcells : (Value.int IntKind.u32 0).cells = #[.int .u32 0] := rfl
    rw [hcells, toList_madeCells_one]
    simp [nrow]
  rw [e1]

/-- The block g holds just the numbers l. -/
def Tbl (w : World) (e : TypeId) (g n : Nat) (l : List Nat) : Prop := w.ownsRow g e 1 (.slice (some ⟨g, 0, none⟩) n n) n (nvs l)
theorem Tbl.made (w : World) (e : TypeId) (n : Nat) (hn : n ≤ 1000000) : Tbl (w.alloc (.cells (nrow n) e)) e w.heap.size n (List.replicate n 0) := by
  have h := World.ownsRow_lit (base := w.heap.size) (e := e) (size := 1) w (nrow n) n (Nat.le_refl _) (by simp only [maxLen]; omega) (by simp [nrow])
  have e1 : (nrow n).toList = nvs (List.replicate n 0) := by simp [nrow, nvs]
  rw [e1] at h
  exact h
theorem Tbl.len {w : World} {e : TypeId} {g n : Nat} {l : List Nat} (h : Tbl w e g n l) : l.length = n := by
  have := h.1
  rw [nvs_length] at this
  omega
theorem Tbl.cell {w : World} {e : TypeId} {g n : Nat} {l : List Nat} (h : Tbl w e g n l) (k x : Nat) (hx : l[k]? = some x) : w.cell? ⟨g, k, none⟩ = some (.int .u32 (x : Int)) := by
  have hk : k < l.length := by
    rcases Nat.lt_or_ge k l.length with h' | h'
    · exact h'
    · rw [List.getElem?_eq_none h'] at hx; cases hx
  have hl := h.len
  rw [World.ownsRow.cellAt h k (by omega)]
  simp [nvs, hx]
theorem Tbl.frozen {w : World} {e : TypeId} {g n : Nat} {l : List Nat} (h : Tbl w e g n l) (k : Nat) : w.frozen? ⟨g, k, none⟩ = false := World.ownsRow.frozenAt h k
theorem Tbl.set {w : World} {e : TypeId} {g n : Nat} {l : List Nat} (h : Tbl w e g n l) (k x : Nat) : Tbl (w.setCell ⟨g, k, none⟩ (.int .u32 (x : Int))) e g n (l.set k x) := by
  have h1 := (World.ownsRow.stored h k (.int .u32 (x : Int))).1
  unfold Tbl
  have e1 : nvs (l.set k x) = (nvs l).set k (.int .u32 (x : Int)) := by simp [nvs, List.map_set]
  rw [e1]
  exact h1
theorem Tbl.lt {w : World} {e : TypeId} {g n : Nat} {l : List Nat} (h : Tbl w e g n l) : g < w.heap.size := (World.ownsRow.lt h g rfl).2
theorem Tbl.rn {w : World} {e : TypeId} {g n : Nat} {l : List Nat} (h : Tbl w e g n l) (hf : Cm.Fits l) (hn : n ≤ 1000000) : Rn w w.heap.size (some ⟨g, 0, none⟩) n n l :=
  ⟨h.len, Nat.le_refl _, by simp only [maxLen]; omega, hf, fun _ => ⟨g, 0, rfl, h.lt, fun j x hx => by rw [Nat.zero_add]; exact h.cell j x hx⟩⟩
end Go.Proofs.YtoalncojijmelaaGreatDoor

/-
  More words for rows of bytes: copy between rows of unlike lengths, a store into a row of the call's own.
-/
namespace Go.Proofs.YtoalncojijmelaaGreatDoor
open Go.RowKit

theorem rb_len {w : World} {B : Nat} {A : Option Addr} {n m c : Nat} {l : List UInt8} (h : Rb w B A n c l) (e : n = m) : Rb w B A m c l := by subst e; exact h

theorem below_drewN {B : Nat} {a w : World} (h : Below B a w) (n : Nat) : Below B a (w.drewN n) := h.trans ⟨rfl, rfl, rfl, Nat.le_refl _, fun _ _ => rfl⟩

section
variable {P : Program} {t e s : TypeId}
/-- 'copy(out, b)', out a row that was just made. -/
theorem U8.wpCopyAny (u : U8 P t e s) {w : World} {ops : Array Oper} {rest : List Oper} {o : Oper} {a : Act} {Q : Exit → Act → World → Prop} (hgd : o.guard = none) (x y : Operand)
    (ho : o.op = .call { callee := .builtin .copy, args := #[x, y], argTypes := #[t, t] })
    (g N n c d B : Nat) (D : Option Addr) (l : List UInt8) (hx : a.eval x = .slice (some ⟨g, 0, none⟩) N c) (hy : a.eval y = .slice D n d)
    (hg : w.heap[g]? = some (.cells (zrow c) e (0, 0))) (hr : Rb w B D n d l) (hn : N ≤ c) (hc : c ≤ maxLen)
    (h : ∀ w', Own w' e g (some ⟨g, 0, none⟩) c (l.take N ++ List.replicate (N - n) 0) → Below g w w' → wpList P ops Q rest (a.put o.dst (goInt (Nat.min n N))) w') : wpList P ops Q (o :: rest) a w := by
  obtain ⟨h1, h2, h3, h4⟩ := hr
  obtain ⟨i, hi, hz0, hz1, hz2⟩ := info_parts u.inf
  have hlen : (l.take N).length = Nat.min n N := by rw [List.length_take, h1]; exact Nat.min_comm _ _
  have hmin : Nat.min n N ≤ N := Nat.min_le_right _ _
  have hmin2 : Nat.min n N ≤ n := Nat.min_le_left _ _
  refine wpList_copy_splice hgd x y t t ho e u.sl (by rw [hi]; simp [hz1]) (some ⟨g, 0, none⟩) D N c n d hx hy g 0 (List.replicate c (.int .u8 0)) e hg (bvs (l.take N)) (by rw [bvs_length, hlen]) ?_ (by rw [bvs_length, List.length_replicate, hlen]; omega) (bvs_one _) g w (Below.refl _ _) (Nat.le_refl _) fun w' hw' hb => ?_
  · intro hp
    rw [bvs_length, hlen] at hp
    obtain ⟨b, off, rfl, hb, hcell⟩ := h4 (by omega)
    refine ⟨rfl, _, rfl, fun j v hj => ?_⟩
    obtain ⟨z, hz, rfl⟩ := bvs_get _ j v hj
    rw [List.getElem?_take] at hz
    split at hz
    · have := hcell j z hz
      by_cases hj0 : j = 0
      · subst hj0; simpa [Addr.add] using this
      · simpa [Addr.add, hj0] using this
    · cases hz
  · have e1 : (bvs (l.take N)).length = Nat.min n N := by rw [bvs_length, hlen]
    rw [e1]
    refine h w' ?_ hb
    have hL : (l.take N ++ List.replicate (N - n) (0 : UInt8)).length = N := by
      rw [List.length_append, hlen, List.length_replicate]
      rcases Nat.le_total n N with h' | h'
      · rw [show Nat.min n N = n from Nat.min_eq_left h']; omega
      · rw [show Nat.min n N = N from Nat.min_eq_right h']; omega
    unfold Own
    rw [hL]
    refine ⟨by rw [bvs_length, hL]; omega, .inr ⟨g, c, _, rfl, Nat.le_refl _, hw'.out, hn, hc, ?_, ?_⟩⟩
    · simp only [splice, List.size_toArray, List.length_append, List.length_take, List.length_drop, List.length_replicate, e1]
      omega
    · simp only [splice, List.take_zero, List.nil_append, Nat.mul_one, Nat.zero_add]
      rw [bvs_append, List.take_append, e1, List.take_of_length_le (by rw [e1]; exact hmin)]
      congr 1
      have e2 : bvs (List.replicate (N - n) (0 : UInt8)) = List.replicate (N - n) (Value.int .u8 0) := by simp [bvs]
      rw [e2, List.drop_replicate, List.take_replicate]
      congr 1
      rcases Nat.le_total n N with h' | h'
      · rw [show Nat.min n N = n from Nat.min_eq_left h']; omega
      · rw [show Nat.min n N = N from Nat.min_eq_right h']; omega
end

section
variable {w : World} {e : TypeId} {base c g : Nat} {l : List UInt8}
theorem Own.cellAt (h : Own w e base (some ⟨g, 0, none⟩) c l) (k : Nat) (x : UInt8) (hx : l[k]? = some x) : w.cell? ⟨g, k, none⟩ = some (.int .u8 (x.toNat : Int)) := by
  have hk : k < l.length := by
    rcases Nat.lt_or_ge k l.length with h' | h'
    · exact h'
    · rw [List.getElem?_eq_none h'] at hx; cases hx
  rw [World.ownsRow.cellAt h k (by omega)]
  simp [bvs, hx]
theorem Own.frozenAt (h : Own w e base (some ⟨g, 0, none⟩) c l) (k : Nat) : w.frozen? ⟨g, k, none⟩ = false := World.ownsRow.frozenAt h k
theorem Own.set (h : Own w e base (some ⟨g, 0, none⟩) c l) (k : Nat) (x : UInt8) : Own (w.setCell ⟨g, k, none⟩ (.int .u8 (x.toNat : Int))) e base (some ⟨g, 0, none⟩) c (l.set k x) := by
  have h1 := (World.ownsRow.stored h k (.int .u8 (x.toNat : Int))).1
  unfold Own
  have e1 : bvs (l.set k x) = (bvs l).set k (.int .u8 (x.toNat : Int)) := by simp [bvs, List.map_set]
  rw [e1, List.length_set]
  exact h1
theorem Own.at_base {A : Option Addr} (h : Own w e base A c l) (hn : 0 < l.length) : ∃ g, A = some ⟨g, 0, none⟩ ∧ base ≤ g := by
  rcases h.2 with ⟨_, hn'⟩ | ⟨g, cap, cur, hv, hb, _⟩
  · omega
  · injection hv with hA
    exact ⟨g, hA, hb⟩
end
end Go.Proofs.YtoalncojijmelaaGreatDoor

/-
  Rows of bytes that grow beside other memory: which block an append touches. (XP2's first half, for seats without press.)
-/
namespace Go.Proofs.YtoalncojijmelaaGreatDoor
open Go.RowKit

/-- The block of a slice. -/
def ob (A : Option Addr) : Option Nat := A.map (·.block)
theorem ownBlock_slice (A : Option Addr) (n c : Nat) : (Value.slice A n c).ownBlock = ob A := by cases A <;> rfl
theorem grown_refl (w : World) (r : Option Nat) : w.grownBy w r := ⟨rfl, rfl, rfl, Nat.le_refl _, fun _ _ _ => rfl⟩
theorem grown_below {w w' : World} (h : Below w.heap.size w w') (r : Option Nat) : w.grownBy w' r := ⟨h.os, h.tape, h.output, h.size, fun k hk _ => h.block k hk⟩
/-- Only the slice's own block and new blocks have turned; the new slice lies in them. -/
def Grows (w w' : World) (A A' : Option Addr) : Prop := w.grownBy w' (ob A) ∧ (ob A' = ob A ∨ ∃ g, ob A' = some g ∧ w.heap.size ≤ g)
theorem Grows.refl (w : World) (A : Option Addr) : Grows w w A A := ⟨grown_refl w _, .inl rfl⟩
theorem Grows.size {w w' : World} {A A' : Option Addr} (h : Grows w w' A A') : w.heap.size ≤ w'.heap.size := h.1.size
theorem Grows.trans {a b c : World} {A B C : Option Addr} (h : Grows a b A B) (k : Grows b c B C) : Grows a c A C := by
  have hs := h.1.size
  refine ⟨⟨k.1.os.trans h.1.os, k.1.tape.trans h.1.tape, k.1.output.trans h.1.output, Nat.le_trans hs k.1.size, fun i hi hne => ?_⟩, ?_⟩
  · refine (k.1.block i (Nat.lt_of_lt_of_le hi hs) fun e => ?_).trans (h.1.block i hi hne)
    rcases h.2 with h1 | ⟨g, h1, h2⟩
    · exact hne (e.trans h1)
    · rw [h1] at e; cases e; omega
  · rcases k.2 with k1 | ⟨g, k1, k2⟩
    · rw [k1]; exact h.2
    · exact .inr ⟨g, k1, by omega⟩
theorem Grows.pre {a b c : World} {A B : Option Addr} (h : Below a.heap.size a b) (k : Grows b c A B) : Grows a c A B := by
  have hs := h.size
  refine ⟨(grown_below h _).trans k.1, ?_⟩
  rcases k.2 with k1 | ⟨g, k1, k2⟩
  · exact .inl k1
  · exact .inr ⟨g, k1, by omega⟩
theorem own_ob {w : World} {e : TypeId} {base c : Nat} {A : Option Addr} {l : List UInt8} (h : Own w e base A c l) (g : Nat) (hg : ob A = some g) : base ≤ g ∧ g < w.heap.size :=
  World.ownsRow.lt h g (by rw [ownBlock_slice]; exact hg)
theorem Grows.below {w w' : World} {A A' : Option Addr} {e : TypeId} {base c : Nat} {l : List UInt8} (h : Grows w w' A A') (ho : Own w e base A c l) (hb : base ≤ w.heap.size) : Below base w w' :=
  ⟨h.1.os, h.1.tape, h.1.output, h.1.size, fun k hk => h.1.block k (by omega) fun e => by have := (own_ob ho k e.symm).1; omega⟩

section
variable {P : Program} {t e s : TypeId}
/-- 'append(x, y...)' (XBase), with where the new slice lies. -/
theorem U8.appendAt (u : U8 P t e s) {w : World} {base c B m d : Nat} {A D : Option Addr} {l r : List UInt8} (ty : TypeId) (hown : Own w e base A c l) (hr : Rb w B D m d r)
    (hsm : l.length + r.length ≤ 140737488355328) (hbase : base ≤ w.heap.size) :
    ∃ A' c' w', (Builtin.append_ #[t, t] ty #[.slice A l.length c, .slice D m d]).run P w = .ok (.slice A' (l ++ r).length c') w' ∧ Own w' e base A' c' (l ++ r) ∧ Grows w w' A A' := by
  obtain ⟨i, hi, hz0, hz1, hz2⟩ := info_parts u.inf
  obtain ⟨h1, h2, h3, h4⟩ := hr
  subst h1
  have key : ∀ ad : Addr, D = some ad → (∀ j v, (bvs r)[j]? = some v → w.cell? (ad.add j) = some v) →
      ∃ A' c' w', (Builtin.append_ #[t, t] ty #[.slice A l.length c, .slice D r.length d]).run P w = .ok (.slice A' (l ++ r).length c') w' ∧ Own w' e base A' c' (l ++ r) ∧ Grows w w' A A' := by
    intro ad hD hcell
    subst hD
    obtain ⟨v', w', hrun, ho, hg, _, hloc⟩ := run_append_own_at (P := P) (w := w) base t ty e i (.int .u8 0) 1 1 u.sl hi hz0 hz1 hz2 rfl (by omega) _ _ _ hown ad r.length d (bvs r) (by rw [bvs_length]; omega) hcell (bvs_one r) (by simp only [maxLen]; omega) (by omega) hbase
    have hsh : ∃ A' c', v' = .slice A' (l.length + r.length) c' := by
      rcases ho.2 with ⟨hv, hn⟩ | ⟨g, cap, cur, hv, _⟩
      · exact ⟨_, _, by rw [hv, hn]⟩
      · exact ⟨_, _, hv⟩
    obtain ⟨A', c', hv⟩ := hsh
    subst hv
    rw [ownBlock_slice, ownBlock_slice] at hloc
    rw [ownBlock_slice] at hg
    refine ⟨A', c', w', by rw [hrun, List.length_append], ?_, hg, hloc.imp id fun h => ⟨_, h, Nat.le_refl _⟩⟩
    unfold Own
    rw [List.length_append, bvs_append]
    exact ho
  by_cases h0 : r.length = 0
  · obtain rfl : r = [] := List.eq_nil_of_length_eq_zero h0
    cases hD : D with
    | some ad => rw [hD] at key; exact key ad rfl (fun j v hj => by simp [bvs] at hj)
    | none =>
      refine ⟨A, c, w, ?_, by simpa using hown, Grows.refl _ _⟩
      have hrun : (Builtin.append_ #[t, t] ty #[.slice A l.length c, .slice none 0 d]).run P w = .ok (.slice A l.length c) w := by
        rcases hown.2 with ⟨hv, hn⟩ | ⟨g, cap, cur, hv, _, _, hnc, _⟩
        · rw [hv]
          simp [Builtin.append_, run_underlying u.sl, sizeOf, typeInfo, hi, Builtin.lenOf, Builtin.firstCells]
        · rw [hv]
          simp [Builtin.append_, run_underlying u.sl, sizeOf, typeInfo, hi, Builtin.lenOf, Builtin.firstCells, hnc, storeCells]
      simpa using hrun
  · obtain ⟨b, off, hD, hb, hc⟩ := h4 (by omega)
    refine key _ hD fun j v hj => ?_
    obtain ⟨x, hx, rfl⟩ := bvs_get r j v hj
    have := hc j x hx
    by_cases hj0 : j = 0
    · subst hj0; simpa [Addr.add] using this
    · simpa [Addr.add, hj0] using this
theorem U8.wpAppAt (u : U8 P t e s) {w : World} {ops : Array Oper} {rest : List Oper} {o : Oper} {a : Act} {Q : Exit → Act → World → Prop} (hgd : o.guard = none) (x y : Operand)
    (ho : o.op = .call { callee := .builtin .append, args := #[x, y], argTypes := #[t, t] })
    {base c B m d : Nat} {A D : Option Addr} {l r : List UInt8} (hx : a.eval x = .slice A l.length c) (hy : a.eval y = .slice D m d) (hown : Own w e base A c l) (hr : Rb w B D m d r)
    (hsm : l.length + r.length ≤ 140737488355328) (hbase : base ≤ w.heap.size)
    (h : ∀ A' c' w', Own w' e base A' c' (l ++ r) → Grows w w' A A' → wpList P ops Q rest (a.put o.dst (.slice A' (l ++ r).length c')) w') : wpList P ops Q (o :: rest) a w := by
  refine wpList_plain hgd fun _ hK => ?_
  obtain ⟨A', c', w', hrun, h2, h3⟩ := u.appendAt o.type hown hr hsm hbase
  unfold Oper.wp execOp
  simp only [ho, resolve, invoke, builtin, Sem.run_bind, Sem.run_pure, Result.andThen_ok, List.map_toArray, List.map_cons, List.map_nil, hx, hy, hrun]
  exact hK _ _ (h A' c' w' h2 h3)
end


/-- An append whose outcome has a name. -/
theorem U8.wpAppTo {P : Program} {t e s : TypeId} (u : U8 P t e s) {w : World} {ops : Array Oper} {rest : List Oper} {o : Oper} {a : Act} {Q : Exit → Act → World → Prop} (hgd : o.guard = none) (x y : Operand)
    (ho : o.op = .call { callee := .builtin .append, args := #[x, y], argTypes := #[t, t] })
    {base c B m d : Nat} {A D : Option Addr} {l r N : List UInt8} (hx : a.eval x = .slice A l.length c) (hy : a.eval y = .slice D m d) (hown : Own w e base A c l) (hr : Rb w B D m d r) (hN : l ++ r = N)
    (hsm : N.length ≤ 140737488355328) (hbase : base ≤ w.heap.size)
    (h : ∀ A' c' w', Own w' e base A' c' N → Grows w w' A A' → wpList P ops Q rest (a.put o.dst (.slice A' N.length c')) w') : wpList P ops Q (o :: rest) a w := by
  subst hN
  exact u.wpAppAt hgd x y ho hx hy hown hr (by rw [← List.length_append]; exact hsm) hbase h

/-- What lies elsewhere stays. -/
theorem Grows.cell {w w' : World} {A A' : Option Addr} (h : Grows w w' A A') (p : Addr) (hp : p.block < w.heap.size) (hne : some p.block ≠ ob A) : w'.cell? p = w.cell? p := by
  have := h.1.block p.block hp hne
  unfold World.cell?
  rw [this]
theorem Grows.heap {w w' : World} {A A' : Option Addr} (h : Grows w w' A A') (g : Nat) (hp : g < w.heap.size) (hne : some g ≠ ob A) : w'.heap[g]? = w.heap[g]? := h.1.block g hp hne
/-- A new block behind the row's is none of the row's. -/
theorem own_ne {w : World} {e : TypeId} {base c : Nat} {A : Option Addr} {l : List UInt8} (h : Own w e base A c l) (g : Nat) (hg : w.heap.size ≤ g) : some g ≠ ob A := fun e => by
  have := (own_ob h g e.symm).2
  omega
end Go.Proofs.YtoalncojijmelaaGreatDoor
