/-
  Words for texts and records in memory, for seats without field; Strings, Recs (are rows alike?).
-/
import Derived.Test.YthkjhenaicbepaaDoorRows
import Derived.Test.YthkjhenaicbepaaDoorGr
import Derived.Test.YthkjhenaicbepaaDoorG1
import Derived.BigQuiet
import Derived.Deep.QuietTactic
namespace Go.Proofs.YthkjhenaicbepaaDoor
open Go.RowKit

/-- The cells of texts. -/
def lvs (l : List (List UInt8)) : List Value := l.map fun x => Value.string ⟨x.toArray⟩
theorem lvs_length (l : List (List UInt8)) : (lvs l).length = l.length := by simp [lvs]
theorem lvs_append (l r : List (List UInt8)) : lvs (l ++ r) = lvs l ++ lvs r := by simp [lvs]
theorem lvs_one (l : List (List UInt8)) : ∀ u ∈ lvs l, u.oneCell' = true := by
  intro u hu
  obtain ⟨_, _, rfl⟩ := List.mem_map.1 hu
  rfl
theorem lvs_get (l : List (List UInt8)) (j : Nat) (x : List UInt8) (h : l[j]? = some x) : (lvs l)[j]? = some (.string ⟨x.toArray⟩) := by simp [lvs, h]
theorem str_eq {a b : ByteArray} (h : a.data.toList = b.data.toList) : a = b := by
  cases a with
  | mk x => cases b with
    | mk y =>
      have : x = y := Array.toList_inj.1 h
      rw [this]
theorem str_len (s : ByteArray) : s.data.toList.length = s.size := by rw [Array.length_toList]; rfl
section
variable {P : Program} {t e : TypeId} {zv : Value} {z y : Nat}
/-- 'append(x, y...)', x a row of the call's own (or nil). -/
theorem Sl.appendAt (u : Sl P t e zv z y) {w : World} {base n c B m d : Nat} {A D : Option Addr} {vs us : List Value} (ty : TypeId) (hown : Oc z w e base A n c vs) (hr : Rc z w B D m d us) (h1 : ∀ v ∈ us, v.oneCell' = true)
    (hsm : (n + m) * y ≤ 140737488355328) (hnm : n + m ≤ 140737488355328) (hbase : base ≤ w.heap.size) :
    ∃ A' c' w', (Builtin.append_ #[t, t] ty #[.slice A n c, .slice D m d]).run P w = .ok (.slice A' (n + m) c') w' ∧ Oc z w' e base A' (n + m) c' (vs ++ us) ∧ Grows w w' A A' := by
  obtain ⟨i, hi, hz0, hz1, hz2⟩ := info_parts u.inf
  obtain ⟨hl, h2, h3, h4⟩ := hr
  have key : ∀ ad : Addr, D = some ad → (∀ j v, us[j]? = some v → w.cell? (ad.add j) = some v) →
      ∃ A' c' w', (Builtin.append_ #[t, t] ty #[.slice A n c, .slice D m d]).run P w = .ok (.slice A' (n + m) c') w' ∧ Oc z w' e base A' (n + m) c' (vs ++ us) ∧ Grows w w' A A' := by
    intro ad hD hcell
    subst hD
    obtain ⟨v', w', hrun, ho, hg, _, hloc⟩ := run_append_own_at (P := P) (w := w) base t ty e i zv z y u.sl hi hz0 hz1 hz2 u.zc u.zp _ _ _ hown ad m d us hl hcell h1 (by simp only [maxLen]; omega) hsm hbase
    have hsh : ∃ A' c', v' = .slice A' (n + m) c' := by
      rcases ho.2 with ⟨hv, hn⟩ | ⟨g, cap, cur, hv, _⟩
      · exact ⟨_, _, by rw [hv, hn]⟩
      · exact ⟨_, _, hv⟩
    obtain ⟨A', c', hv⟩ := hsh
    subst hv
    rw [ownBlock_slice, ownBlock_slice] at hloc
    rw [ownBlock_slice] at hg
    exact ⟨A', c', w', hrun, ho, hg, hloc.imp id fun h => ⟨_, h, Nat.le_refl _⟩⟩
  by_cases h0 : m = 0
  · subst h0
    obtain rfl : us = [] := List.eq_nil_of_length_eq_zero (by simpa using hl)
    cases hD : D with
    | some ad => rw [hD] at key; exact key ad rfl (fun j v hj => by simp at hj)
    | none =>
      refine ⟨A, c, w, ?_, by simpa using hown, Grows.refl _ _⟩
      have hrun : (Builtin.append_ #[t, t] ty #[.slice A n c, .slice none 0 d]).run P w = .ok (.slice A n c) w := by
        rcases hown.2 with ⟨hv, hn⟩ | ⟨g, cap, cur, hv, _, _, hnc, _⟩
        · rw [hv]
          simp [Builtin.append_, run_underlying u.sl, sizeOf, typeInfo, hi, Builtin.lenOf, Builtin.firstCells]
        · rw [hv]
          simp [Builtin.append_, run_underlying u.sl, sizeOf, typeInfo, hi, Builtin.lenOf, Builtin.firstCells, hnc, storeCells]
      simpa using hrun
  · obtain ⟨b, off, hD, hb, hc⟩ := h4 (by omega)
    refine key _ hD fun j v hj => ?_
    have := hc j v hj
    by_cases hj0 : j = 0
    · subst hj0; simpa [Addr.add] using this
    · simpa [Addr.add, hj0] using this
theorem Sl.wpAppAt (u : Sl P t e zv z y) {w : World} {ops : Array Oper} {rest : List Oper} {o : Oper} {a : Act} {Q : Exit → Act → World → Prop} (hgd : o.guard = none) (p q : Operand)
    (ho : o.op = .call { callee := .builtin .append, args := #[p, q], argTypes := #[t, t] })
    {base n c B m d N : Nat} {A D : Option Addr} {vs us ws : List Value} (hx : a.eval p = .slice A n c) (hy : a.eval q = .slice D m d) (hown : Oc z w e base A n c vs) (hr : Rc z w B D m d us) (h1 : ∀ v ∈ us, v.oneCell' = true)
    (hN : n + m = N) (hvs : vs ++ us = ws) (hsm : N * y ≤ 140737488355328) (hnm : N ≤ 140737488355328) (hbase : base ≤ w.heap.size)
    (h : ∀ A' c' w', Oc z w' e base A' N c' ws → Grows w w' A A' → wpList P ops Q rest (a.put o.dst (.slice A' N c')) w') : wpList P ops Q (o :: rest) a w := by
  subst hN hvs
  refine wpList_plain hgd fun _ hK => ?_
  obtain ⟨A', c', w', hrun, h2, h3⟩ := u.appendAt o.type hown hr h1 hsm hnm hbase
  unfold Oper.wp execOp
  simp only [ho, resolve, invoke, builtin, Sem.run_bind, Sem.run_pure, Result.andThen_ok, List.map_toArray, List.map_cons, List.map_nil, hx, hy, hrun]
  exact hK _ _ (h A' c' w' h2 h3)
end

theorem oc_ob {z : Nat} {w : World} {e : TypeId} {base n c : Nat} {A : Option Addr} {vs : List Value} (h : Oc z w e base A n c vs) (g : Nat) (hg : ob A = some g) : base ≤ g ∧ g < w.heap.size :=
  World.ownsRow.lt h g (by rw [ownBlock_slice]; exact hg)
theorem oc_beside {z : Nat} {w w' : World} {e : TypeId} {base n c : Nat} {A D D' : Option Addr} {vs : List Value} (h : Oc z w e base A n c vs) (hg : Grows w w' D D') (hne : ob A = none ∨ ob A ≠ ob D) : Oc z w' e base A n c vs :=
  World.ownsRow.kept h hg.1 (by rw [ownBlock_slice]; exact hne)
theorem Grows.belowC {z : Nat} {w w' : World} {A A' : Option Addr} {e : TypeId} {base n c : Nat} {vs : List Value} (h : Grows w w' A A') (ho : Oc z w e base A n c vs) (hb : base ≤ w.heap.size) : Below base w w' :=
  ⟨h.1.os, h.1.tape, h.1.output, h.1.size, fun k hk => h.1.block k (by omega) fun e => by have := (oc_ob ho k e.symm).1; omega⟩

/-- The value v is the record r. -/
def Rr (w : World) (B : Nat) (v : Value) (r : List (List UInt8)) : Prop := ∃ A n c, v = .slice A n c ∧ Rc 1 w B A n c (lvs r)
/-- The values are the records. -/
def Rrs (w : World) (B : Nat) (vs : List Value) (l : List (List (List UInt8))) : Prop := vs.length = l.length ∧ ∀ (j : Nat) (v : Value) (r : List (List UInt8)), vs[j]? = some v → l[j]? = some r → Rr w B v r
theorem Rr.below {w w' : World} {B : Nat} {v : Value} {r : List (List UInt8)} (h : Rr w B v r) (hb : Below B w w') : Rr w' B v r := by
  obtain ⟨A, n, c, e, h⟩ := h
  exact ⟨A, n, c, e, h.below hb⟩
theorem Rr.more {w : World} {B B' : Nat} {v : Value} {r : List (List UInt8)} (h : Rr w B v r) (hb : B ≤ B') : Rr w B' v r := by
  obtain ⟨A, n, c, e, h⟩ := h
  exact ⟨A, n, c, e, h.more hb⟩
theorem Rrs.below {w w' : World} {B : Nat} {vs : List Value} {l : List (List (List UInt8))} (h : Rrs w B vs l) (hb : Below B w w') : Rrs w' B vs l :=
  ⟨h.1, fun j v r h1 h2 => (h.2 j v r h1 h2).below hb⟩
theorem Rrs.more {w : World} {B B' : Nat} {vs : List Value} {l : List (List (List UInt8))} (h : Rrs w B vs l) (hb : B ≤ B') : Rrs w B' vs l :=
  ⟨h.1, fun j v r h1 h2 => (h.2 j v r h1 h2).more hb⟩
theorem Rrs.nil (w : World) (B : Nat) : Rrs w B [] [] := ⟨rfl, fun j v r h => by simp at h⟩
theorem Rrs.snoc {w : World} {B : Nat} {vs : List Value} {l : List (List (List UInt8))} {v : Value} {r : List (List UInt8)} (h : Rrs w B vs l) (hr : Rr w B v r) : Rrs w B (vs ++ [v]) (l ++ [r]) := by
  refine ⟨by simp [h.1], fun j u s h1 h2 => ?_⟩
  by_cases hj : j < vs.length
  · rw [List.getElem?_append_left hj] at h1
    rw [List.getElem?_append_left (by rw [← h.1]; exact hj)] at h2
    exact h.2 j u s h1 h2
  · rw [List.getElem?_append_right (by omega)] at h1
    rw [List.getElem?_append_right (by rw [← h.1]; omega), ← h.1] at h2
    by_cases h0 : j - vs.length = 0
    · rw [h0] at h1 h2
      simp at h1 h2
      subst h1 h2
      exact hr
    · rw [List.getElem?_eq_none (by simp; omega)] at h1
      cases h1
/-- A slice of records. -/
def RL (w : World) (B : Nat) (A : Option Addr) (n c : Nat) (l : List (List (List UInt8))) : Prop := ∃ vs, Rc 1 w B A n c vs ∧ Rrs w B vs l
theorem RL.len {w : World} {B : Nat} {A : Option Addr} {n c : Nat} {l : List (List (List UInt8))} (h : RL w B A n c l) : l.length = n := by
  obtain ⟨vs, h1, h2⟩ := h
  rw [← h2.1, h1.len1]
theorem RL.below {w w' : World} {B : Nat} {A : Option Addr} {n c : Nat} {l : List (List (List UInt8))} (h : RL w B A n c l) (hb : Below B w w') : RL w' B A n c l := by
  obtain ⟨vs, h1, h2⟩ := h
  exact ⟨vs, h1.below hb, h2.below hb⟩
theorem RL.more {w : World} {B B' : Nat} {A : Option Addr} {n c : Nat} {l : List (List (List UInt8))} (h : RL w B A n c l) (hb : B ≤ B') : RL w B' A n c l := by
  obtain ⟨vs, h1, h2⟩ := h
  exact ⟨vs, h1.more hb, h2.more hb⟩
theorem RL.at_ {w : World} {B : Nat} {A : Option Addr} {n c k : Nat} {l : List (List (List UInt8))} (h : RL w B A n c l) (hk : k < n) :
    ∃ b off D m d r, A = some ⟨b, off, none⟩ ∧ b < B ∧ w.cell? ⟨b, off + k, none⟩ = some (.slice D m d) ∧ l[k]? = some r ∧ l.drop k = r :: l.drop (k + 1) ∧ Rc 1 w B D m d (lvs r) := by
  have hl := h.len
  obtain ⟨vs, h1, h2⟩ := h
  obtain ⟨b, off, v, rfl, hb, hc, hv⟩ := h1.at_ hk
  have hkl : k < l.length := by omega
  obtain ⟨D, m, d, rfl, hr⟩ := h2.2 k v l[k] hv (List.getElem?_eq_getElem hkl)
  exact ⟨b, off, D, m, d, l[k], rfl, hb, hc, List.getElem?_eq_getElem hkl, List.drop_eq_getElem_cons hkl, hr⟩
theorem lvs_at {w : World} {B : Nat} {A : Option Addr} {n c k : Nat} {r : List (List UInt8)} (h : Rc 1 w B A n c (lvs r)) (hk : k < n) :
    ∃ b off x, A = some ⟨b, off, none⟩ ∧ b < B ∧ w.cell? ⟨b, off + k, none⟩ = some (.string ⟨x.toArray⟩) ∧ r[k]? = some x ∧ r.drop k = x :: r.drop (k + 1) := by
  have hl : r.length = n := by have := h.len1; rw [lvs_length] at this; exact this
  obtain ⟨b, off, v, rfl, hb, hc, hv⟩ := h.at_ hk
  have hkl : k < r.length := by omega
  rw [lvs_get r k r[k] (List.getElem?_eq_getElem hkl)] at hv
  injection hv with hv
  subst hv
  exact ⟨b, off, r[k], rfl, hb, hc, List.getElem?_eq_getElem hkl, List.drop_eq_getElem_cons hkl⟩
theorem lvs_num {z : World} {B : Nat} {A : Option Addr} {n c : Nat} {r : List (List UInt8)} (h : Rc 1 z B A n c (lvs r)) : r.length = n := by have := h.len1; rw [lvs_length] at this; exact this

def RetQ (w : World) (v : Value) (e : Ending) (w' : World) : Prop := e = .returned v ∧ ∃ q, w' = w.drewN q
def StrRel (n : Nat) (w : World) (t : Value) (wr : World) : Prop := ∃ k q : Nat, t = .int .i64 (k : Int) ∧ k ≤ n ∧ wr = w.drewN q

def RecRel (l : List (List (List UInt8))) (A A' : Option Addr) (n c c' : Nat) (w : World) (t : Value) (wr : World) : Prop :=
  ∃ k : Nat, t = .int .i64 (k : Int) ∧ k ≤ n ∧ RL wr wr.heap.size A n c l ∧ RL wr wr.heap.size A' n c' l ∧ ∃ q, wr = w.drewN q

end Go.Proofs.YthkjhenaicbepaaDoor
