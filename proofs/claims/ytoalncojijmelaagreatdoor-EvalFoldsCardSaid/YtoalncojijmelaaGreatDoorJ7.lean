/-
  Joined: Rw Pw Fw.
-/
import Derived.Test.YtoalncojijmelaaGreatDoorRows
import Derived.Test.YtoalncojijmelaaGreatDoorJ3
import Derived.BigQuiet
import Derived.Deep.QuietTactic
/-
  Words for texts and records in memory, for seats without field; Strings, Recs (are rows alike?).
-/
namespace Go.Proofs.YtoalncojijmelaaGreatDoor
open Go.RowKit

/-- The cells of texts. -/
def lvs (l : List (List UInt8)) : List Value := l.map fun x => Value.string ⟨x.toArray⟩
theorem lvs_length (l : List (List UInt8)) : (lvs l).length = l.length := by simp [lvs]
theorem lvs_append (l r : List (List UInt8)) : lvs (l ++ r) = lvs l ++ lvs r := by simp [lvs]
theorem lvs_one (l : List (List UInt8)) : ∀ u ∈ lvs l, u.oneCell' = true := by
  intro u hu
  obtain ⟨_, _, rfl⟩ := List.mem_map.1 hu
  rfl
theorem lvs_get (l : List (List UInt8)) (j : Nat) (x : List UInt8) (h : l[j]? = some x) : (lvs l)[j]? = some (.string ⟨x.toArray⟩) := by simp [lvs, h]
theorem str_eq {a b : ByteArray} (h : a.data.toList = b.data.toList) : a = b := by
  cases a with
  | mk x => cases b with
    | mk y =>
      have : x = y := Array.toList_inj.1 h
      rw [this]
theorem str_len (s : ByteArray) : s.data.toList.length = s.size := by rw [Array.length_toList]; rfl
section
variable {P : Program} {t e : TypeId} {zv : Value} {z y : Nat}
/-- 'append(x, y...)', x a row of the call's own (or nil). -/
theorem Sl.appendAt (u : Sl P t e zv z y) {w : World} {base n c B m d : Nat} {A D : Option Addr} {vs us : List Value} (ty : TypeId) (hown : Oc z w e base A n c vs) (hr : Rc z w B D m d us) (h1 : ∀ v ∈ us, v.oneCell' = true)
    (hsm : (n + m) * y ≤ 140737488355328) (hnm : n + m ≤ 140737488355328) (hbase : base ≤ w.heap.size) :
    ∃ A' c' w', (Builtin.append_ #[t, t] ty #[.slice A n c, .slice D m d]).run P w = .ok (.slice A' (n + m) c') w' ∧ Oc z w' e base A' (n + m) c' (vs ++ us) ∧ Grows w w' A A' := by
  obtain ⟨i, hi, hz0, hz1, hz2⟩ := info_parts u.inf
  obtain ⟨hl, h2, h3, h4⟩ := hr
  have key : ∀ ad : Addr, D = some ad → (∀ j v, us[j]? = some v → w.cell? (ad.add j) = some v) →
      ∃ A' c' w', (Builtin.append_ #[t, t] ty #[.slice A n c, .slice D m d]).run P w = .ok (.slice A' (n + m) c') w' ∧ Oc z w' e base A' (n + m) c' (vs ++ us) ∧ Grows w w' A A' := by
    intro ad hD hcell
    subst hD
    obtain ⟨v', w', hrun, ho, hg, _, hloc⟩ := run_append_own_at (P := P) (w := w) base t ty e i zv z y u.sl hi hz0 hz1 hz2 u.zc u.zp _ _ _ hown ad m d us hl hcell h1 (by simp only [maxLen]; omega) hsm hbase
    have hsh : ∃ A' c', v' = .slice A' (n + m) c' := by
      rcases ho.2 with ⟨hv, hn⟩ | ⟨g, cap, cur, hv, _⟩
      · exact ⟨_, _, by rw [hv, hn]⟩
      · exact ⟨_, _, hv⟩
    obtain ⟨A', c', hv⟩ := hsh
    subst hv
    rw [ownBlock_slice, ownBlock_slice] at hloc
    rw [ownBlock_slice] at hg
    exact ⟨A', c', w', hrun, ho, hg, hloc.imp id fun h => ⟨_, h, Nat.le_refl _⟩⟩
  by_cases h0 : m = 0
  · subst h0
    obtain rfl : us = [] := List.eq_nil_of_length_eq_zero (by simpa using hl)
    cases hD : D with
    | some ad => rw [hD] at key; exact key ad rfl (fun j v hj => by simp at hj)
    | none =>
      refine ⟨A, c, w, ?_, by simpa using hown, Grows.refl _ _⟩
      have hrun : (Builtin.append_ #[t, t] ty #[.slice A n c, .slice none 0 d]).run P w = .ok (.slice A n c) w := by
        rcases hown.2 with ⟨hv, hn⟩ | ⟨g, cap, cur, hv, _, _, hnc, _⟩
        · rw [hv]
          simp [Builtin.append_, run_underlying u.sl, sizeOf, typeInfo, hi, Builtin.lenOf, Builtin.firstCells]
        · rw [hv]
          simp [Builtin.append_, run_underlying u.sl, sizeOf, typeInfo, hi, Builtin.lenOf, Builtin.firstCells, hnc, storeCells]
      simpa using hrun
  · obtain ⟨b, off, hD, hb, hc⟩ := h4 (by omega)
    refine key _ hD fun j v hj => ?_
    have := hc j v hj
    by_cases hj0 : j = 0
    · subst hj0; simpa [Addr.add] using this
    · simpa [Addr.add, hj0] using this
theorem Sl.wpAppAt (u : Sl P t e zv z y) {w : World} {ops : Array Oper} {rest : List Oper} {o : Oper} {a : Act} {Q : Exit → Act → World → Prop} (hgd : o.guard = none) (p q : Operand)
    (ho : o.op = .call { callee := .builtin .append, args := #[p, q], argTypes := #[t, t] })
    {base n c B m d N : Nat} {A D : Option Addr} {vs us ws : List Value} (hx : a.eval p = .slice A n c) (hy : a.eval q = .slice D m d) (hown : Oc z w e base A n c vs) (hr : Rc z w B D m d us) (h1 : ∀ v ∈ us, v.oneCell' = true)
    (hN : n + m = N) (hvs : vs ++ us = ws) (hsm : N * y ≤ 140737488355328) (hnm : N ≤ 140737488355328) (hbase : base ≤ w.heap.size)
    (h : ∀ A' c' w', Oc z w' e base A' N c' ws → Grows w w' A A' → wpList P ops Q rest (a.put o.dst (.slice A' N c')) w') : wpList P ops Q (o :: rest) a w := by
  subst hN hvs
  refine wpList_plain hgd fun _ hK => ?_
  obtain ⟨A', c', w', hrun, h2, h3⟩ := u.appendAt o.type hown hr h1 hsm hnm hbase
  unfold Oper.wp execOp
  simp only [ho, resolve, invoke, builtin, Sem.run_bind, Sem.run_pure, Result.andThen_ok, List.map_toArray, List.map_cons, List.map_nil, hx, hy, hrun]
  exact hK _ _ (h A' c' w' h2 h3)
end

theorem oc_ob {z : Nat} {w : World} {e : TypeId} {base n c : Nat} {A : Option Addr} {vs : List Value} (h : Oc z w e base A n c vs) (g : Nat) (hg : ob A = some g) : base ≤ g ∧ g < w.heap.size :=
  World.ownsRow.lt h g (by rw [ownBlock_slice]; exact hg)
theorem oc_beside {z : Nat} {w w' : World} {e : TypeId} {base n c : Nat} {A D D' : Option Addr} {vs : List Value} (h : Oc z w e base A n c vs) (hg : Grows w w' D D') (hne : ob A = none ∨ ob A ≠ ob D) : Oc z w' e base A n c vs :=
  World.ownsRow.kept h hg.1 (by rw [ownBlock_slice]; exact hne)
theorem Grows.belowC {z : Nat} {w w' : World} {A A' : Option Addr} {e : TypeId} {base n c : Nat} {vs : List Value} (h : Grows w w' A A') (ho : Oc z w e base A n c vs) (hb : base ≤ w.heap.size) : Below base w w' :=
  ⟨h.1.os, h.1.tape, h.1.output, h.1.size, fun k hk => h.1.block k (by omega) fun e => by have := (oc_ob ho k e.symm).1; omega⟩

/-- The value v is the record r. -/
def Rr (w : World) (B : Nat) (v : Value) (r : List (List UInt8)) : Prop := ∃ A n c, v = .slice A n c ∧ Rc 1 w B A n c (lvs r)
/-- The values are the records. -/
def Rrs (w : World) (B : Nat) (vs : List Value) (l : List (List (List UInt8))) : Prop := vs.length = l.length ∧ ∀ (j : Nat) (v : Value) (r : List (List UInt8)), vs[j]? = some v → l[j]? = some r → Rr w B v r
theorem Rr.below {w w' : World} {B : Nat} {v : Value} {r : List (List UInt8)} (h : Rr w B v r) (hb : Below B w w') : Rr w' B v r := by
  obtain ⟨A, n, c, e, h⟩ := h
  exact ⟨A, n, c, e, h.below hb⟩
theorem Rr.more {w : World} {B B' : Nat} {v : Value} {r : List (List UInt8)} (h : Rr w B v r) (hb : B ≤ B') : Rr w B' v r := by
  obtain ⟨A, n, c, e, h⟩ := h
  exact ⟨A, n, c, e, h.more hb⟩
theorem Rrs.below {w w' : World} {B : Nat} {vs : List Value} {l : List (List (List UInt8))} (h : Rrs w B vs l) (hb : Below B w w') : Rrs w' B vs l :=
  ⟨h.1, fun j v r h1 h2 => (h.2 j v r h1 h2).below hb⟩
theorem Rrs.more {w : World} {B B' : Nat} {vs : List Value} {l : List (List (List UInt8))} (h : Rrs w B vs l) (hb : B ≤ B') : Rrs w B' vs l :=
  ⟨h.1, fun j v r h1 h2 => (h.2 j v r h1 h2).more hb⟩
theorem Rrs.nil (w : World) (B : Nat) : Rrs w B [] [] := ⟨rfl, fun j v r h => by simp at h⟩
theorem Rrs.snoc {w : World} {B : Nat} {vs : List Value} {l : List (List (List UInt8))} {v : Value} {r : List (List UInt8)} (h : Rrs w B vs l) (hr : Rr w B v r) : Rrs w B (vs ++ [v]) (l ++ [r]) := by
  refine ⟨by simp [h.1], fun j u s h1 h2 => ?_⟩
  by_cases hj : j < vs.length
  · rw [List.getElem?_append_left hj] at h1
    rw [List.getElem?_append_left (by rw [← h.1]; exact hj)] at h2
    exact h.2 j u s h1 h2
  · rw [List.getElem?_append_right (by omega)] at h1
    rw [List.getElem?_append_right (by rw [← h.1]; omega), ← h.1] at h2
    by_cases h0 : j - vs.length = 0
    · rw [h0] at h1 h2
      simp at h1 h2
      subst h1 h2
      exact hr
    · rw [List.getElem?_eq_none (by simp; omega)] at h1
      cases h1
/-- A slice of records. -/
def RL (w : World) (B : Nat) (A : Option Addr) (n c : Nat) (l : List (List (List UInt8))) : Prop := ∃ vs, Rc 1 w B A n c vs ∧ Rrs w B vs l
theorem RL.len {w : World} {B : Nat} {A : Option Addr} {n c : Nat} {l : List (List (List UInt8))} (h : RL w B A n c l) : l.length = n := by
  obtain ⟨vs, h1, h2⟩ := h
  rw [← h2.1, h1.len1]
theorem RL.below {w w' : World} {B : Nat} {A : Option Addr} {n c : Nat} {l : List (List (List UInt8))} (h : RL w B A n c l) (hb : Below B w w') : RL w' B A n c l := by
  obtain ⟨vs, h1, h2⟩ := h
  exact ⟨vs, h1.below hb, h2.below hb⟩
theorem RL.more {w : World} {B B' : Nat} {A : Option Addr} {n c : Nat} {l : List (List (List UInt8))} (h : RL w B A n c l) (hb : B ≤ B') : RL w B' A n c l := by
  obtain ⟨vs, h1, h2⟩ := h
  exact ⟨vs, h1.more hb, h2.more hb⟩
theorem RL.at_ {w : World} {B : Nat} {A : Option Addr} {n c k : Nat} {l : List (List (List UInt8))} (h : RL w B A n c l) (hk : k < n) :
    ∃ b off D m d r, A = some ⟨b, off, none⟩ ∧ b < B ∧ w.cell? ⟨b, off + k, none⟩ = some (.slice D m d) ∧ l[k]? = some r ∧ l.drop k = r :: l.drop (k + 1) ∧ Rc 1 w B D m d (lvs r) := by
  have hl := h.len
  obtain ⟨vs, h1, h2⟩ := h
  obtain ⟨b, off, v, rfl, hb, hc, hv⟩ := h1.at_ hk
  have hkl : k < l.length := by omega
  obtain ⟨D, m, d, rfl, hr⟩ := h2.2 k v l[k] hv (List.getElem?_eq_getElem hkl)
  exact ⟨b, off, D, m, d, l[k], rfl, hb, hc, List.getElem?_eq_getElem hkl, List.drop_eq_getElem_cons hkl, hr⟩
theorem lvs_at {w : World} {B : Nat} {A : Option Addr} {n c k : Nat} {r : List (List UInt8)} (h : Rc 1 w B A n c (lvs r)) (hk : k < n) :
    ∃ b off x, A = some ⟨b, off, none⟩ ∧ b < B ∧ w.cell? ⟨b, off + k, none⟩ = some (.string ⟨x.toArray⟩) ∧ r[k]? = some x ∧ r.drop k = x :: r.drop (k + 1) := by
  have hl : r.length = n := by have := h.len1; rw [lvs_length] at this; exact this
  obtain ⟨b, off, v, rfl, hb, hc, hv⟩ := h.at_ hk
  have hkl : k < r.length := by omega
  rw [lvs_get r k r[k] (List.getElem?_eq_getElem hkl)] at hv
  injection hv with hv
  subst hv
  exact ⟨b, off, r[k], rfl, hb, hc, List.getElem?_eq_getElem hkl, List.drop_eq_getElem_cons hkl⟩
theorem lvs_num {z : World} {B : Nat} {A : Option Addr} {n c : Nat} {r : List (List UInt8)} (h : Rc 1 z B A n c (lvs r)) : r.length = n := by have := h.len1; rw [lvs_length] at this; exact this

def RetQ (w : World) (v : Value) (e : Ending) (w' : World) : Prop := e = .returned v ∧ ∃ q, w' = w.drewN q
def StrRel (n : Nat) (w : World) (t : Value) (wr : World) : Prop := ∃ k q : Nat, t = .int .i64 (k : Int) ∧ k ≤ n ∧ wr = w.drewN q

def RecRel (l : List (List (List UInt8))) (A A' : Option Addr) (n c c' : Nat) (w : World) (t : Value) (wr : World) : Prop :=
  ∃ k : Nat, t = .int .i64 (k : Int) ∧ k ≤ n ∧ RL wr wr.heap.size A n c l ∧ RL wr wr.heap.size A' n c' l ∧ ∃ q, wr = w.drewN q

end Go.Proofs.YtoalncojijmelaaGreatDoor

/-
  Words for pieces and records that lie in given blocks (so that they stay while another block is turned); Pieces (are rows alike?).
-/
namespace Go.Proofs.YtoalncojijmelaaGreatDoor
open Go.RowKit

/-- The slice holds the cells vs; its block is one of S. -/
def RcS (z : Nat) (w : World) (S : Nat → Prop) (A : Option Addr) (n c : Nat) (vs : List Value) : Prop :=
  vs.length = n * z ∧ n ≤ c ∧ c ≤ maxLen ∧ (0 < n → ∃ b off, A = some ⟨b, off, none⟩ ∧ S b ∧ ∀ j v, vs[j]? = some v → w.cell? ⟨b, off + j, none⟩ = some v)
theorem RcS.rc {z : Nat} {w : World} {B : Nat} {A : Option Addr} {n c : Nat} {vs : List Value} (h : RcS z w (· < B) A n c vs) : Rc z w B A n c vs := h
theorem Rc.s {z : Nat} {w : World} {B : Nat} {A : Option Addr} {n c : Nat} {vs : List Value} (h : Rc z w B A n c vs) : RcS z w (· < B) A n c vs := h
/-- What stood in blocks of S stands in blocks of S'. -/
def Stays (w w' : World) (S S' : Nat → Prop) : Prop := (∀ b, S b → S' b) ∧ ∀ p : Addr, S p.block → w'.cell? p = w.cell? p
theorem RcS.keep {z : Nat} {w w' : World} {S S' : Nat → Prop} {A : Option Addr} {n c : Nat} {vs : List Value} (h : RcS z w S A n c vs) (k : Stays w w' S S') : RcS z w' S' A n c vs :=
  ⟨h.1, h.2.1, h.2.2.1, fun hn => by
    obtain ⟨b, off, e, hb, hc⟩ := h.2.2.2 hn
    exact ⟨b, off, e, k.1 b hb, fun j x hx => (k.2 _ hb).trans (hc j x hx)⟩⟩
def RrS (w : World) (S : Nat → Prop) (v : Value) (r : List (List UInt8)) : Prop := ∃ A n c, v = .slice A n c ∧ RcS 1 w S A n c (lvs r)
def RrsS (w : World) (S : Nat → Prop) (vs : List Value) (l : List (List (List UInt8))) : Prop := vs.length = l.length ∧ ∀ (j : Nat) (v : Value) (r : List (List UInt8)), vs[j]? = some v → l[j]? = some r → RrS w S v r
def RLS (w : World) (S : Nat → Prop) (A : Option Addr) (n c : Nat) (l : List (List (List UInt8))) : Prop := ∃ vs, RcS 1 w S A n c vs ∧ RrsS w S vs l
def PrS (w : World) (S : Nat → Prop) (u v : Value) (p : Nat × List (List (List UInt8))) : Prop := u = .int .i64 (p.1 : Int) ∧ ∃ A n c, v = .slice A n c ∧ RLS w S A n c p.2
def PsS (w : World) (S : Nat → Prop) (vs : List Value) (l : List (Nat × List (List (List UInt8)))) : Prop :=
  vs.length = l.length * 2 ∧ ∀ (j : Nat) (p : Nat × List (List (List UInt8))), l[j]? = some p → ∃ u v, vs[j * 2]? = some u ∧ vs[j * 2 + 1]? = some v ∧ PrS w S u v p
def PLS (w : World) (S : Nat → Prop) (A : Option Addr) (n c : Nat) (l : List (Nat × List (List (List UInt8)))) : Prop := ∃ vs, RcS 2 w S A n c vs ∧ PsS w S vs l
/-- A slice of pieces. -/
def PL (w : World) (B : Nat) (A : Option Addr) (n c : Nat) (l : List (Nat × List (List (List UInt8)))) : Prop := PLS w (· < B) A n c l
theorem RLS.rl {w : World} {B : Nat} {A : Option Addr} {n c : Nat} {l : List (List (List UInt8))} (h : RLS w (· < B) A n c l) : RL w B A n c l := h
theorem RL.s {w : World} {B : Nat} {A : Option Addr} {n c : Nat} {l : List (List (List UInt8))} (h : RL w B A n c l) : RLS w (· < B) A n c l := h
section
variable {w w' : World} {S S' : Nat → Prop}
theorem RrS.keep {v : Value} {r : List (List UInt8)} (h : RrS w S v r) (k : Stays w w' S S') : RrS w' S' v r := by
  obtain ⟨A, n, c, e, h⟩ := h
  exact ⟨A, n, c, e, h.keep k⟩
theorem RrsS.keep {vs : List Value} {l : List (List (List UInt8))} (h : RrsS w S vs l) (k : Stays w w' S S') : RrsS w' S' vs l :=
  ⟨h.1, fun j v r h1 h2 => (h.2 j v r h1 h2).keep k⟩
theorem RLS.keep {A : Option Addr} {n c : Nat} {l : List (List (List UInt8))} (h : RLS w S A n c l) (k : Stays w w' S S') : RLS w' S' A n c l := by
  obtain ⟨vs, h1, h2⟩ := h
  exact ⟨vs, h1.keep k, h2.keep k⟩
theorem PrS.keep {u v : Value} {p : Nat × List (List (List UInt8))} (h : PrS w S u v p) (k : Stays w w' S S') : PrS w' S' u v p := by
  obtain ⟨e, A, n, c, e2, h⟩ := h
  exact ⟨e, A, n, c, e2, h.keep k⟩
theorem PsS.keep {vs : List Value} {l : List (Nat × List (List (List UInt8)))} (h : PsS w S vs l) (k : Stays w w' S S') : PsS w' S' vs l :=
  ⟨h.1, fun j p hp => by
    obtain ⟨u, v, h1, h2, h3⟩ := h.2 j p hp
    exact ⟨u, v, h1, h2, h3.keep k⟩⟩
theorem PLS.keep {A : Option Addr} {n c : Nat} {l : List (Nat × List (List (List UInt8)))} (h : PLS w S A n c l) (k : Stays w w' S S') : PLS w' S' A n c l := by
  obtain ⟨vs, h1, h2⟩ := h
  exact ⟨vs, h1.keep k, h2.keep k⟩
theorem RrsS.nil : RrsS w S [] [] := ⟨rfl, fun j v r h => by simp at h⟩
theorem PsS.nil : PsS w S [] [] := ⟨rfl, fun j p h => by simp at h⟩
theorem RrsS.append {vs us : List Value} {l m : List (List (List UInt8))} (h : RrsS w S vs l) (k : RrsS w S us m) : RrsS w S (vs ++ us) (l ++ m) := by
  refine ⟨by rw [List.length_append, List.length_append, h.1, k.1], fun j u s h1 h2 => ?_⟩
  by_cases hj : j < vs.length
  · rw [List.getElem?_append_left hj] at h1
    rw [List.getElem?_append_left (by rw [← h.1]; exact hj)] at h2
    exact h.2 j u s h1 h2
  · rw [List.getElem?_append_right (by omega)] at h1
    rw [List.getElem?_append_right (by rw [← h.1]; omega), ← h.1] at h2
    exact k.2 _ u s h1 h2
theorem RrsS.snoc {vs : List Value} {l : List (List (List UInt8))} {v : Value} {r : List (List UInt8)} (h : RrsS w S vs l) (hr : RrS w S v r) : RrsS w S (vs ++ [v]) (l ++ [r]) :=
  h.append ⟨rfl, fun j u s h1 h2 => by
    cases j with
    | zero => simp at h1 h2; subst h1 h2; exact hr
    | succ j => simp at h1⟩
theorem PsS.snoc {vs : List Value} {l : List (Nat × List (List (List UInt8)))} {u v : Value} {p : Nat × List (List (List UInt8))} (h : PsS w S vs l) (hp : PrS w S u v p) : PsS w S (vs ++ [u, v]) (l ++ [p]) := by
  refine ⟨by rw [List.length_append, List.length_append, h.1]; simp; omega, fun j q hq => ?_⟩
  have hl := h.1
  by_cases hj : j < l.length
  · rw [List.getElem?_append_left hj] at hq
    obtain ⟨x, y, h1, h2, h3⟩ := h.2 j q hq
    exact ⟨x, y, by rw [List.getElem?_append_left (by omega)]; exact h1, by rw [List.getElem?_append_left (by omega)]; exact h2, h3⟩
  · rw [List.getElem?_append_right (by omega)] at hq
    have e : j = l.length := by
      rcases Nat.lt_or_ge (j - l.length) 1 with h1 | h1
      · omega
      · rw [List.getElem?_eq_none (by simpa using h1)] at hq; cases hq
    subst e
    simp at hq
    subst hq
    exact ⟨u, v, by rw [List.getElem?_append_right (by omega), show l.length * 2 - vs.length = 0 by omega]; rfl, by rw [List.getElem?_append_right (by omega), show l.length * 2 + 1 - vs.length = 1 by omega]; rfl, hp⟩
theorem PLS.len {A : Option Addr} {n c : Nat} {l : List (Nat × List (List (List UInt8)))} (h : PLS w S A n c l) : l.length = n := by
  obtain ⟨vs, h1, h2⟩ := h
  have := h1.1
  have := h2.1
  omega
theorem RLS.len {A : Option Addr} {n c : Nat} {l : List (List (List UInt8))} (h : RLS w S A n c l) : l.length = n := by
  obtain ⟨vs, h1, h2⟩ := h
  have := h1.1
  have := h2.1
  omega
/-- The k-th piece. -/
theorem PLS.at_ {A : Option Addr} {n c k : Nat} {l : List (Nat × List (List (List UInt8)))} (h : PLS w S A n c l) (hk : k < n) :
    ∃ b off p D m d, A = some ⟨b, off, none⟩ ∧ S b ∧ w.cell? ⟨b, off + k * 2, none⟩ = some (.int .i64 (p.1 : Int)) ∧ w.cell? ⟨b, off + k * 2 + 1, none⟩ = some (.slice D m d) ∧ l[k]? = some p ∧ RLS w S D m d p.2 := by
  have hl := h.len
  obtain ⟨vs, h1, h2⟩ := h
  obtain ⟨b, off, e, hb, hc⟩ := h1.2.2.2 (by omega)
  have hkl : k < l.length := by omega
  obtain ⟨u, v, g1, g2, rfl, D, m, d, rfl, hr⟩ := h2.2 k l[k] (List.getElem?_eq_getElem hkl)
  exact ⟨b, off, l[k], D, m, d, e, hb, hc _ _ g1, by rw [Nat.add_assoc]; exact hc _ _ g2, List.getElem?_eq_getElem hkl, hr⟩
theorem RLS.nil : RLS w S none 0 0 [] := ⟨[], ⟨rfl, Nat.le_refl _, by simp [maxLen], fun h => absurd h (by omega)⟩, RrsS.nil⟩
theorem PLS.nil : PLS w S none 0 0 [] := ⟨[], ⟨rfl, Nat.le_refl _, by simp [maxLen], fun h => absurd h (by omega)⟩, PsS.nil⟩
end
theorem stays_below {w w' : World} {B B' : Nat} (h : Below B w w') (hb : B ≤ B') : Stays w w' (· < B) (· < B') := ⟨fun _ h => Nat.lt_of_lt_of_le h hb, fun _ hp => h.cell hp⟩
theorem PL.below {w w' : World} {B : Nat} {A : Option Addr} {n c : Nat} {l : List (Nat × List (List (List UInt8)))} (h : PL w B A n c l) (hb : Below B w w') : PL w' B A n c l := PLS.keep h (stays_below hb (Nat.le_refl _))
theorem PL.more {w : World} {B B' : Nat} {A : Option Addr} {n c : Nat} {l : List (Nat × List (List (List UInt8)))} (h : PL w B A n c l) (hb : B ≤ B') : PL w B' A n c l := PLS.keep h (stays_below (Below.refl _ _) hb)
/-- Blocks made from 'base' on. -/
def Fr (base : Nat) (w : World) (b : Nat) : Prop := base ≤ b ∧ b < w.heap.size
/-- Blocks made from 'base' on, but for a slice's own. -/
def Sf (base : Nat) (w : World) (A : Option Addr) (b : Nat) : Prop := base ≤ b ∧ b < w.heap.size ∧ some b ≠ ob A
theorem stays_weak {w : World} {S S' : Nat → Prop} (h : ∀ b, S b → S' b) : Stays w w S S' := ⟨h, fun _ _ => rfl⟩
theorem sf_grow {w w' : World} {base : Nat} {A A' : Option Addr} (h : Grows w w' A A') : Stays w w' (Sf base w A) (Sf base w' A') :=
  ⟨fun b ⟨h1, h2, h3⟩ => ⟨h1, Nat.lt_of_lt_of_le h2 h.size, fun e => by
    rcases h.2 with k | ⟨g, k, k2⟩
    · exact h3 (e.trans k)
    · rw [k] at e; injection e with e; omega⟩, fun p ⟨_, h2, h3⟩ => h.cell p h2 h3⟩
theorem sf_below {w w' : World} {base : Nat} {A : Option Addr} (h : Below w.heap.size w w') : Stays w w' (Sf base w A) (Sf base w' A) :=
  ⟨fun _ ⟨h1, h2, h3⟩ => ⟨h1, Nat.lt_of_lt_of_le h2 h.size, h3⟩, fun _ ⟨_, h2, _⟩ => h.cell h2⟩
theorem sf_fr {w : World} {base : Nat} {A : Option Addr} : ∀ b, Sf base w A b → Fr base w b := fun _ h => ⟨h.1, h.2.1⟩
theorem fr_lt {w : World} {base : Nat} : ∀ b, Fr base w b → b < w.heap.size := fun _ h => h.2
/-- Own rows. -/
theorem Oc.rcS {z : Nat} {w : World} {e : TypeId} {base n c : Nat} {A : Option Addr} {vs : List Value} (h : Oc z w e base A n c vs) : RcS z w (Fr base w) A n c vs := by
  have hr := h.rc
  refine ⟨hr.1, hr.2.1, hr.2.2.1, fun hn => ?_⟩
  obtain ⟨b, off, e, hb, hc⟩ := hr.2.2.2 hn
  exact ⟨b, off, e, oc_ob h b (by rw [e]; rfl), hc⟩
/-- A literal of one piece of one line: three new blocks. -/
theorem piece_lit (w : World) (s : List UInt8) (a : Nat) (A : Option Addr) (base : Nat) (te tr tp : TypeId) (hb : base ≤ w.heap.size) (hA : ∀ g, ob A = some g → g < w.heap.size) (w5 w6 w7 : World)
    (h5 : w5 = w.alloc (.cells #[.string ⟨s.toArray⟩] te)) (h6 : w6 = w5.alloc (.cells #[.slice (some ⟨w.heap.size, 0, none⟩) 1 1] tr)) (h7 : w7 = w6.alloc (.cells #[.int .i64 (a : Int), .slice (some ⟨w.heap.size + 1, 0, none⟩) 1 1] tp)) :
    w7.heap.size = w.heap.size + 3 ∧ Below w.heap.size w w7 ∧ Rc 2 w7 w7.heap.size (some ⟨w.heap.size + 2, 0, none⟩) 1 1 [.int .i64 (a : Int), .slice (some ⟨w.heap.size + 1, 0, none⟩) 1 1] ∧
    PrS w7 (Sf base w7 A) (.int .i64 (a : Int)) (.slice (some ⟨w.heap.size + 1, 0, none⟩) 1 1) (a, [[s]]) := by
  have z5 : w5.heap.size = w.heap.size + 1 := by rw [h5]; simp
  have z6 : w6.heap.size = w.heap.size + 2 := by rw [h6]; simp [z5]
  have z7 : w7.heap.size = w.heap.size + 3 := by rw [h7]; simp [z6]
  have b7 : Below w.heap.size w w7 := by
    rw [h7, h6, h5]
    exact (((Below.refl _ _).alloc (Nat.le_refl _) _).alloc (by simp) _).alloc (by simp; omega) _
  have g5 : w5.cell? ⟨w.heap.size, 0, none⟩ = some (.string ⟨s.toArray⟩) := by rw [h5]; simp
  have g6 : w6.cell? ⟨w.heap.size + 1, 0, none⟩ = some (.slice (some ⟨w.heap.size, 0, none⟩) 1 1) := by rw [h6, ← z5]; simp
  have g56 : w6.cell? ⟨w.heap.size, 0, none⟩ = some (.string ⟨s.toArray⟩) := by rw [h6, World.cell?_alloc_lt _ _ _ (by simp [z5])]; exact g5
  have g57 : w7.cell? ⟨w.heap.size, 0, none⟩ = some (.string ⟨s.toArray⟩) := by rw [h7, World.cell?_alloc_lt _ _ _ (by simp [z6])]; exact g56
  have g67 : w7.cell? ⟨w.heap.size + 1, 0, none⟩ = some (.slice (some ⟨w.heap.size, 0, none⟩) 1 1) := by rw [h7, World.cell?_alloc_lt _ _ _ (by simp [z6])]; exact g6
  have hne : ∀ k, some (w.heap.size + k) ≠ ob A := fun k e => by have := hA _ e.symm; omega
  refine ⟨z7, b7, ?_, rfl, _, _, _, rfl, [.slice (some ⟨w.heap.size, 0, none⟩) 1 1], ⟨rfl, Nat.le_refl _, by simp [maxLen], fun _ => ⟨_, _, rfl, ⟨by omega, by omega, hne 1⟩, fun j v hj => ?_⟩⟩, rfl, fun j v r hj hr => ?_⟩
  · have h := Rc.lit (z := 2) w6 tp #[.int .i64 (a : Int), .slice (some ⟨w.heap.size + 1, 0, none⟩) 1 1] 1 rfl (by simp [maxLen])
    rw [← h7, z6] at h
    exact h.more (by omega)
  · cases j with
    | zero => simp at hj; subst hj; exact g67
    | succ j => simp at hj
  · cases j with
    | zero =>
      simp at hj hr
      subst hj hr
      exact ⟨_, _, _, rfl, rfl, Nat.le_refl _, by simp [maxLen], fun _ => ⟨_, _, rfl, ⟨by omega, by omega, hne 0⟩, fun j v hj => by
        cases j with
        | zero => simp [lvs] at hj; subst hj; exact g57
        | succ j => simp [lvs] at hj⟩⟩
    | succ j => simp at hj
/-- A literal of one record of one text: two new blocks. -/
theorem rec_lit (w : World) (s : List UInt8) (A : Option Addr) (base : Nat) (te tr : TypeId) (hb : base ≤ w.heap.size) (hA : ∀ g, ob A = some g → g < w.heap.size) (w5 w6 : World)
    (h5 : w5 = w.alloc (.cells #[.string ⟨s.toArray⟩] te)) (h6 : w6 = w5.alloc (.cells #[.slice (some ⟨w.heap.size, 0, none⟩) 1 1] tr)) :
    w6.heap.size = w.heap.size + 2 ∧ Below w.heap.size w w6 ∧ Rc 1 w6 w6.heap.size (some ⟨w.heap.size + 1, 0, none⟩) 1 1 [.slice (some ⟨w.heap.size, 0, none⟩) 1 1] ∧
    RrS w6 (Sf base w6 A) (.slice (some ⟨w.heap.size, 0, none⟩) 1 1) [s] := by
  have z5 : w5.heap.size = w.heap.size + 1 := by rw [h5]; simp
  have z6 : w6.heap.size = w.heap.size + 2 := by rw [h6]; simp [z5]
  have b6 : Below w.heap.size w w6 := by
    rw [h6, h5]
    exact ((Below.refl _ _).alloc (Nat.le_refl _) _).alloc (by simp) _
  have g5 : w5.cell? ⟨w.heap.size, 0, none⟩ = some (.string ⟨s.toArray⟩) := by rw [h5]; simp
  have g56 : w6.cell? ⟨w.heap.size, 0, none⟩ = some (.string ⟨s.toArray⟩) := by rw [h6, World.cell?_alloc_lt _ _ _ (by simp [z5])]; exact g5
  refine ⟨z6, b6, ?_, _, _, _, rfl, rfl, Nat.le_refl _, by simp [maxLen], fun _ => ⟨_, _, rfl, ⟨by omega, by omega, fun e => by have := hA _ e.symm; omega⟩, fun j v hj => ?_⟩⟩
  · have h := Rc.lit (z := 1) w5 tr #[.slice (some ⟨w.heap.size, 0, none⟩) 1 1] 1 rfl (by simp [maxLen])
    rw [← h6, z5] at h
    exact h.more (by omega)
  · cases j with
    | zero => simp [lvs] at hj; subst hj; exact g56
    | succ j => simp [lvs] at hj

theorem rty : Sl Tryz.prog 46 24 (.slice none 0 0) 1 24 := ⟨Tryz.underlying46, by kernel_rfl, rfl, by omega⟩
end Go.Proofs.YtoalncojijmelaaGreatDoor

/-
  How much records weigh; Few.
-/
namespace Go.Proofs.YtoalncojijmelaaGreatDoor
open Go.RowKit

def wR : List (List UInt8) → Nat
  | [] => 0
  | s :: t => 1 + s.length + wR t
def wL : List (List (List UInt8)) → Nat
  | [] => 0
  | r :: t => wR r + wL t
theorem wR_mem : ∀ (r : List (List UInt8)) (s : List UInt8), s ∈ r → s.length < wR r
  | [], s, h => by cases h
  | x :: t, s, h => by
    rcases List.mem_cons.1 h with rfl | h
    · simp only [wR]; omega
    · have := wR_mem t s h
      simp only [wR]; omega
theorem wR_len : ∀ r : List (List UInt8), r.length ≤ wR r
  | [] => Nat.le_refl _
  | x :: t => by have := wR_len t; simp only [wR, List.length_cons]; omega
theorem wL_mem : ∀ (l : List (List (List UInt8))) (r : List (List UInt8)), r ∈ l → wR r ≤ wL l
  | [], r, h => by cases h
  | x :: t, r, h => by
    rcases List.mem_cons.1 h with rfl | h
    · simp only [wL]; omega
    · have := wL_mem t r h
      simp only [wL]; omega
theorem wR_app : ∀ (l r : List (List UInt8)), wR (l ++ r) = wR l + wR r
  | [], r => by simp [wR]
  | p :: t, r => by simp only [List.cons_append, wR, wR_app t r]; omega
theorem wL_app : ∀ (l r : List (List (List UInt8))), wL (l ++ r) = wL l + wL r
  | [], r => by simp [wL]
  | p :: t, r => by simp only [List.cons_append, wL, wL_app t r]; omega
theorem wR_take (l : List (List UInt8)) (k : Nat) : wR (l.take k) ≤ wR l := by
  have h := congrArg wR (List.take_append_drop k l)
  rw [wR_app] at h
  omega
theorem wL_take (l : List (List (List UInt8))) (k : Nat) : wL (l.take k) ≤ wL l := by
  have h := congrArg wL (List.take_append_drop k l)
  rw [wL_app] at h
  omega
theorem wR_snoc (l : List (List UInt8)) (k : Nat) (x : List UInt8) (h : l[k]? = some x) : wR (l.take (k + 1)) = wR (l.take k) + 1 + x.length := by
  rw [List.take_add_one, h, wR_app]
  simp [wR]; omega
theorem wL_snoc (l : List (List (List UInt8))) (k : Nat) (x : List (List UInt8)) (h : l[k]? = some x) : wL (l.take (k + 1)) = wL (l.take k) + wR x := by
  rw [List.take_add_one, h, wL_app]
  simp [wL]
def FewO (l : List (List (List UInt8))) (n : Nat) (s i : Value) : Prop := ∃ k : Nat, i = .int .i64 (k : Int) ∧ k ≤ n ∧ s = .int .i64 (wL (l.take k) : Int) ∧ wL (l.take k) ≤ 4000
def FewI (r : List (List UInt8)) (S m : Nat) (s i : Value) : Prop := ∃ j : Nat, i = .int .i64 (j : Int) ∧ j ≤ m ∧ s = .int .i64 ((S + wR (r.take j) : Nat) : Int) ∧ S + wR (r.take j) ≤ 4000

set_option maxRecDepth 100000 in
set_option maxHeartbeats 3000000 in
/-- Few -/
theorem fewR_c (A : Option Addr) (n c B : Nat) (l : List (List (List UInt8))) (w : World) (hr : RL w B A n c l) (hz : ∀ r ∈ l, ∀ q ∈ r, q.length ≤ 140737488355328) (N : Int) (o : Bool) (ho : o = decide (wL l ≤ 4000 ∧ (l.length : Int) ≤ N)) :
    Calls Tryz.prog 16 #[.slice A n c, .int .i64 N, .int .i64 4000] w fun e w' => e = .returned (.bool o) ∧ w = w' := by
  have hl := hr.len
  have hn : n ≤ 9223372036854775807 := by obtain ⟨vs, h1, _⟩ := hr; have h2 := h1.2.1; have h3 := h1.2.2.1; unfold maxLen at h3; omega
  have Hr := Lib.hid hr; have Hl := Lib.hid hl; have Hz := Lib.hid hz; have Ho := Lib.hid ho; clear hr hl hz ho
  go_enter Tryz.func16, Tryz.ntmps16
  go_wp2
  go_loop [7, 8] (fun s i => FewO l n s i) (fun _ i => n - (intOf i).toNat)
  case atStart => exact ⟨0, rfl, Nat.zero_le _, rfl, by simp [wL]⟩
  case round =>
    obtain ⟨k, rfl, hk, rfl, h4⟩ := hrel
    by_cases hlt : k < n
    · obtain ⟨b, off, D, m, d, r, rfl, hbB, hcell, hx, _, hrec⟩ := Hr.out.at_ hlt
      have hrl := lvs_num hrec
      have hm : m ≤ 9223372036854775807 := by have h2 := hrec.2.1; have h3 := hrec.2.2.1; unfold maxLen at h3; omega
      have hzr := Hz.out r (List.mem_of_getElem? hx)
      have hs := wL_snoc l k r hx
      have htk := wL_take l (k + 1)
      obtain ⟨S, hS⟩ : ∃ S, S = wL (l.take k) := ⟨_, rfl⟩
      rw [← hS] at hs h4 ⊢
      have Hrec := Lib.hid hrec; have Hrl := Lib.hid hrl; have Hzr := Lib.hid hzr; have Hs := Lib.hid hs; have Htk := Lib.hid htk; clear hrec hrl hzr hs htk hx hS
      go_wp2
      go_loop [7, 9] (fun s i => FewI r S m s i) (fun _ i => m - (intOf i).toNat)
      case atStart => exact ⟨0, rfl, Nat.zero_le _, by simp [wR], by simp [wR]; exact h4⟩
      case round =>
        obtain ⟨j, rfl, hj, rfl, h5⟩ := hrel
        by_cases hjt : j < m
        · obtain ⟨b2, off2, x, rfl, hb2, hcx, hx, _⟩ := lvs_at Hrec.out hjt
          have hxl := Hzr.out x (List.mem_of_getElem? hx)
          have hs2 := wR_snoc r j x hx
          have htk2 := wR_take r (j + 1)
          obtain ⟨S2, hS2⟩ : ∃ S2, S2 = S + wR (r.take j) := ⟨_, rfl⟩
          rw [← hS2] at h5 ⊢
          have hs3 : S + wR (r.take (j + 1)) = S2 + 1 + x.length := by omega
          have Hs3 := Lib.hid hs3; have Htk2 := Lib.hid htk2; clear hs2 hs3 htk2 hx hS2
          by_cases hbig : (4000 : Int) < (S2 : Int) + 1 + (x.length : Int)
          · have ho' : o = false := by
              rw [Ho.out]
              have h1 := Hs3.out
              have h2 := Htk2.out
              have h3 := Hs.out
              have h4 := Htk.out
              exact decide_eq_false (by omega)
            subst ho'
            go_wp2
            go_ret
            exact ⟨rfl, rfl⟩
          · go_wp2
            go_round
            case rel => exact ⟨j + 1, by go_num, by omega, by rw [Hs3.out]; go_num, by have := Hs3.out; omega⟩
            case measure => simp [intOf]; omega
        · rw [List.take_of_length_le (by rw [Hrl.out]; omega)] at h5 ⊢
          have hs4 : wL (l.take (k + 1)) = S + wR r := Hs.out
          have Hs4 := Lib.hid hs4
          clear hs4
          go_wp2
          go_round
          case rel => exact ⟨k + 1, by go_num, by omega, by rw [Hs4.out], by rw [Hs4.out]; exact h5⟩
          case measure => simp [intOf]; omega
    · rw [List.take_of_length_le (by rw [Hl.out]; omega)] at h4 ⊢
      by_cases h120 : (n : Int) ≤ N
      · have ho' : o = true := by
          rw [Ho.out]
          have := Hl.out
          exact decide_eq_true ⟨h4, by omega⟩
        subst ho'
        have hd : decide ((n : Int) ≤ N) = true := by simp; omega
        go_wp2
        go_ret
        exact ⟨by first | rfl | (show Ending.returned (.bool (decide ((n : Int) ≤ N))) = _; rw [hd]), rfl⟩
      · have ho' : o = false := by
          rw [Ho.out]
          have := Hl.out
          exact decide_eq_false (by omega)
        subst ho'
        have hd : decide ((n : Int) ≤ N) = false := by simp; omega
        go_wp2
        go_ret
        exact ⟨rfl, rfl⟩
end Go.Proofs.YtoalncojijmelaaGreatDoor
