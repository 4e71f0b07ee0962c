import Derived.BigQuiet
import Derived.Test.YtkekmokdlgocaaaGreatDoorJW4
set_option maxRecDepth 100000
set_option maxHeartbeats 4000000
namespace Go.Proofs.YtkekmokdlgocaaaGreatDoor
open Go.RowKit
def lvs (l : List (List UInt8)) : List Value := l.map fun x => Value.string ⟨x.toArray⟩
theorem lvs_length (l : List (List UInt8)) : (lvs l).length = l.length := by simp [lvs]
theorem lvs_append (l r : List (List UInt8)) : lvs (l ++ r) = lvs l ++ lvs r := by simp [lvs]
theorem lvs_get (l : List (List UInt8)) (j : Nat) (x : List UInt8) (h : l[j]? = some x) : (lvs l)[j]? = some (.string ⟨x.toArray⟩) := by simp [lvs, h]
section
variable {P : Program} {t e : TypeId} {zv : Value} {z y : Nat}
theorem Sl.appendAt (u : Sl P t e zv z y) {w : World} {base n c B m d : Nat} {A D : Option Addr} {vs us : List Value} (ty : TypeId) (hown : Oc z w e base A n c vs) (hr : Rc z w B D m d us) (h1 : ∀ v ∈ us, v.oneCell' = true)
  (hsm : (n + m) * y ≤ 140737488355328) (hnm : n + m ≤ 140737488355328) (hbase : base ≤ w.heap.size) :
  ∃ A' c' w', (Builtin.append_ #[t, t] ty #[.slice A n c, .slice D m d]).run P w = .ok (.slice A' (n + m) c') w' ∧ Oc z w' e base A' (n + m) c' (vs ++ us) ∧ Grows w w' A A' := by
 obtain ⟨i, hi, hz0, hz1, hz2⟩ := info_parts u.inf
 obtain ⟨hl, h2, h3, h4⟩ := hr
 have key : ∀ ad : Addr, D = some ad → (∀ j v, us[j]? = some v → w.cell? (ad.add j) = some v) →
   ∃ A' c' w', (Builtin.append_ #[t, t] ty #[.slice A n c, .slice D m d]).run P w = .ok (.slice A' (n + m) c') w' ∧ Oc z w' e base A' (n + m) c' (vs ++ us) ∧ Grows w w' A A' := by
  intro ad hD hcell
  subst hD
  obtain ⟨v', w', hrun, ho, hg, _, hloc⟩ := run_append_own_at (P := P) (w := w) base t ty e i zv z y u.sl hi hz0 hz1 hz2 u.zc u.zp _ _ _ hown ad m d us hl hcell h1 (by simp only [maxLen]; omega) hsm hbase
  have hsh : ∃ A' c', v' = .slice A' (n + m) c' := by
   rcases ho.2 with ⟨hv, hn⟩ | ⟨g, cap, cur, hv, _⟩
   ·exact ⟨_, _, by rw [hv, hn]⟩
   ·exact ⟨_, _, hv⟩
  obtain ⟨A', c', hv⟩ := hsh
  subst hv
  rw [ownBlock_slice, ownBlock_slice] at hloc
  rw [ownBlock_slice] at hg
  exact ⟨A', c', w', hrun, ho, hg, hloc.imp id fun h => ⟨_, h, Nat.le_refl _⟩⟩
 by_cases h0 : m = 0
 ·subst h0
  obtain rfl : us = [] := List.eq_nil_of_length_eq_zero (by simpa using hl)
  cases hD : D with
  | some ad => rw [hD] at key; exact key ad rfl (fun j v hj => by simp at hj)
  | none =>
   refine ⟨A, c, w, ?_, by simpa using hown, Grows.refl _ _⟩
   have hrun : (Builtin.append_ #[t, t] ty #[.slice A n c, .slice none 0 d]).run P w = .ok (.slice A n c) w := by
    rcases hown.2 with ⟨hv, hn⟩ | ⟨g, cap, cur, hv, _, _, hnc, _⟩
    ·rw [hv]
     simp [Builtin.append_, run_underlying u.sl, sizeOf, typeInfo, hi, Builtin.lenOf, Builtin.firstCells]
    ·rw [hv]
     simp [Builtin.append_, run_underlying u.sl, sizeOf, typeInfo, hi, Builtin.lenOf, Builtin.firstCells, hnc, storeCells]
   simpa using hrun
 ·obtain ⟨b, off, hD, hb, hc⟩ := h4 (by omega)
  refine key _ hD fun j v hj => ?_
  have := hc j v hj
  by_cases hj0 : j = 0
  ·subst hj0; simpa [Addr.add] using this
  ·simpa [Addr.add, hj0] using this
theorem Sl.wpAppAt (u : Sl P t e zv z y) {w : World} {ops : Array Oper} {rest : List Oper} {o : Oper} {a : Act} {Q : Exit → Act → World → Prop} (hgd : o.guard = none) (p q : Operand)
  (ho : o.op = .call { callee := .builtin .append, args := #[p, q], argTypes := #[t, t] })
  {base n c B m d N : Nat} {A D : Option Addr} {vs us ws : List Value} (hx : a.eval p = .slice A n c) (hy : a.eval q = .slice D m d) (hown : Oc z w e base A n c vs) (hr : Rc z w B D m d us) (h1 : ∀ v ∈ us, v.oneCell' = true)
  (hN : n + m = N) (hvs : vs ++ us = ws) (hsm : N * y ≤ 140737488355328) (hnm : N ≤ 140737488355328) (hbase : base ≤ w.heap.size)
  (h : ∀ A' c' w', Oc z w' e base A' N c' ws → Grows w w' A A' → wpList P ops Q rest (a.put o.dst (.slice A' N c')) w') : wpList P ops Q (o :: rest) a w := by
 subst hN hvs
 refine wpList_plain hgd fun _ hK => ?_
 obtain ⟨A', c', w', hrun, h2, h3⟩ := u.appendAt o.type hown hr h1 hsm hnm hbase
 unfold Oper.wp execOp
 simp only [ho, resolve, invoke, builtin, Sem.run_bind, Sem.run_pure, Result.andThen_ok, List.map_toArray, List.map_cons, List.map_nil, hx, hy, hrun]
 exact hK _ _ (h A' c' w' h2 h3)
end
theorem oc_ob {z : Nat} {w : World} {e : TypeId} {base n c : Nat} {A : Option Addr} {vs : List Value} (h : Oc z w e base A n c vs) (g : Nat) (hg : ob A = some g) : base ≤ g ∧ g < w.heap.size :=
 World.ownsRow.lt h g (by rw [ownBlock_slice]; exact hg)
theorem oc_beside {z : Nat} {w w' : World} {e : TypeId} {base n c : Nat} {A D D' : Option Addr} {vs : List Value} (h : Oc z w e base A n c vs) (hg : Grows w w' D D') (hne : ob A = none ∨ ob A ≠ ob D) : Oc z w' e base A n c vs :=
 World.ownsRow.kept h hg.1 (by rw [ownBlock_slice]; exact hne)
theorem Grows.belowC {z : Nat} {w w' : World} {A A' : Option Addr} {e : TypeId} {base n c : Nat} {vs : List Value} (h : Grows w w' A A') (ho : Oc z w e base A n c vs) (hb : base ≤ w.heap.size) : Below base w w' :=
 ⟨h.1.os, h.1.tape, h.1.output, h.1.size, fun k hk => h.1.block k (by omega) fun e => by have := (oc_ob ho k e.symm).1; omega⟩
def Rr (w : World) (B : Nat) (v : Value) (r : List (List UInt8)) : Prop := ∃ A n c, v = .slice A n c ∧ Rc 1 w B A n c (lvs r)
def Rrs (w : World) (B : Nat) (vs : List Value) (l : List (List (List UInt8))) : Prop := vs.length = l.length ∧ ∀ (j : Nat) (v : Value) (r : List (List UInt8)), vs[j]? = some v → l[j]? = some r → Rr w B v r
def RL (w : World) (B : Nat) (A : Option Addr) (n c : Nat) (l : List (List (List UInt8))) : Prop := ∃ vs, Rc 1 w B A n c vs ∧ Rrs w B vs l
theorem RL.len {w : World} {B : Nat} {A : Option Addr} {n c : Nat} {l : List (List (List UInt8))} (h : RL w B A n c l) : l.length = n := by
 obtain ⟨vs, h1, h2⟩ := h
 rw [← h2.1, h1.len1]
theorem RL.at_ {w : World} {B : Nat} {A : Option Addr} {n c k : Nat} {l : List (List (List UInt8))} (h : RL w B A n c l) (hk : k < n) :
  ∃ b off D m d r, A = some ⟨b, off,none⟩ ∧ b < B ∧ w.cell? ⟨b, off + k,none⟩ = some (.slice D m d) ∧ l[k]? = some r ∧ l.drop k = r :: l.drop (k + 1) ∧ Rc 1 w B D m d (lvs r) := by
 have hl := h.len
 obtain ⟨vs, h1, h2⟩ := h
 obtain ⟨b, off, v, rfl, hb, hc, hv⟩ := h1.at_ hk
 have hkl : k < l.length := by omega
 obtain ⟨D, m, d, rfl, hr⟩ := h2.2 k v l[k] hv (List.getElem?_eq_getElem hkl)
 exact ⟨b, off, D, m, d, l[k], rfl, hb, hc, List.getElem?_eq_getElem hkl, List.drop_eq_getElem_cons hkl, hr⟩
theorem lvs_at {w : World} {B : Nat} {A : Option Addr} {n c k : Nat} {r : List (List UInt8)} (h : Rc 1 w B A n c (lvs r)) (hk : k < n) :
  ∃ b off x, A = some ⟨b, off,none⟩ ∧ b < B ∧ w.cell? ⟨b, off + k,none⟩ = some (.string ⟨x.toArray⟩) ∧ r[k]? = some x ∧ r.drop k = x :: r.drop (k + 1) := by
 have hl : r.length = n := by have := h.len1; rw [lvs_length] at this; exact this
 obtain ⟨b, off, v, rfl, hb, hc, hv⟩ := h.at_ hk
 have hkl : k < r.length := by omega
 rw [lvs_get r k r[k] (List.getElem?_eq_getElem hkl)] at hv
 injection hv with hv
 subst hv
 exact ⟨b, off, r[k], rfl, hb, hc, List.getElem?_eq_getElem hkl, List.drop_eq_getElem_cons hkl⟩
theorem lvs_num {z : World} {B : Nat} {A : Option Addr} {n c : Nat} {r : List (List UInt8)} (h : Rc 1 z B A n c (lvs r)) : r.length = n := by have := h.len1; rw [lvs_length] at this; exact this
def RetQ (w : World) (v : Value) (e : Ending) (w' : World) : Prop := e = .returned v ∧ ∃ q, w' = w.drewN q
def StrRel (n : Nat) (w : World) (t : Value) (wr : World) : Prop := ∃ k q : Nat, t = .int .i64 (k : Int) ∧ k ≤ n ∧ wr = w.drewN q
theorem strings_c (A A' : Option Addr) (n c c' B B' : Nat) (l : List (List UInt8)) (w : World) (h1 : Rc 1 w B A n c (lvs l)) (h2 : Rc 1 w B' A' n c' (lvs l)) (hn : n ≤ 1000000) :
  Calls Tryz.prog 35 #[.slice A n c, .slice A' n c'] w (RetQ w (.bool true)) := by
 have hl : l.length = n := by have := h1.len1; rw [lvs_length] at this; exact this
 have H1 := ek h1; have H2 := ek h2; have Hl := ek hl; clear h1 h2 hl
 go_enter Tryz.func35, Tryz.ntmps35
 go_wp2
 go_loopw [5] (fun t wr => StrRel n w t wr) (fun t _ => n - (intOf t).toNat)
 case atStart => exact ⟨0, 0, rfl, Nat.zero_le _, rfl⟩
 case round =>
  obtain ⟨k, q, rfl, hk, rfl⟩ := hrel
  by_cases hlt : k < n
  ·obtain ⟨b1, o1, v1, rfl, hb1, hc1, hv1⟩ := H1.out.at_ hlt
   obtain ⟨b2, o2, v2, rfl, hb2, hc2, hv2⟩ := H2.out.at_ hlt
   have hll : k < l.length := by rw [Hl.out]; exact hlt
   rw [lvs_get l k l[k] (List.getElem?_eq_getElem hll)] at hv1 hv2
   injection hv1 with hv1
   injection hv2 with hv2
   subst hv1 hv2
   go_wp2_with fail
   go_quiet (fail)
   go_wp2
   go_roundw
   case rel => exact ⟨k + 1, _, by go_num, by omega, rfl⟩
   case measure => simp [intOf]; omega
  ·go_wp2
   go_ret
   exact ⟨rfl, q, rfl⟩
def RecRel (l : List (List (List UInt8))) (A A' : Option Addr) (n c c' : Nat) (w : World) (t : Value) (wr : World) : Prop :=
 ∃ k : Nat, t = .int .i64 (k : Int) ∧ k ≤ n ∧ RL wr wr.heap.size A n c l ∧ RL wr wr.heap.size A' n c' l ∧ ∃ q, wr = w.drewN q
def RcS (z : Nat) (w : World) (S : Nat → Prop) (A : Option Addr) (n c : Nat) (vs : List Value) : Prop :=
 vs.length = n * z ∧ n ≤ c ∧ c ≤ maxLen ∧ (0 < n → ∃ b off, A = some ⟨b, off,none⟩ ∧ S b ∧ ∀ j v, vs[j]? = some v → w.cell? ⟨b, off + j,none⟩ = some v)
theorem RcS.rc {z : Nat} {w : World} {B : Nat} {A : Option Addr} {n c : Nat} {vs : List Value} (h : RcS z w (· < B) A n c vs) : Rc z w B A n c vs := h
def Stays (w w' : World) (S S' : Nat → Prop) : Prop := (∀ b, S b → S' b) ∧ ∀ p : Addr, S p.block → w'.cell? p = w.cell? p
theorem RcS.keep {z : Nat} {w w' : World} {S S' : Nat → Prop} {A : Option Addr} {n c : Nat} {vs : List Value} (h : RcS z w S A n c vs) (k : Stays w w' S S') : RcS z w' S' A n c vs :=
 ⟨h.1, h.2.1, h.2.2.1, fun hn => by
  obtain ⟨b, off, e, hb, hc⟩ := h.2.2.2 hn
  exact ⟨b, off, e, k.1 b hb, fun j x hx => (k.2 _ hb).trans (hc j x hx)⟩⟩
def RrS (w : World) (S : Nat → Prop) (v : Value) (r : List (List UInt8)) : Prop := ∃ A n c, v = .slice A n c ∧ RcS 1 w S A n c (lvs r)
def RrsS (w : World) (S : Nat → Prop) (vs : List Value) (l : List (List (List UInt8))) : Prop := vs.length = l.length ∧ ∀ (j : Nat) (v : Value) (r : List (List UInt8)), vs[j]? = some v → l[j]? = some r → RrS w S v r
def RLS (w : World) (S : Nat → Prop) (A : Option Addr) (n c : Nat) (l : List (List (List UInt8))) : Prop := ∃ vs, RcS 1 w S A n c vs ∧ RrsS w S vs l
def PrS (w : World) (S : Nat → Prop) (u v : Value) (p : Nat × List (List (List UInt8))) : Prop := u = .int .i64 (p.1 : Int) ∧ ∃ A n c, v = .slice A n c ∧ RLS w S A n c p.2
def PsS (w : World) (S : Nat → Prop) (vs : List Value) (l : List (Nat × List (List (List UInt8)))) : Prop :=
 vs.length = l.length * 2 ∧ ∀ (j : Nat) (p : Nat × List (List (List UInt8))), l[j]? = some p → ∃ u v, vs[j * 2]? = some u ∧ vs[j * 2 + 1]? = some v ∧ PrS w S u v p
def PLS (w : World) (S : Nat → Prop) (A : Option Addr) (n c : Nat) (l : List (Nat × List (List (List UInt8)))) : Prop := ∃ vs, RcS 2 w S A n c vs ∧ PsS w S vs l
def PL (w : World) (B : Nat) (A : Option Addr) (n c : Nat) (l : List (Nat × List (List (List UInt8)))) : Prop := PLS w (· < B) A n c l
section
variable {w w' : World} {S S' : Nat → Prop}
theorem RrS.keep {v : Value} {r : List (List UInt8)} (h : RrS w S v r) (k : Stays w w' S S') : RrS w' S' v r := by
 obtain ⟨A, n, c, e, h⟩ := h
 exact ⟨A, n, c, e, h.keep k⟩
theorem RrsS.keep {vs : List Value} {l : List (List (List UInt8))} (h : RrsS w S vs l) (k : Stays w w' S S') : RrsS w' S' vs l :=
 ⟨h.1, fun j v r h1 h2 => (h.2 j v r h1 h2).keep k⟩
theorem RLS.keep {A : Option Addr} {n c : Nat} {l : List (List (List UInt8))} (h : RLS w S A n c l) (k : Stays w w' S S') : RLS w' S' A n c l := by
 obtain ⟨vs, h1, h2⟩ := h
 exact ⟨vs, h1.keep k, h2.keep k⟩
theorem PrS.keep {u v : Value} {p : Nat × List (List (List UInt8))} (h : PrS w S u v p) (k : Stays w w' S S') : PrS w' S' u v p := by
 obtain ⟨e, A, n, c, e2, h⟩ := h
 exact ⟨e, A, n, c, e2, h.keep k⟩
theorem PsS.keep {vs : List Value} {l : List (Nat × List (List (List UInt8)))} (h : PsS w S vs l) (k : Stays w w' S S') : PsS w' S' vs l :=
 ⟨h.1, fun j p hp => by
  obtain ⟨u, v, h1, h2, h3⟩ := h.2 j p hp
  exact ⟨u, v, h1, h2, h3.keep k⟩⟩
theorem PLS.keep {A : Option Addr} {n c : Nat} {l : List (Nat × List (List (List UInt8)))} (h : PLS w S A n c l) (k : Stays w w' S S') : PLS w' S' A n c l := by
 obtain ⟨vs, h1, h2⟩ := h
 exact ⟨vs, h1.keep k, h2.keep k⟩
theorem RrsS.nil : RrsS w S [] [] := ⟨rfl, fun j v r h => by simp at h⟩
theorem PsS.nil : PsS w S [] [] := ⟨rfl, fun j p h => by simp at h⟩
theorem RrsS.append {vs us : List Value} {l m : List (List (List UInt8))} (h : RrsS w S vs l) (k : RrsS w S us m) : RrsS w S (vs ++ us) (l ++ m) := by
 refine ⟨by rw [List.length_append, List.length_append, h.1, k.1], fun j u s h1 h2 => ?_⟩
 by_cases hj : j < vs.length
 ·rw [List.getElem?_append_left hj] at h1
  rw [List.getElem?_append_left (by rw [← h.1]; exact hj)] at h2
  exact h.2 j u s h1 h2
 ·rw [List.getElem?_append_right (by omega)] at h1
  rw [List.getElem?_append_right (by rw [← h.1]; omega), ← h.1] at h2
  exact k.2 _ u s h1 h2
theorem RrsS.snoc {vs : List Value} {l : List (List (List UInt8))} {v : Value} {r : List (List UInt8)} (h : RrsS w S vs l) (hr : RrS w S v r) : RrsS w S (vs ++ [v]) (l ++ [r]) :=
 h.append ⟨rfl, fun j u s h1 h2 => by
  cases j with
  | zero => simp at h1 h2; subst h1 h2; exact hr
  | succ j => simp at h1⟩
theorem PsS.snoc {vs : List Value} {l : List (Nat × List (List (List UInt8)))} {u v : Value} {p : Nat × List (List (List UInt8))} (h : PsS w S vs l) (hp : PrS w S u v p) : PsS w S (vs ++ [u, v]) (l ++ [p]) := by
 refine ⟨by rw [List.length_append, List.length_append, h.1]; simp; omega, fun j q hq => ?_⟩
 have hl := h.1
 by_cases hj : j < l.length
 ·rw [List.getElem?_append_left hj] at hq
  obtain ⟨x, y, h1, h2, h3⟩ := h.2 j q hq
  exact ⟨x, y, by rw [List.getElem?_append_left (by omega)]; exact h1, by rw [List.getElem?_append_left (by omega)]; exact h2, h3⟩
 ·rw [List.getElem?_append_right (by omega)] at hq
  have e : j = l.length := by
   rcases Nat.lt_or_ge (j - l.length) 1 with h1 | h1
   ·omega
   ·rw [List.getElem?_eq_none (by simpa using h1)] at hq; cases hq
  subst e
  simp at hq
  subst hq
  exact ⟨u, v, by rw [List.getElem?_append_right (by omega), show l.length * 2 - vs.length = 0 by omega]; rfl, by rw [List.getElem?_append_right (by omega), show l.length * 2 + 1 - vs.length = 1 by omega]; rfl, hp⟩
theorem PLS.len {A : Option Addr} {n c : Nat} {l : List (Nat × List (List (List UInt8)))} (h : PLS w S A n c l) : l.length = n := by
 obtain ⟨vs, h1, h2⟩ := h
 have := h1.1
 have := h2.1
 omega
theorem RLS.len {A : Option Addr} {n c : Nat} {l : List (List (List UInt8))} (h : RLS w S A n c l) : l.length = n := by
 obtain ⟨vs, h1, h2⟩ := h
 have := h1.1
 have := h2.1
 omega
theorem PLS.at_ {A : Option Addr} {n c k : Nat} {l : List (Nat × List (List (List UInt8)))} (h : PLS w S A n c l) (hk : k < n) :
  ∃ b off p D m d, A = some ⟨b, off,none⟩ ∧ S b ∧ w.cell? ⟨b, off + k * 2,none⟩ = some (.int .i64 (p.1 : Int)) ∧ w.cell? ⟨b, off + k * 2 + 1,none⟩ = some (.slice D m d) ∧ l[k]? = some p ∧ RLS w S D m d p.2 := by
 have hl := h.len
 obtain ⟨vs, h1, h2⟩ := h
 obtain ⟨b, off, e, hb, hc⟩ := h1.2.2.2 (by omega)
 have hkl : k < l.length := by omega
 obtain ⟨u, v, g1, g2, rfl, D, m, d, rfl, hr⟩ := h2.2 k l[k] (List.getElem?_eq_getElem hkl)
 exact ⟨b, off, l[k], D, m, d, e, hb, hc _ _ g1, by rw [Nat.add_assoc]; exact hc _ _ g2, List.getElem?_eq_getElem hkl, hr⟩
theorem RLS.nil : RLS w S none 0 0 [] := ⟨[], ⟨rfl, Nat.le_refl _, by simp [maxLen], fun h => absurd h (by omega)⟩, RrsS.nil⟩
theorem PLS.nil : PLS w S none 0 0 [] := ⟨[], ⟨rfl, Nat.le_refl _, by simp [maxLen], fun h => absurd h (by omega)⟩, PsS.nil⟩
end
theorem stays_below {w w' : World} {B B' : Nat} (h : Below B w w') (hb : B ≤ B') : Stays w w' (· < B) (· < B') := ⟨fun _ h => Nat.lt_of_lt_of_le h hb, fun _ hp => h.cell hp⟩
theorem PL.below {w w' : World} {B : Nat} {A : Option Addr} {n c : Nat} {l : List (Nat × List (List (List UInt8)))} (h : PL w B A n c l) (hb : Below B w w') : PL w' B A n c l := PLS.keep h (stays_below hb (Nat.le_refl _))
def Fr (base : Nat) (w : World) (b : Nat) : Prop := base ≤ b ∧ b < w.heap.size
def Sf (base : Nat) (w : World) (A : Option Addr) (b : Nat) : Prop := base ≤ b ∧ b < w.heap.size ∧ some b ≠ ob A
theorem stays_weak {w : World} {S S' : Nat → Prop} (h : ∀ b, S b → S' b) : Stays w w S S' := ⟨h, fun _ _ => rfl⟩
theorem sf_grow {w w' : World} {base : Nat} {A A' : Option Addr} (h : Grows w w' A A') : Stays w w' (Sf base w A) (Sf base w' A') :=
 ⟨fun b ⟨h1, h2, h3⟩ => ⟨h1, Nat.lt_of_lt_of_le h2 h.size, fun e => by
  rcases h.2 with k | ⟨g, k, k2⟩
  ·exact h3 (e.trans k)
  ·rw [k] at e; injection e with e; omega⟩, fun p ⟨_, h2, h3⟩ => h.cell p h2 h3⟩
theorem sf_below {w w' : World} {base : Nat} {A : Option Addr} (h : Below w.heap.size w w') : Stays w w' (Sf base w A) (Sf base w' A) :=
 ⟨fun _ ⟨h1, h2, h3⟩ => ⟨h1, Nat.lt_of_lt_of_le h2 h.size, h3⟩, fun _ ⟨_, h2, _⟩ => h.cell h2⟩
theorem sf_fr {w : World} {base : Nat} {A : Option Addr} : ∀ b, Sf base w A b → Fr base w b := fun _ h => ⟨h.1, h.2.1⟩
theorem fr_lt {w : World} {base : Nat} : ∀ b, Fr base w b → b < w.heap.size := fun _ h => h.2
theorem Oc.rcS {z : Nat} {w : World} {e : TypeId} {base n c : Nat} {A : Option Addr} {vs : List Value} (h : Oc z w e base A n c vs) : RcS z w (Fr base w) A n c vs := by
 have hr := h.rc
 refine ⟨hr.1, hr.2.1, hr.2.2.1, fun hn => ?_⟩
 obtain ⟨b, off, e, hb, hc⟩ := hr.2.2.2 hn
 exact ⟨b, off, e, oc_ob h b (by rw [e]; rfl), hc⟩
theorem piece_lit (w : World) (s : List UInt8) (a : Nat) (A : Option Addr) (base : Nat) (te tr tp : TypeId) (hb : base ≤ w.heap.size) (hA : ∀ g, ob A = some g → g < w.heap.size) (w5 w6 w7 : World)
  (h5 : w5 = w.alloc (.cells #[.string ⟨s.toArray⟩] te)) (h6 : w6 = w5.alloc (.cells #[.slice (some ⟨w.heap.size, 0,none⟩) 1 1] tr)) (h7 : w7 = w6.alloc (.cells #[.int .i64 (a : Int), .slice (some ⟨w.heap.size + 1, 0,none⟩) 1 1] tp)) :
  w7.heap.size = w.heap.size + 3 ∧ Below w.heap.size w w7 ∧ Rc 2 w7 w7.heap.size (some ⟨w.heap.size + 2, 0,none⟩) 1 1 [.int .i64 (a : Int), .slice (some ⟨w.heap.size + 1, 0,none⟩) 1 1] ∧
  PrS w7 (Sf base w7 A) (.int .i64 (a : Int)) (.slice (some ⟨w.heap.size + 1, 0,none⟩) 1 1) (a, [[s]]) := by
 have z5 : w5.heap.size = w.heap.size + 1 := by rw [h5]; simp
 have z6 : w6.heap.size = w.heap.size + 2 := by rw [h6]; simp [z5]
 have z7 : w7.heap.size = w.heap.size + 3 := by rw [h7]; simp [z6]
 have b7 : Below w.heap.size w w7 := by
  rw [h7, h6, h5]
  exact ((ej _ _).alloc (by simp) _).alloc (by simp; omega) _
 have g5 : w5.cell? ⟨w.heap.size, 0,none⟩ = some (.string ⟨s.toArray⟩) := by rw [h5]; simp
 have g6 : w6.cell? ⟨w.heap.size + 1, 0,none⟩ = some (.slice (some ⟨w.heap.size, 0,none⟩) 1 1) := by rw [h6, ← z5]; simp
 have g56 : w6.cell? ⟨w.heap.size, 0,none⟩ = some (.string ⟨s.toArray⟩) := by rw [h6, World.cell?_alloc_lt _ _ _ (by simp [z5])]; exact g5
 have g57 : w7.cell? ⟨w.heap.size, 0,none⟩ = some (.string ⟨s.toArray⟩) := by rw [h7, World.cell?_alloc_lt _ _ _ (by simp [z6])]; exact g56
 have g67 : w7.cell? ⟨w.heap.size + 1, 0,none⟩ = some (.slice (some ⟨w.heap.size, 0,none⟩) 1 1) := by rw [h7, World.cell?_alloc_lt _ _ _ (by simp [z6])]; exact g6
 have hne : ∀ k, some (w.heap.size + k) ≠ ob A := fun k e => by have := hA _ e.symm; omega
 refine ⟨z7, b7, ?_, rfl, _, _, _, rfl, [.slice (some ⟨w.heap.size, 0,none⟩) 1 1], ⟨rfl, Nat.le_refl _, by simp [maxLen], fun _ => ⟨_, _, rfl, ⟨by omega, by omega, hne 1⟩, fun j v hj => ?_⟩⟩, rfl, fun j v r hj hr => ?_⟩
 ·have h := Rc.lit (z := 2) w6 tp #[.int .i64 (a : Int), .slice (some ⟨w.heap.size + 1, 0,none⟩) 1 1] 1 rfl (by simp [maxLen])
  rw [← h7, z6] at h
  exact h.more (by omega)
 ·cases j with
  | zero => simp at hj; subst hj; exact g67
  | succ j => simp at hj
 ·cases j with
  | zero =>
   simp at hj hr
   subst hj hr
   exact ⟨_, _, _, rfl, rfl, Nat.le_refl _, by simp [maxLen], fun _ => ⟨_, _, rfl, ⟨by omega, by omega, hne 0⟩, fun j v hj => by
    cases j with
    | zero => simp [lvs] at hj; subst hj; exact g57
    | succ j => simp [lvs] at hj⟩⟩
  | succ j => simp at hj
theorem rec_lit (w : World) (s : List UInt8) (A : Option Addr) (base : Nat) (te tr : TypeId) (hb : base ≤ w.heap.size) (hA : ∀ g, ob A = some g → g < w.heap.size) (w5 w6 : World)
  (h5 : w5 = w.alloc (.cells #[.string ⟨s.toArray⟩] te)) (h6 : w6 = w5.alloc (.cells #[.slice (some ⟨w.heap.size, 0,none⟩) 1 1] tr)) :
  w6.heap.size = w.heap.size + 2 ∧ Below w.heap.size w w6 ∧ Rc 1 w6 w6.heap.size (some ⟨w.heap.size + 1, 0,none⟩) 1 1 [.slice (some ⟨w.heap.size, 0,none⟩) 1 1] ∧
  RrS w6 (Sf base w6 A) (.slice (some ⟨w.heap.size, 0,none⟩) 1 1) [s] := by
 have z5 : w5.heap.size = w.heap.size + 1 := by rw [h5]; simp
 have z6 : w6.heap.size = w.heap.size + 2 := by rw [h6]; simp [z5]
 have b6 : Below w.heap.size w w6 := by
  rw [h6, h5]
  exact (ej _ _).alloc (by simp) _
 have g5 : w5.cell? ⟨w.heap.size, 0,none⟩ = some (.string ⟨s.toArray⟩) := by rw [h5]; simp
 have g56 : w6.cell? ⟨w.heap.size, 0,none⟩ = some (.string ⟨s.toArray⟩) := by rw [h6, World.cell?_alloc_lt _ _ _ (by simp [z5])]; exact g5
 refine ⟨z6, b6, ?_, _, _, _, rfl, rfl, Nat.le_refl _, by simp [maxLen], fun _ => ⟨_, _, rfl, ⟨by omega, by omega, fun e => by have := hA _ e.symm; omega⟩, fun j v hj => ?_⟩⟩
 ·have h := Rc.lit (z := 1) w5 tr #[.slice (some ⟨w.heap.size, 0,none⟩) 1 1] 1 rfl (by simp [maxLen])
  rw [← h6, z5] at h
  exact h.more (by omega)
 ·cases j with
  | zero => simp [lvs] at hj; subst hj; exact g56
  | succ j => simp [lvs] at hj
theorem pty : Sl Tryz.prog 67 81 (.agg #[.int .i64 0, .slice none 0 0]) 2 32 := ⟨Tryz.underlying67, by kernel_rfl, rfl, by omega⟩
theorem rty : Sl Tryz.prog 30 77 (.slice none 0 0) 1 24 := ⟨Tryz.underlying30, by kernel_rfl, rfl, by omega⟩
def RetE (base : Nat) (w : World) (p : List UInt8 × Nat) (e : Ending) (w' : World) : Prop :=
 ∃ A c, e = .returned (.tuple #[.slice A p.1.length c, .int .i64 (p.2 : Int)]) ∧ Own w' 5 base A c p.1 ∧ Below base w w'
theorem ret2_len {v : Value} {A : Option Addr} {c n m : Nat} (h : n = m) : Ending.returned (.tuple #[.slice A n c, v]) = .returned (.tuple #[.slice A m c, v]) := by rw [h]
theorem openS_arg (t : List Nat) (l : List UInt8) (h : t.length ≠ 256) : Cm.openS t l = ([], 1) := if_neg h
theorem openS_short (t : List Nat) (l : List UInt8) (h : t.length = 256) (h2 : l.length < 4) : Cm.openS t l = ([], 2) := by unfold Cm.openS; rw [if_pos h, if_pos h2]
theorem openS_no (t : List Nat) (l : List UInt8) (h : t.length = 256) (h2 : ¬ l.length < 4) (h3 : l.drop (l.length - 4) ≠ Cm.four (Cm.sum t (l.take (l.length - 4)))) : Cm.openS t l = ([], 4) := by unfold Cm.openS; rw [if_pos h, if_neg h2, if_neg h3]
theorem openS_ok (t : List Nat) (l : List UInt8) (h : t.length = 256) (h2 : ¬ l.length < 4) (h3 : l.drop (l.length - 4) = Cm.four (Cm.sum t (l.take (l.length - 4)))) : Cm.openS t l = (l.take (l.length - 4), 0) := by unfold Cm.openS; rw [if_pos h, if_neg h2, if_pos h3]
def OpenRel (w : World) (l f : List UInt8) (i : Value) (wr : World) : Prop :=
 ∃ k : Nat, k ≤ 4 ∧ i = .int .i64 (k : Int) ∧ Hid ((l.drop (l.length - 4)).take k = f.take k) ∧ Below w.heap.size w wr
theorem take_more (a b : List UInt8) (k : Nat) (x y : UInt8) (ha : a[k]? = some x) (hb : b[k]? = some y) : a.take (k + 1) = b.take (k + 1) ↔ (a.take k = b.take k ∧ x = y) := by
 have hka : k < a.length := by
  rcases Nat.lt_or_ge k a.length with h' | h'
  ·exact h'
  ·rw [List.getElem?_eq_none h'] at ha; cases ha
 have hkb : k < b.length := by
  rcases Nat.lt_or_ge k b.length with h' | h'
  ·exact h'
  ·rw [List.getElem?_eq_none h'] at hb; cases hb
 rw [List.take_add_one, List.take_add_one, ha, hb]
 constructor
 ·intro h
  have h1 := List.append_inj h (by simp; omega)
  exact ⟨h1.1, by simpa using h1.2⟩
 ·rintro ⟨h1, rfl⟩
  rw [h1]
theorem sumByte_q (r i x : Nat) (w : World) (hr : r < 4294967296) (hi : i < 4) (hx : (Cm.byteAt r i).toNat = x) :
  Calls Tryz.prog 178 #[.int .u32 (r : Int), .int .i64 (i : Int)] w fun e w' => e = .returned (.int .u8 (x : Int)) ∧ w' = w :=
 (sumByte_c r i w hr hi).mono fun e w' ⟨he, hw⟩ => ⟨by rw [he, hx], hw.symm⟩
theorem open_c (A : Option Addr) (n c : Nat) (t : List Nat) (D : Option Addr) (m d : Nat) (l : List UInt8) (w : World) (ht : Rn w w.heap.size A n c t) (hn : n ≤ 300) (hl : Rb w w.heap.size D m d l) (hm : m ≤ 900000) :
  Calls Tryz.prog 143 #[.slice A n c, .slice D m d] w (RetE w.heap.size w (Cm.openS t l)) := by
 have hlen := ht.len
 have hll := hl.len
 by_cases h : n = 256
 ·subst h
  by_cases h4 : m < 4
  ·rw [openS_short t l hlen (by omega)]
   have Ht := ek ht; have Hl := ek hl; clear ht hl hn hlen hll
   go_enter Tryz.func143, Tryz.ntmps143
   go_wp2
   go_ret2
   exact ⟨none, 0, rfl, Own.nil _ _ _, Below.refl _ _⟩
  ·have hsl := Cm.sum_lt t ht.fits (l.take (l.length - 4))
   obtain ⟨z, hz⟩ : ∃ z, m = z + 4 := ⟨m - 4, by omega⟩
   obtain ⟨R, hR⟩ : ∃ R, R = Cm.openS t l := ⟨_, rfl⟩
   obtain ⟨S, hS⟩ : ∃ S, S = Cm.sum t (l.take (l.length - 4)) := ⟨_, rfl⟩
   obtain ⟨f, hf⟩ : ∃ f, f = Cm.four S := ⟨_, rfl⟩
   have hf4 : f.length = 4 := by rw [hf]; rfl
   have hfg : ∀ k, k < 4 → f[k]? = some (Cm.byteAt S k) := fun k hk => by rw [hf]; exact Cm.four_get S k hk
   have hno : l.drop (l.length - 4) ≠ f → R = ([], 4) := fun hne => by rw [hR]; exact openS_no t l hlen (by omega) (by rw [← hS, ← hf]; exact hne)
   have hyes : l.drop (l.length - 4) = f → R = (l.take (l.length - 4), 0) := fun he => by rw [hR]; exact openS_ok t l hlen (by omega) (by rw [← hS, ← hf]; exact he)
   rw [← hR]
   rw [← hS] at hsl
   subst hz
   have hz4 : l.length - 4 = z := by omega
   rw [hz4] at hS hno hyes
   obtain ⟨D2, hD2, hrD2⟩ := bty.upto_ hl (k := z) (by omega) (z : Int) rfl
   have HS := ek hS; have HF := ek hf; have HFG := ek hfg; have Hsl := ek hsl; have HF4 := ek hf4; have HNo := ek hno; have HYes := ek hyes; have Hz := ek hz4
   have Ht := ek ht; have Hl := ek hl; have HrD := ek hrD2; have HLL := ek hll; clear ht hl hn hlen hll hS hf hfg hsl hf4 hno hyes hR hrD2 hz4
   go_enter Tryz.func143, Tryz.ntmps143
   go_wp2_with fail
   refine (checksum_c A 256 c w.heap.size t D2 z d w.heap.size _ _ Ht.out rfl HrD.out (by omega)).mono ?_
   rintro e w' ⟨rfl,rfl⟩
   rw [← HS.out]
   clear hD2
   go_wp2
   go_loopw [24] (fun i wr => OpenRel w l f i wr) (fun i _ => 4 - (intOf i).toNat)
   case atStart => exact ⟨0, by omega, rfl, ek rfl, Below.refl _ _⟩
   case round =>
    obtain ⟨k, hk, rfl, H, hbb⟩ := hrel
    by_cases hlt : k < 4
    ·obtain ⟨b, off, x, rfl, hb, hc, hx, hd⟩ := (Hl.out.below hbb).at_ (k := z + k) (by omega)
     have hxf := HFG.out k hlt
     have hx2 : (l.drop (l.length - 4))[k]? = some x := by rw [List.getElem?_drop, Hz.out]; exact hx
     have HM := ek (take_more _ f k x _ hx2 hxf)
     clear hx hd hxf hx2
     have hw1 : IntKind.i64.wrap ((z : Int) + (k : Int)) = (z : Int) + (k : Int) := IntWalk.i64_in _ (by omega)
     have hw2 : (0 : Int) ≤ (z : Int) + (k : Int) := by omega
     have hw3 : ((z : Int) + (k : Int)).toNat = z + k := by omega
     obtain ⟨y, hy⟩ : ∃ y, y = Cm.byteAt S k := ⟨_, rfl⟩
     rw [← hy] at HM
     have HC := ek (fun W => sumByte_q S k y.toNat W Hsl.out hlt (by rw [hy]))
     clear hy
     by_cases hxy : x = y
     ·subst hxy
      have t1 : ((x.toNat : Int) != (x.toNat : Int)) = false := by simp
      go_wp2
      go_quiet ((go_at_call 178; exact Calls.quiet_of_same (HC.out _)))
      go_wp2
      go_roundw
      case rel => exact ⟨k + 1, by omega, by go_num, ek (HM.out.2 ⟨H.out, by first | trivial | rfl⟩), below_drewN hbb _⟩
      case measure => simp [intOf]; omega
     ·have hne : x.toNat ≠ y.toNat := fun h => hxy (UInt8.toNat_inj.1 h)
      have t1 : ((x.toNat : Int) != (y.toNat : Int)) = true := by simp; omega
      have hR := HNo.out (fun e => hxy (HM.out.1 (by rw [Hz.out, e])).2)
      subst hR
      go_wp2
      go_quiet ((go_at_call 178; exact Calls.quiet_of_same (HC.out _)))
      go_wp2
      go_ret2
      exact ⟨none, 0, rfl, Own.nil _ _ _, below_drewN hbb _⟩
    ·obtain rfl : k = 4 := by omega
     have hR := HYes.out (by
      have h1 := H.out
      rw [Hz.out, List.take_of_length_le (by rw [List.length_drop, HLL.out]; omega), List.take_of_length_le (by rw [HF4.out]; omega)] at h1
      exact h1)
     subst hR
     have hmk := bty.make wr z (z : Int) (z : Int) z rfl rfl (Nat.le_refl _) (by omega)
     have HrW := ek (Hl.out.below hbb)
     have hzw := hbb.size
     go_wp2_with (with_reducible refine bty.wpCopyAny rfl (.tmp 40) (.tmp 41) rfl wr.heap.size z (z + 4) z d w.heap.size D l rfl rfl (heap_alloc_new wr _) (HrW.out.alloc hzw _) (Nat.le_refl _) ?h2 ?_)
     case h2 => simp only [maxLen]; omega
     intro w2 hown hb
     go_wp2
     go_ret2
     have hown : Own w2 5 wr.heap.size (some ⟨wr.heap.size, 0,none⟩) z (l.take z) := by simpa using hown
     exact ⟨_, _, ret2_len (by rw [List.length_take, HLL.out]; omega), hown.mono hzw, hbb.trans (((ej _ _).trans hb).mono hzw)⟩
 ·rw [openS_arg t l (by omega)]
  have Ht := ek ht; have Hl := ek hl; clear ht hl hlen
  go_enter Tryz.func143, Tryz.ntmps143
  go_wp2
  go_ret2
  exact ⟨none, 0, rfl, Own.nil _ _ _, Below.refl _ _⟩
end Go.Proofs.YtkekmokdlgocaaaGreatDoor
namespace Go.Proofs.YtkekmokdlgocaaaGreatDoor.Cht
open Go.RowKit
theorem or_add (a b k : Nat) (h : a < 2 ^ k) : a ||| b * 2 ^ k = a + b * 2 ^ k := by
 have := Nat.shiftLeft_add_eq_or_of_lt h b
 rw [Nat.shiftLeft_eq] at this
 rw [Nat.or_comm, ← this, Nat.add_comm]
theorem pdn_take : ∀ (m i acc : Nat) (l : List UInt8), 10 ≤ m + i → i ≤ 9 → Vm.dn i acc (l.take m) = Vm.dn i acc l
 | 0, _, _, _, h, hi => by omega
 | m + 1, i, acc, [], _, _ => rfl
 | m + 1, i, acc, c :: r, h, hi => by
  rw [List.take_succ_cons]
  by_cases h1 : c.toNat < 128
  ·by_cases h2 : 0 < i ∧ c.toNat = 0 ∨ i = 9 ∧ 1 < c.toNat
   ·rw [Vm.dn_bad _ _ _ _ h1 h2, Vm.dn_bad _ _ _ _ h1 h2]
   ·rw [Vm.dn_end _ _ _ _ h1 h2, Vm.dn_end _ _ _ _ h1 h2]
  ·by_cases h9 : i = 9
   ·subst h9; rw [Vm.dn_long _ _ _ (by omega), Vm.dn_long _ _ _ (by omega)]
   ·rw [Vm.dn_step _ _ _ _ (by omega) h9, Vm.dn_step _ _ _ _ (by omega) h9]
    exact pdn_take m (i + 1) _ r (by omega) (by omega)
theorem ptk_take (l : List UInt8) : Vm.tk (l.take 10) = Vm.tk l := pdn_take 10 0 0 l (by omega) (by omega)
theorem ptk_head (l : List UInt8) (m : Nat) (h : l.length ≤ m ∨ m = 10) : Vm.tk (l.take m) = Vm.tk l := by
 rcases h with h | rfl
 ·rw [List.take_of_length_le h]
 ·exact ptk_take l
theorem takeNumber_ok (A : Option Addr) (n c B : Nat) (l : List UInt8) (a s : Nat) (w : World) (hr : Rb w B A n c l) (hB : B ≤ w.heap.size) (hn : n ≤ 1000000) (htk : Vm.tk l = (a, s, 0)) :
  Calls Tryz.prog 216 #[.slice A n c] w fun e w' => ∃ D, e = .returned (.tuple #[.int .u64 (a : Int), .slice D (n - s) (c - s), .int .i64 0]) ∧ Rb w' B D (n - s) (c - s) (l.drop s) ∧ Below w.heap.size w w' := by
 have hl := hr.len
 by_cases h10 : n ≤ 10
 ·have h10' : (n : Int) ≤ 10 := by omega
  obtain ⟨E, hE, hrE⟩ := bty.upto_ hr (k := n) (by omega) (n : Int) rfl
  have ht : Vm.tk (l.take n) = (a, s, 0) := by rw [ptk_head l _ (by omega)]; exact htk
  have hsz := Vm.tk_size (l.take n)
  rw [ht] at hsz
  have hlt : (l.take n).length = n := by rw [List.length_take]; omega
  rw [hlt] at hsz
  have hs : s ≤ n := hsz.1
  obtain ⟨D, hD, hrD⟩ := bty.from_ hr (k := s) (by omega) (s : Int) rfl
  obtain ⟨R, hR⟩ : ∃ R, R = (l.take n).drop s := ⟨_, rfl⟩
  have hRl : R.length = n - s := by rw [hR, List.length_drop, hlt]
  have htake := take_c E n c (l.take n) w (hrE.more hB) (by omega)
  rw [takeS_ok _ a s ht] at htake
  rw [← hR] at htake
  have hidx : (n : Int) - ((n - s : Nat) : Int) = (s : Int) := by omega
  have Hr := ek hr; have HrD := ek hrD; have Htake := ek htake; have HR := ek hR; clear hr hrE hrD htake hR ht hsz hlt htk
  have Hidx := ek hidx; have HRl := ek hRl; clear hidx hRl
  go_enter Tryz.func216, Tryz.ntmps216
  go_wp2_with fail
  refine Htake.out.mono ?_
  rintro e w1 ⟨A1, c1, rfl, hown1, hb1⟩
  dsimp only
  rw [HRl.out]
  clear hown1
  have hidx := Hidx.out
  go_wp2_with fail
  go_quiet (fail)
  go_wp2
  go_ret3
  exact ⟨D, rfl, (HrD.out.below (hb1.mono hB)).drewN _, below_drewN hb1 _⟩
 ·have h10' : (10 : Int) < (n : Int) := by omega
  obtain ⟨E, hE, hrE⟩ := bty.upto_ hr (k := 10) (by omega) (10 : Int) rfl
  have ht : Vm.tk (l.take 10) = (a, s, 0) := by rw [ptk_head l _ (by omega)]; exact htk
  have hsz := Vm.tk_size (l.take 10)
  rw [ht] at hsz
  have hlt : (l.take 10).length = 10 := by rw [List.length_take]; omega
  rw [hlt] at hsz
  have hs : s ≤ 10 := hsz.1
  obtain ⟨D, hD, hrD⟩ := bty.from_ hr (k := s) (by omega) (s : Int) rfl
  obtain ⟨R, hR⟩ : ∃ R, R = (l.take 10).drop s := ⟨_, rfl⟩
  have hRl : R.length = 10 - s := by rw [hR, List.length_drop, hlt]
  have htake := take_c E 10 c (l.take 10) w (hrE.more hB) (by omega)
  rw [takeS_ok _ a s ht] at htake
  rw [← hR] at htake
  have hidx : (10 : Int) - ((10 - s : Nat) : Int) = (s : Int) := by omega
  have Hr := ek hr; have HrD := ek hrD; have Htake := ek htake; have HR := ek hR; clear hr hrE hrD htake hR ht hsz hlt htk
  have Hidx := ek hidx; have HRl := ek hRl; clear hidx hRl
  go_enter Tryz.func216, Tryz.ntmps216
  go_wp2_with fail
  refine Htake.out.mono ?_
  rintro e w1 ⟨A1, c1, rfl, hown1, hb1⟩
  dsimp only
  rw [HRl.out]
  clear hown1
  have hidx := Hidx.out
  go_wp2_with fail
  go_quiet (fail)
  go_wp2
  go_ret3
  exact ⟨D, rfl, (HrD.out.below (hb1.mono hB)).drewN _, below_drewN hb1 _⟩
theorem takeNumber_err (A : Option Addr) (n c B : Nat) (l : List UInt8) (x : Nat) (w : World) (hr : Rb w B A n c l) (hB : B ≤ w.heap.size) (hn : n ≤ 1000000) (htk : Vm.tk l = (0, 0, x)) (hx : x = 2 ∨ x = 3) :
  Calls Tryz.prog 216 #[.slice A n c] w fun e w' => e = .returned (.tuple #[.int .u64 0, .slice none 0 0, .int .i64 (x : Int)]) ∧ Below w.heap.size w w' := by
 have hl := hr.len
 have hx0 : ((x : Int) == 0) = false := by simp; omega
 by_cases h10 : n ≤ 10
 ·have h10' : (n : Int) ≤ 10 := by omega
  obtain ⟨E, hE, hrE⟩ := bty.upto_ hr (k := n) (by omega) (n : Int) rfl
  have ht : Vm.tk (l.take n) = (0, 0, x) := by rw [ptk_head l _ (by omega)]; exact htk
  have htake := take_c E n c (l.take n) w (hrE.more hB) (by omega)
  rw [takeS_err _ x ht hx] at htake
  have Hr := ek hr; have Htake := ek htake; have Hx := ek hx; clear hr hrE htake ht htk hx
  go_enter Tryz.func216, Tryz.ntmps216
  go_wp2_with fail
  refine Htake.out.mono ?_
  rintro e w1 ⟨A1, c1, rfl, hown1, hb1⟩
  dsimp only
  clear hown1
  go_wp2
  go_ret3
  exact ⟨rfl, hb1⟩
 ·have h10' : (10 : Int) < (n : Int) := by omega
  obtain ⟨E, hE, hrE⟩ := bty.upto_ hr (k := 10) (by omega) (10 : Int) rfl
  have ht : Vm.tk (l.take 10) = (0, 0, x) := by rw [ptk_head l _ (by omega)]; exact htk
  have htake := take_c E 10 c (l.take 10) w (hrE.more hB) (by omega)
  rw [takeS_err _ x ht hx] at htake
  have Hr := ek hr; have Htake := ek htake; have Hx := ek hx; clear hr hrE htake ht htk hx
  go_enter Tryz.func216, Tryz.ntmps216
  go_wp2_with fail
  refine Htake.out.mono ?_
  rintro e w1 ⟨A1, c1, rfl, hown1, hb1⟩
  dsimp only
  clear hown1
  go_wp2
  go_ret3
  exact ⟨rfl, hb1⟩
structure Box4 (w : World) (g : Nat) (v0 v1 v2 v3 : Value) : Prop where
 c0 : w.cell? ⟨g, 0,none⟩ = some v0
 c1 : w.cell? ⟨g, 1,none⟩ = some v1
 c2 : w.cell? ⟨g, 2,none⟩ = some v2
 c3 : w.cell? ⟨g, 3,none⟩ = some v3
 f0 : w.frozen? ⟨g, 0,none⟩ = false
 f1 : w.frozen? ⟨g, 1,none⟩ = false
 f2 : w.frozen? ⟨g, 2,none⟩ = false
 f3 : w.frozen? ⟨g, 3,none⟩ = false
 lt : g < w.heap.size
theorem Box4.made (w : World) (T : TypeId) (v0 v1 v2 v3 : Value) : Box4 (w.alloc (.cells #[v0, v1, v2, v3] T)) w.heap.size v0 v1 v2 v3 :=
 ⟨by simp, by simp, by simp, by simp, by simp, by simp, by simp, by simp, by simp⟩
theorem Box4.below {w w' : World} {B g : Nat} {v0 v1 v2 v3 : Value} (h : Box4 w g v0 v1 v2 v3) (hb : Below B w w') (hg : g < B) : Box4 w' g v0 v1 v2 v3 :=
 ⟨(hb.cell hg).trans h.c0, (hb.cell hg).trans h.c1, (hb.cell hg).trans h.c2, (hb.cell hg).trans h.c3, (hb.frozen hg).trans h.f0, (hb.frozen hg).trans h.f1, (hb.frozen hg).trans h.f2, (hb.frozen hg).trans h.f3, Nat.lt_of_lt_of_le h.lt hb.size⟩
theorem Box4.alloc {w : World} {g : Nat} {v0 v1 v2 v3 : Value} (h : Box4 w g v0 v1 v2 v3) (o : Obj) : Box4 (w.alloc o) g v0 v1 v2 v3 :=
 h.below ((Below.refl w.heap.size w).alloc (Nat.le_refl _) o) h.lt
def put4 (w : World) (g : Nat) (v0 v1 v2 v3 : Value) : World := (((w.setCell ⟨g, 0,none⟩ v0).setCell ⟨g, 1,none⟩ v1).setCell ⟨g, 2,none⟩ v2).setCell ⟨g, 3,none⟩ v3
theorem below_put4 {B : Nat} {a w : World} (h : Below B a w) {g : Nat} (hg : B ≤ g) (v0 v1 v2 v3 : Value) : Below B a (put4 w g v0 v1 v2 v3) :=
 (((h.setCell hg _).setCell hg _).setCell hg _).setCell hg _
def tokV (m : Bool) (k : Nat) (s : Value) (d : Nat) : Value := .agg #[.bool m, .int .u64 (k : Int), s, .int .u64 (d : Int)]
theorem takeLiteral_short (A : Option Addr) (n c k : Nat) (w : World) (hn : n ≤ 1000000) (hk : n < k) :
  Calls Tryz.prog 240 #[.slice A n c, .int .u64 (k : Int)] w fun e w' => e = .returned (.tuple #[tokV false 0 (.slice none 0 0) 0, .slice none 0 0, .int .i64 2]) ∧ Below w.heap.size w w' := by
 have hk' : (n : Int) < (k : Int) := by omega
 go_enter Tryz.func240, Tryz.ntmps240
 go_wp2
 refine bodyPost_ret (v := .tuple #[tokV false 0 (.slice none 0 0) 0, .slice none 0 0, .int .i64 2]) ?_ rfl ⟨rfl, ?_⟩
 ·simp [results, Tryz.results240, go_sem, tokV]
 ·exact ej _ _
theorem takeLiteral_ok (A : Option Addr) (n c B : Nat) (l : List UInt8) (k : Nat) (w : World) (hr : Rb w B A n c l) (hB : B ≤ w.heap.size) (hn : n ≤ 1000000) (hk : k ≤ n) :
  Calls Tryz.prog 240 #[.slice A n c, .int .u64 (k : Int)] w fun e w' => ∃ E F, e = .returned (.tuple #[tokV false k (.slice E k c) 0, .slice F (n - k) (c - k), .int .i64 0]) ∧ Rb w' B E k c (l.take k) ∧ Rb w' B F (n - k) (c - k) (l.drop k) ∧ Below w.heap.size w w' := by
 have hk' : (k : Int) ≤ (n : Int) := by omega
 obtain ⟨E, hE, hrE⟩ := bty.upto_ hr (k := k) hk (k : Int) rfl
 obtain ⟨F, hF, hrF⟩ := bty.from_ hr (k := k) hk (k : Int) rfl
 have HE := ek hrE; have HF := ek hrF; clear hr hrE hrF
 go_enter Tryz.func240, Tryz.ntmps240
 go_wp2
 go_region
 go_wp2
 refine bodyPost_ret (v := .tuple #[tokV false k (.slice E k c) 0, .slice F (n - k) (c - k), .int .i64 0]) ?_ rfl ⟨E, F, rfl, ?_, ?_, ?_⟩
 ·simp [results, Tryz.results240, go_sem, tokV]
 ·exact (HE.out.alloc hB _).drewN 1
 ·exact (HF.out.alloc hB _).drewN 1
 ·exact below_drewN (ej _ _) 1
theorem tokbox (w w1 : World) (T : TypeId) (v0 v1 v2 v3 : Value) (hb : Below (w.alloc (.cells #[v0, v1, v2, v3] T)).heap.size (w.alloc (.cells #[v0, v1, v2, v3] T)) w1) : Box4 w1 w.heap.size v0 v1 v2 v3 ∧ Below w.heap.size w w1 ∧ w.heap.size < w1.heap.size :=
 ⟨(Box4.made w T v0 v1 v2 v3).below hb (by simp), (ej _ _).trans (hb.mono (by simp)), by have := hb.size; simp at this; omega⟩
theorem takeToken_err1 (A : Option Addr) (n c B : Nat) (l : List UInt8) (x : Nat) (w : World) (hr : Rb w B A n c l) (hB : B ≤ w.heap.size) (hn : n ≤ 1000000) (htk : Vm.tk l = (0, 0, x)) (hx : x = 2 ∨ x = 3) :
  Calls Tryz.prog 217 #[.slice A n c] w fun e w' => e = .returned (.tuple #[tokV false 0 (.slice none 0 0) 0, .slice none 0 0, .int .i64 (x : Int)]) ∧ Below w.heap.size w w' := by
 have hx0 : ((x : Int) == 0) = false := by simp; omega
 have Hr := ek hr; have Htk := ek htk; have Hx := ek hx; clear hr htk hx
 go_enter Tryz.func217, Tryz.ntmps217
 go_wp2_with fail
 refine (takeNumber_err A n c B l x _ (Hr.out.alloc hB _) (by simp; omega) hn Htk.out Hx.out).mono ?_
 rintro e w1 ⟨rfl, hb1⟩
 obtain ⟨⟨c0, c1, c2, c3, f0, f1, f2, f3, hlt⟩, hbb, hs1⟩ := tokbox _ _ _ _ _ _ _ hb1
 clear hb1
 go_wp2
 refine bodyPost_ret (v := .tuple #[tokV false 0 (.slice none 0 0) 0, .slice none 0 0, .int .i64 (x : Int)]) ?_ rfl ⟨rfl, ?_⟩
 ·simp [results, Tryz.results217, go_sem, tokV, c0, c1, c2, c3]
 ·exact (((hbb.setCell (by simp) _).setCell (by simp) _).setCell (by simp) _).setCell (by simp) _
theorem takeToken_short (A : Option Addr) (n c B : Nat) (l : List UInt8) (a s : Nat) (w : World) (hr : Rb w B A n c l) (hB : B ≤ w.heap.size) (hn : n ≤ 1000000) (htk : Vm.tk l = (a, s, 0)) (ha : a < 18446744073709551616) (h2 : a % 2 = 0) (hk : n - s < a / 2 + 1) :
  Calls Tryz.prog 217 #[.slice A n c] w fun e w' => e = .returned (.tuple #[tokV false 0 (.slice none 0 0) 0, .slice none 0 0, .int .i64 2]) ∧ Below w.heap.size w w' := by
 have Hr := ek hr; have Htk := ek htk; clear hr htk
 have Hk := ek hk; clear hk
 have h2' : (((a : Int) % 2) == 0) = true := by simp; omega
 have H2 := ek h2; clear h2
 go_enter Tryz.func217, Tryz.ntmps217
 go_wp2_with fail
 refine (takeNumber_ok A n c B l a s _ (Hr.out.alloc hB _) (by simp; omega) hn Htk.out).mono ?_
 rintro e w1 ⟨D, rfl, hrD, hb1⟩
 obtain ⟨hbx, hbb, hs1⟩ := tokbox _ _ _ _ _ _ _ hb1
 have Hbx := ek hbx; clear hb1 hrD hbx
 obtain ⟨k, hk⟩ : ∃ k, k = a / 2 + 1 := ⟨_, rfl⟩
 have hkz : (a : Int) / 2 + 1 = (k : Int) := by omega
 have hc := takeLiteral_short D (n - s) (c - s) k w1 (by omega) (by rw [hk]; exact Hk.out)
 rw [← hkz] at hc
 have Hc := ek hc; clear hc hk hkz
 go_wp2_with fail
 refine Hc.out.mono ?_
 rintro e w2 ⟨rfl, hb2⟩
 obtain ⟨c0, c1, c2, c3, f0, f1, f2, f3, hlt⟩ := Hbx.out.below hb2 hs1
 unfold tokV
 go_wp2
 refine bodyPost_ret (v := .tuple #[tokV false 0 (.slice none 0 0) 0, .slice none 0 0, .int .i64 2]) ?_ rfl ⟨rfl, ?_⟩
 ·simp [results, Tryz.results217, go_sem, tokV, c0, c1, c2, c3]
 ·exact ((((hbb.trans (hb2.mono (by omega))).setCell (by simp) _).setCell (by simp) _).setCell (by simp) _).setCell (by simp) _
theorem takeToken_lit (A : Option Addr) (n c B : Nat) (l : List UInt8) (a s : Nat) (w : World) (hr : Rb w B A n c l) (hB : B ≤ w.heap.size) (hn : n ≤ 1000000) (htk : Vm.tk l = (a, s, 0)) (h2 : a % 2 = 0) (hk : a / 2 + 1 ≤ n - s) :
  Calls Tryz.prog 217 #[.slice A n c] w fun e w' => ∃ E F, e = .returned (.tuple #[tokV false (a / 2 + 1) (.slice E (a / 2 + 1) (c - s)) 0, .slice F (n - s - (a / 2 + 1)) (c - s - (a / 2 + 1)), .int .i64 0]) ∧ Rb w' B E (a / 2 + 1) (c - s) ((l.drop s).take (a / 2 + 1)) ∧ Rb w' B F (n - s - (a / 2 + 1)) (c - s - (a / 2 + 1)) ((l.drop s).drop (a / 2 + 1)) ∧ Below w.heap.size w w' := by
 have Hr := ek hr; have Htk := ek htk; clear hr htk
 have Hk := ek hk; clear hk
 have h2' : (((a : Int) % 2) == 0) = true := by simp; omega
 have H2 := ek h2; clear h2
 obtain ⟨k, hk⟩ : ∃ k, k = a / 2 + 1 := ⟨_, rfl⟩
 have hkz : (a : Int) / 2 + 1 = (k : Int) := by omega
 rw [← hk] at Hk ⊢
 have hkn : k ≤ 1000000 := by have := Hk.out; omega
 have ha : a ≤ 2000000 := by omega
 have HK := ek hk; have Hkz := ek hkz; clear hk hkz
 go_enter Tryz.func217, Tryz.ntmps217
 go_wp2_with fail
 refine (takeNumber_ok A n c B l a s _ (Hr.out.alloc hB _) (by simp; omega) hn Htk.out).mono ?_
 rintro e w1 ⟨D, rfl, hrD, hb1⟩
 obtain ⟨hbx, hbb, hs1⟩ := tokbox _ _ _ _ _ _ _ hb1
 have Hbx := ek hbx; clear hb1 hbx
 have hc := takeLiteral_ok D (n - s) (c - s) B (l.drop s) k w1 hrD (by omega) (by omega) Hk.out
 rw [← Hkz.out] at hc
 have Hc := ek hc; clear hc hrD
 go_wp2_with fail
 refine Hc.out.mono ?_
 rintro e w2 ⟨E, F, rfl, hE, hF, hb2⟩
 have HE := ek hE; have HF := ek hF; clear hE hF
 obtain ⟨c0, c1, c2, c3, f0, f1, f2, f3, hlt⟩ := Hbx.out.below hb2 hs1
 unfold tokV
 go_wp2
 refine bodyPost_ret (v := .tuple #[tokV false k (.slice E k (c - s)) 0, .slice F (n - s - k) (c - s - k), .int .i64 0]) ?_ rfl ⟨E, F, rfl, ?_, ?_, ?_⟩
 ·simp [results, Tryz.results217, go_sem, tokV, c0, c1, c2, c3]
 ·exact (((HE.out.setCell hB _).setCell hB _).setCell hB _).setCell hB _
 ·exact (((HF.out.setCell hB _).setCell hB _).setCell hB _).setCell hB _
 ·exact ((((hbb.trans (hb2.mono (by omega))).setCell (by simp) _).setCell (by simp) _).setCell (by simp) _).setCell (by simp) _
theorem takeToken_err2 (A : Option Addr) (n c B : Nat) (l : List UInt8) (a s x : Nat) (w : World) (hr : Rb w B A n c l) (hB : B ≤ w.heap.size) (hn : n ≤ 1000000) (htk : Vm.tk l = (a, s, 0)) (h2 : a % 2 = 1) (htk2 : Vm.tk (l.drop s) = (0, 0, x)) (hx : x = 2 ∨ x = 3) :
  Calls Tryz.prog 217 #[.slice A n c] w fun e w' => e = .returned (.tuple #[tokV false 0 (.slice none 0 0) 0, .slice none 0 0, .int .i64 (x : Int)]) ∧ Below w.heap.size w w' := by
 have hx0 : ((x : Int) == 0) = false := by simp; omega
 have Hr := ek hr; have Htk := ek htk; have Htk2 := ek htk2; have Hx := ek hx; clear hr htk htk2 hx
 have h2' : (((a : Int) % 2) == 0) = false := by simp; omega
 have H2 := ek h2; clear h2
 go_enter Tryz.func217, Tryz.ntmps217
 go_wp2_with fail
 refine (takeNumber_ok A n c B l a s _ (Hr.out.alloc hB _) (by simp; omega) hn Htk.out).mono ?_
 rintro e w1 ⟨D, rfl, hrD, hb1⟩
 obtain ⟨hbx, hbb, hs1⟩ := tokbox _ _ _ _ _ _ _ hb1
 have Hbx := ek hbx; have HrD := ek hrD; clear hb1 hrD hbx
 go_wp2_with fail
 refine (takeNumber_err D (n - s) (c - s) B (l.drop s) x _ HrD.out (by omega) (by omega) Htk2.out Hx.out).mono ?_
 rintro e w2 ⟨rfl, hb2⟩
 obtain ⟨c0, c1, c2, c3, f0, f1, f2, f3, hlt⟩ := Hbx.out.below hb2 hs1
 go_wp2
 refine bodyPost_ret (v := .tuple #[tokV false 0 (.slice none 0 0) 0, .slice none 0 0, .int .i64 (x : Int)]) ?_ rfl ⟨rfl, ?_⟩
 ·simp [results, Tryz.results217, go_sem, tokV, c0, c1, c2, c3]
 ·exact ((((hbb.trans (hb2.mono (by omega))).setCell (by simp) _).setCell (by simp) _).setCell (by simp) _).setCell (by simp) _
theorem takeToken_mat (A : Option Addr) (n c B : Nat) (l : List UInt8) (a s d s2 : Nat) (w : World) (hr : Rb w B A n c l) (hB : B ≤ w.heap.size) (hn : n ≤ 1000000) (htk : Vm.tk l = (a, s, 0)) (ha : a < 18446744073709551616) (h2 : a % 2 = 1) (htk2 : Vm.tk (l.drop s) = (d, s2, 0)) :
  Calls Tryz.prog 217 #[.slice A n c] w fun e w' => ∃ F, e = .returned (.tuple #[tokV true (a / 2 + 4) (.slice none 0 0) d, .slice F (n - s - s2) (c - s - s2), .int .i64 0]) ∧ Rb w' B F (n - s - s2) (c - s - s2) ((l.drop s).drop s2) ∧ Below w.heap.size w w' := by
 have Hr := ek hr; have Htk := ek htk; have Htk2 := ek htk2; clear hr htk htk2
 have h2' : (((a : Int) % 2) == 0) = false := by simp; omega
 have H2 := ek h2; clear h2
 go_enter Tryz.func217, Tryz.ntmps217
 go_wp2_with fail
 refine (takeNumber_ok A n c B l a s _ (Hr.out.alloc hB _) (by simp; omega) hn Htk.out).mono ?_
 rintro e w1 ⟨D, rfl, hrD, hb1⟩
 obtain ⟨hbx, hbb, hs1⟩ := tokbox _ _ _ _ _ _ _ hb1
 have Hbx := ek hbx; have HrD := ek hrD; clear hb1 hrD hbx
 go_wp2_with fail
 refine (takeNumber_ok D (n - s) (c - s) B (l.drop s) d s2 _ HrD.out (by omega) (by omega) Htk2.out).mono ?_
 rintro e w2 ⟨F, rfl, hrF, hb2⟩
 have HF := ek hrF; clear hrF
 obtain ⟨c0, c1, c2, c3, f0, f1, f2, f3, hlt⟩ := Hbx.out.below hb2 hs1
 go_wp2
 refine bodyPost_ret (v := .tuple #[tokV true (a / 2 + 4) (.slice none 0 0) d, .slice F (n - s - s2) (c - s - s2), .int .i64 0]) ?_ rfl ⟨F, rfl, ?_, ?_⟩
 ·simp [results, Tryz.results217, go_sem, tokV, c0, c1, c2, c3]
 ·exact (((HF.out.setCell hB _).setCell hB _).setCell hB _).setCell hB _
 ·exact ((((hbb.trans (hb2.mono (by omega))).setCell (by simp) _).setCell (by simp) _).setCell (by simp) _).setCell (by simp) _
section
variable {n : Nat} {out r : List UInt8} {p k : Nat}
theorem ne_of_tk {a s : Nat} (h : Vm.tk r = (a, s, 0)) : r ≠ [] := by rintro rfl; simp [Vm.tk, Vm.dn_nil] at h
theorem eg_nil_few (h : out.length < n) : Pm.expGo n out [] p k = ([], 0, 0, 3) := by rw [Pm.expGo, dif_pos rfl, if_pos h]
theorem eg_nil (h : ¬ out.length < n) : Pm.expGo n out [] p k = (out, p, k, 0) := by rw [Pm.expGo, dif_pos rfl, if_neg h]
theorem eg_err1 {x : Nat} (hne : r ≠ []) (h : Vm.tk r = (0, 0, x)) (hx : x = 2 ∨ x = 3) : Pm.expGo n out r p k = ([], 0, 0, x) := by
 rw [Pm.expGo, dif_neg hne, h, dif_neg (by dsimp only; omega)]
theorem eg_short {a s : Nat} (h : Vm.tk r = (a, s, 0)) (h2 : a % 2 = 0) (hk : (r.drop s).length < a / 2 + 1) : Pm.expGo n out r p k = ([], 0, 0, 2) := by
 rw [Pm.expGo, dif_neg (ne_of_tk h), h, dif_pos rfl]; dsimp only; rw [if_pos h2, if_pos hk]
theorem eg_over {a s : Nat} (h : Vm.tk r = (a, s, 0)) (h2 : a % 2 = 0) (hk : ¬ (r.drop s).length < a / 2 + 1) (ho : n < out.length + (a / 2 + 1)) : Pm.expGo n out r p k = ([], 0, 0, 3) := by
 rw [Pm.expGo, dif_neg (ne_of_tk h), h, dif_pos rfl]; dsimp only; rw [if_pos h2, if_neg hk, if_pos ho]
theorem eg_lit {a s : Nat} (h : Vm.tk r = (a, s, 0)) (h2 : a % 2 = 0) (hk : ¬ (r.drop s).length < a / 2 + 1) (ho : ¬ n < out.length + (a / 2 + 1)) : Pm.expGo n out r p k = Pm.expGo n (out ++ (r.drop s).take (a / 2 + 1)) ((r.drop s).drop (a / 2 + 1)) (p + 1) k := by
 rw [Pm.expGo, dif_neg (ne_of_tk h), h, dif_pos rfl]; dsimp only; rw [if_pos h2, if_neg hk, if_neg ho]
theorem eg_err2 {a s x : Nat} (h : Vm.tk r = (a, s, 0)) (h2 : a % 2 = 1) (h3 : Vm.tk (r.drop s) = (0, 0, x)) (hx : x = 2 ∨ x = 3) : Pm.expGo n out r p k = ([], 0, 0, x) := by
 rw [Pm.expGo, dif_neg (ne_of_tk h), h, dif_pos rfl]; dsimp only; rw [if_neg (by omega), h3, if_neg (by dsimp only; omega)]
theorem eg_bad {a s d s2 : Nat} (h : Vm.tk r = (a, s, 0)) (h2 : a % 2 = 1) (h3 : Vm.tk (r.drop s) = (d, s2, 0)) (hb : d = 0 ∨ 4096 < d ∨ out.length < d ∨ n - out.length < a / 2 + 4) : Pm.expGo n out r p k = ([], 0, 0, 3) := by
 rw [Pm.expGo, dif_neg (ne_of_tk h), h, dif_pos rfl]; dsimp only; rw [if_neg (by omega), h3, if_pos rfl]; dsimp only; rw [if_pos hb]
theorem eg_mat {a s d s2 : Nat} (h : Vm.tk r = (a, s, 0)) (h2 : a % 2 = 1) (h3 : Vm.tk (r.drop s) = (d, s2, 0)) (hb : ¬ (d = 0 ∨ 4096 < d ∨ out.length < d ∨ n - out.length < a / 2 + 4)) : Pm.expGo n out r p k = Pm.expGo n (Pm.copyN (a / 2 + 4) d out) ((r.drop s).drop s2) p (k + 1) := by
 rw [Pm.expGo, dif_neg (ne_of_tk h), h, dif_pos rfl]; dsimp only; rw [if_neg (by omega), h3, if_pos rfl]; dsimp only; rw [if_neg hb]
end
theorem copyN_len : ∀ (k d : Nat) (o : List UInt8), (Pm.copyN k d o).length = o.length + k
 | 0, _, _ => rfl
 | k + 1, d, o => by rw [Pm.copyN, copyN_len k d]; simp; omega
theorem reaches_c (d o : Nat) (w : World) :
  Calls Tryz.prog 218 #[.int .u64 (d : Int), .int .u64 (o : Int)] w fun e w' => e = .returned (.bool (decide (0 < d ∧ d ≤ 4096 ∧ d ≤ o))) ∧ w = w' := by
 by_cases h1 : 0 < d
 ·by_cases h2 : d ≤ 4096
  ·by_cases h3 : d ≤ o
   ·rw [decide_eq_true (p := 0 < d ∧ d ≤ 4096 ∧ d ≤ o) ⟨h1, h2, h3⟩]
    go_enter Tryz.func218, Tryz.ntmps218
    go_wp2
    go_ret
    exact ⟨rfl,rfl⟩
   ·rw [decide_eq_false (p := 0 < d ∧ d ≤ 4096 ∧ d ≤ o) (fun q => h3 q.2.2)]
    go_enter Tryz.func218, Tryz.ntmps218
    go_wp2
    go_ret
    exact ⟨rfl,rfl⟩
  ·rw [decide_eq_false (p := 0 < d ∧ d ≤ 4096 ∧ d ≤ o) (fun q => h2 q.2.1)]
   go_enter Tryz.func218, Tryz.ntmps218
   go_wp2
   go_ret
   exact ⟨rfl,rfl⟩
 ·rw [decide_eq_false (p := 0 < d ∧ d ≤ 4096 ∧ d ≤ o) (fun q => h1 q.1)]
  go_enter Tryz.func218, Tryz.ntmps218
  go_wp2
  go_ret
  exact ⟨rfl,rfl⟩
theorem Box4.grown {w w' : World} {g g' : Nat} {v0 v1 v2 v3 : Value} (h : Box4 w g v0 v1 v2 v3) (hg : w.grownBy w' (some g')) (hne : g ≠ g') : Box4 w' g v0 v1 v2 v3 := by
 have hb : w'.heap[g]? = w.heap[g]? := hg.block g h.lt (fun e => hne (Option.some.inj e))
 have c : ∀ i, w'.cell? ⟨g, i,none⟩ = w.cell? ⟨g, i,none⟩ := fun i => World.cell?_of_block hb
 have f : ∀ i, w'.frozen? ⟨g, i,none⟩ = w.frozen? ⟨g, i,none⟩ := fun i => World.frozen?_of_block hb
 exact ⟨(c 0).trans h.c0, (c 1).trans h.c1, (c 2).trans h.c2, (c 3).trans h.c3, (f 0).trans h.f0, (f 1).trans h.f1, (f 2).trans h.f2, (f 3).trans h.f3, Nat.lt_of_lt_of_le h.lt hg.size⟩
theorem grown_setCell (w : World) (g i : Nat) (v : Value) : w.grownBy (w.setCell ⟨g, i,none⟩ v) (some g) :=
 ⟨rfl, rfl, rfl, by simp, fun k _ hne => by simp only [World.setCell]; rw [Array.getElem?_modify, if_neg (fun e => hne (by rw [← e]))]⟩
theorem grown_put4 (w : World) (g : Nat) (v0 v1 v2 v3 : Value) : w.grownBy (put4 w g v0 v1 v2 v3) (some g) :=
 (((grown_setCell w g 0 v0).trans (grown_setCell _ g 1 v1)).trans (grown_setCell _ g 2 v2)).trans (grown_setCell _ g 3 v3)
theorem Box4.set2 {w : World} {g : Nat} {u0 u1 u2 u3 : Value} (h : Box4 w g u0 u1 u2 u3) (v : Value) : Box4 (w.setCell ⟨g, 2,none⟩ v) g u0 u1 v u3 := by
 obtain ⟨c0, c1, c2, c3, f0, f1, f2, f3, hlt⟩ := h
 have o : ∀ j : Nat, 2 ≠ j → (w.setCell ⟨g, 2,none⟩ v).cell? ⟨g, j,none⟩ = w.cell? ⟨g, j,none⟩ := fun j hj => World.cell?_setCell_other w _ _ _ (by simp)
 exact ⟨(o 0 (by omega)).trans c0, (o 1 (by omega)).trans c1, World.cell?_setCell_same w _ _ c2, (o 3 (by omega)).trans c3, by simp only [World.frozen?_setCell]; exact f0, by simp only [World.frozen?_setCell]; exact f1, by simp only [World.frozen?_setCell]; exact f2, by simp only [World.frozen?_setCell]; exact f3, by simpa using hlt⟩
theorem Box4.set3 {w : World} {g : Nat} {u0 u1 u2 u3 : Value} (h : Box4 w g u0 u1 u2 u3) (v : Value) : Box4 (w.setCell ⟨g, 3,none⟩ v) g u0 u1 u2 v := by
 obtain ⟨c0, c1, c2, c3, f0, f1, f2, f3, hlt⟩ := h
 have o : ∀ j : Nat, 3 ≠ j → (w.setCell ⟨g, 3,none⟩ v).cell? ⟨g, j,none⟩ = w.cell? ⟨g, j,none⟩ := fun j hj => World.cell?_setCell_other w _ _ _ (by simp)
 exact ⟨(o 0 (by omega)).trans c0, (o 1 (by omega)).trans c1, (o 2 (by omega)).trans c2, World.cell?_setCell_same w _ _ c3, by simp only [World.frozen?_setCell]; exact f0, by simp only [World.frozen?_setCell]; exact f1, by simp only [World.frozen?_setCell]; exact f2, by simp only [World.frozen?_setCell]; exact f3, by simpa using hlt⟩
theorem count_lit (g : Nat) (S tv : Value) (p k : Nat) (kk : Nat) (sl : Value) (d : Nat) (w : World) (hb : Box4 w g S tv (.int .i64 (p : Int)) (.int .i64 (k : Int))) (hp : p ≤ 1000000) :
  Calls Tryz.prog 219 #[.pointer (some ⟨g, 0,none⟩), tokV false kk sl d] w fun e w' => e = .returned (.tuple #[]) ∧ Box4 w' g S tv (.int .i64 ((p + 1 : Nat) : Int)) (.int .i64 (k : Int)) ∧ w.grownBy w' (some g) := by
 have Hb := ek hb
 obtain ⟨c0, c1, c2, c3, f0, f1, f2, f3, hlt⟩ := hb
 have hne : g ≠ w.heap.size := by omega
 unfold tokV
 go_enter Tryz.func219, Tryz.ntmps219
 go_wp2
 go_end0
 exact ⟨rfl, (Hb.out.set2 _).alloc _, (grown_setCell w g 2 _).trans (World.grownBy_alloc _ _ _)⟩
theorem count_mat (g : Nat) (S tv : Value) (p k : Nat) (kk : Nat) (sl : Value) (d : Nat) (w : World) (hb : Box4 w g S tv (.int .i64 (p : Int)) (.int .i64 (k : Int))) (hk : k ≤ 1000000) :
  Calls Tryz.prog 219 #[.pointer (some ⟨g, 0,none⟩), tokV true kk sl d] w fun e w' => e = .returned (.tuple #[]) ∧ Box4 w' g S tv (.int .i64 (p : Int)) (.int .i64 ((k + 1 : Nat) : Int)) ∧ w.grownBy w' (some g) := by
 have Hb := ek hb
 obtain ⟨c0, c1, c2, c3, f0, f1, f2, f3, hlt⟩ := hb
 have hne : g ≠ w.heap.size := by omega
 unfold tokV
 go_enter Tryz.func219, Tryz.ntmps219
 go_wp2
 go_end0
 exact ⟨rfl, (Hb.out.set3 _).alloc _, (grown_setCell w g 3 _).trans (World.grownBy_alloc _ _ _)⟩
theorem Box4.grownO {w w' : World} {g : Nat} {r : Option Nat} {v0 v1 v2 v3 : Value} (h : Box4 w g v0 v1 v2 v3) (hg : w.grownBy w' r) (hne : some g ≠ r) : Box4 w' g v0 v1 v2 v3 := by
 have hb : w'.heap[g]? = w.heap[g]? := hg.block g h.lt hne
 have c : ∀ i, w'.cell? ⟨g, i,none⟩ = w.cell? ⟨g, i,none⟩ := fun i => World.cell?_of_block hb
 have f : ∀ i, w'.frozen? ⟨g, i,none⟩ = w.frozen? ⟨g, i,none⟩ := fun i => World.frozen?_of_block hb
 exact ⟨(c 0).trans h.c0, (c 1).trans h.c1, (c 2).trans h.c2, (c 3).trans h.c3, (f 0).trans h.f0, (f 1).trans h.f1, (f 2).trans h.f2, (f 3).trans h.f3, Nat.lt_of_lt_of_le h.lt hg.size⟩
theorem getD_of' {l : List UInt8} {i : Nat} {x : UInt8} (h : l[i]? = some x) : l.getD i 0 = x := by simp [List.getD, h]
theorem own_alloc_ob {w : World} {e : TypeId} {base c : Nat} {A : Option Addr} {l : List UInt8} (h : Own w e base A c l) : ob A ≠ some w.heap.size := fun q => by have := (own_ob h _ q).2; omega
theorem appended_lit (A : Option Addr) (c base : Nat) (o : List UInt8) (E : Option Addr) (K ec B d : Nat) (l : List UInt8) (w : World) (hown : Own w 5 base A c o) (hb : base ≤ w.heap.size) (hr : Rb w B E K ec l) (hB : B ≤ w.heap.size) (hs : o.length + l.length ≤ 140737488355328) :
  Calls Tryz.prog 220 #[tokV false K (.slice E K ec) d, .slice A o.length c] w (RetO base w A (o ++ l)) := by
 have Hr := ek hr; have Hown := ek hown; clear hr hown
 unfold tokV
 go_enter Tryz.func220, Tryz.ntmps220
 go_wp2_with (at_builtin; go_must (refine bty.wpAppAt rfl (.tmp 8) (.tmp 10) rfl (l := o) (r := l) rfl rfl (Hown.out.alloc _) (Hr.out.alloc hB _) ?hs1 ?hs2 ?_))
 case hs1 => omega
 case hs2 => simp; omega
 intro A2 c2 w2 hown2 hg2
 go_wp2
 go_ret
 exact ⟨A2, c2, ret_len (by simp), hown2, Grows.pre (ej _ _) hg2⟩
def AppRel (base g2 : Nat) (W : World) (A : Option Addr) (OUT : List UInt8) (K d olen : Nat) (v1 v2 : Value) (to tj : Value) (wr : World) : Prop :=
 ∃ A1 c1 o1 j, to = .slice A1 (o1 : List UInt8).length c1 ∧ tj = .int .u64 ((j : Nat) : Int) ∧ j ≤ K ∧ o1.length = olen + j ∧ Hid (Own wr 5 base A1 c1 o1) ∧ Hid (Pm.copyN (K - j) d o1 = OUT) ∧ Hid (Box4 wr g2 v1 (.int .u64 (K : Int)) v2 (.int .u64 (d : Int))) ∧ Hid (ob A1 ≠ some g2) ∧ Hid (Grows W wr A A1) ∧ base ≤ wr.heap.size
theorem appended_mat (A : Option Addr) (c base : Nat) (o : List UInt8) (K d : Nat) (w : World) (hown : Own w 5 base A c o) (hb : base ≤ w.heap.size) (hd : 1 ≤ d) (hd2 : d ≤ 4096) (hd3 : d ≤ o.length) (hs : o.length + K ≤ 2147483647) :
  Calls Tryz.prog 220 #[tokV true K (.slice none 0 0) d, .slice A o.length c] w (RetO base w A (Pm.copyN K d o)) := by
 obtain ⟨OUT, hOUT⟩ : ∃ OUT, OUT = Pm.copyN K d o := ⟨_, rfl⟩
 rw [← hOUT]
 have Hown := ek hown; have HOUT := ek hOUT
 have Hne := ek (own_alloc_ob hown); have Hbox := ek (Box4.made w 247 (.bool true) (.int .u64 (K : Int)) (.slice none 0 0) (.int .u64 (d : Int)))
 clear hown hOUT
 obtain ⟨ol, hol⟩ : ∃ ol, ol = o.length := ⟨_, rfl⟩
 rw [← hol] at hs hd3 ⊢
 have Hol := ek hol; clear hol
 unfold tokV
 go_enter Tryz.func220, Tryz.ntmps220
 go_wp2
 go_loopw [1, 14] (fun to tj wr => AppRel base w.heap.size w A OUT K d ol (.bool true) (.slice none 0 0) to tj wr) (fun _ tj _ => K - (intOf tj).toNat)
 case atStart => exact ⟨A, c, o, 0, by rw [Hol.out], rfl, by omega, by rw [Hol.out, Nat.add_zero], ek (Hown.out.alloc _), ek (by rw [HOUT.out, Nat.sub_zero]), Hbox, Hne, ek ⟨World.grownBy_alloc _ _ _, .inl rfl⟩, by simp; omega⟩
 case round =>
  obtain ⟨A1, c1, o1, j, rfl, rfl, hj, hlen, HO, HC, HB, HN, HG, hsz⟩ := hrel
  obtain ⟨t0, t1, t2, t3, k0, k1, k2, k3, hlt2⟩ := HB.out
  have Hlen := ek hlen; clear hlen
  by_cases hjK : j < K
  ·have hpos : 0 < o1.length := by have := Hlen.out; omega
   have hdl : d ≤ o1.length := by have := Hlen.out; omega
   have hls : o1.length ≤ 2147483647 := by have := Hlen.out; omega
   obtain ⟨g, rfl, hgb⟩ := HO.out.at_base hpos
   obtain ⟨x, hx⟩ : ∃ x, o1[o1.length - d]? = some x := ⟨_, List.getElem?_eq_getElem (by omega)⟩
   have hc := HO.out.cellAt _ x hx
   have hcopy : Hid (Pm.copyN (K - (j + 1)) d (o1 ++ [x]) = OUT) := by
    have h1 := HC.out
    rw [show K - j = (K - (j + 1)) + 1 by omega, Pm.copyN, getD_of' hx] at h1
    exact h1
   have Hx := ek hx; clear hx HC
   have p1 : (0 : Int) ≤ (o1.length : Int) - (d : Int) := by omega
   have p2 : (o1.length : Int) - (d : Int) < (o1.length : Int) := by omega
   have e1 : ((o1.length : Int) - (d : Int)).toNat = o1.length - d := by omega
   go_wp2_with (at_builtin; go_must (refine bty.wpAppAt rfl (.tmp 16) (.tmp 26) rfl (l := o1) (r := [x]) rfl rfl (HO.out.alloc _) (Rb.one _ _ x) ?hs1 ?hs2 ?_))
   case hs1 => simp; omega
   case hs2 => simp; omega
   intro A2 c2 w2 hown2 hg2
   have hg3 : Grows wr w2 (some ⟨g, 0,none⟩) A2 := Grows.pre (ej _ _) hg2
   have hn2 : ob A2 ≠ some w.heap.size := fun q => by
    rcases hg3.2 with e | ⟨g', e, hge⟩
    ·exact HN.out (e ▸ q)
    ·rw [e] at q; cases q; omega
   have HB2 := ek (HB.out.grownO hg3.1 (fun e => HN.out e.symm))
   have HO2 := ek hown2; have HG2 := ek (HG.out.trans hg3); have HN2 := ek hn2
   have hs2 := hg3.size
   clear hg2 hg3 hown2 HO HB HG HN t0 t1 t2 t3 k0 k1 k2 k3 hc
   go_wp2
   go_roundw
   case rel => exact ⟨A2, c2, o1 ++ [x], j + 1, by simp, by go_num, by omega, by rw [List.length_append, Hlen.out]; simp; omega, HO2, hcopy, HB2, HN2, HG2, by omega⟩
   case measure => simp [intOf]; omega
  ·go_wp2
   go_ret
   obtain rfl : j = K := by omega
   have h1 := HC.out
   rw [Nat.sub_self] at h1
   have h2 : o1 = OUT := h1
   subst h2
   exact ⟨A1, c1, rfl, HO.out, HG.out⟩
def surV (S : Nat) (s : Value) (p k : Nat) : Value := .agg #[.int .u64 (S : Int), s, .int .i64 (p : Int), .int .i64 (k : Int)]
def SurRet (w : World) (B n c : Nat) (l : List UInt8) (most : Int) (e : Ending) (w' : World) : Prop :=
 Below w.heap.size w w' ∧
  ((∃ S s D out p k, Vm.tk l = (S, s, 0) ∧ Pm.expS l most = (out, p, k, 0) ∧ Pm.expGo S [] (l.drop s) 0 0 = (out, p, k, 0) ∧ e = .returned (.tuple #[surV S (.slice D (n - s) (c - s)) p k, .int .i64 0]) ∧ Rb w' B D (n - s) (c - s) (l.drop s) ∧ (0 ≤ most ∧ (S : Int) ≤ most) ∧ p ≤ n ∧ k ≤ n)
  ∨ ∃ x, Pm.expS l most = ([], 0, 0, x) ∧ 0 < x ∧ x < 100 ∧ e = .returned (.tuple #[surV 0 (.slice none 0 0) 0 0, .int .i64 (x : Int)]))
def SurRel (w : World) (B S n g0 g9 : Nat) (tv : Value) (RES : List UInt8 × Nat × Nat × Nat) (tr ts : Value) (wr : World) : Prop :=
 ∃ r D m dc out p k, tr = .slice D m dc ∧ ts = .int .u64 ((out : List UInt8).length : Int) ∧ Hid (Rb wr B D m dc r) ∧ out.length ≤ S ∧ p + k + m ≤ n ∧
  Hid (Box4 wr g9 (.int .u64 (S : Int)) tv (.int .i64 ((p : Nat) : Int)) (.int .i64 ((k : Nat) : Int))) ∧ Hid (Box4 wr g0 (.int .u64 0) (.slice none 0 0) (.int .i64 0) (.int .i64 0)) ∧ Hid (Pm.expGo S out r p k = RES) ∧ Below w.heap.size w wr ∧ w.heap.size + 2 ≤ wr.heap.size
theorem surveyed_c (A : Option Addr) (n c B : Nat) (l : List UInt8) (most : Int) (w : World) (hr : Rb w B A n c l) (hB : B ≤ w.heap.size) (hn : n ≤ 900000) (hm : I64 most) :
  Calls Tryz.prog 184 #[.slice A n c, .int .i64 most] w (SurRet w B n c l most) := by
 have hl := hr.len
 rcases tk_cases l with ⟨S, s, htk, hS, hs, hs10⟩ | ⟨x, htk, hx⟩
 ·by_cases h1 : most < 0 ∨ most < (S : Int)
  ·have hres : Pm.expS l most = ([], 0, 0, 5) := by unfold Pm.expS; rw [htk]; dsimp only; rw [if_pos rfl, if_pos h1]
   have Hr := ek hr; have Htk := ek htk; have Hl := ek hl; have Hm := ek hm; have HS := ek hS; have Hres := ek hres; clear hr htk hl hm hS hres
   by_cases h2 : most < 0
   ·clear h1
    go_enter Tryz.func184, Tryz.ntmps184
    go_wp2_with fail
    refine (takeNumber_ok A n c B l S s _ (Hr.out.alloc hB _) (by simp; omega) (by omega) Htk.out).mono ?_
    rintro e w1 ⟨D, rfl, hrD, hb1⟩
    obtain ⟨⟨c0, c1, c2, c3, f0, f1, f2, f3, hlt⟩, hbb, hs1⟩ := tokbox _ _ _ _ _ _ _ hb1
    clear hb1 hrD
    go_wp2
    refine bodyPost_ret (v := .tuple #[surV 0 (.slice none 0 0) 0 0, .int .i64 5]) ?_ rfl ⟨?_, .inr ⟨5, Hres.out, by omega, by omega, rfl⟩⟩
    ·simp [results, Tryz.results184, go_sem, surV, c0, c1, c2, c3]
    ·exact (((hbb.setCell (by simp) _).setCell (by simp) _).setCell (by simp) _).setCell (by simp) _
   ·have h3 : 0 ≤ most := by omega
    have h4 : most < (S : Int) := by omega
    have hw : IntKind.u64.wrap most = most := by have := Hm.out; unfold I64 at this; rw [IntKind.wrap_u64]; omega
    clear h1 h2
    go_enter Tryz.func184, Tryz.ntmps184
    go_wp2_with fail
    refine (takeNumber_ok A n c B l S s _ (Hr.out.alloc hB _) (by simp; omega) (by omega) Htk.out).mono ?_
    rintro e w1 ⟨D, rfl, hrD, hb1⟩
    obtain ⟨⟨c0, c1, c2, c3, f0, f1, f2, f3, hlt⟩, hbb, hs1⟩ := tokbox _ _ _ _ _ _ _ hb1
    clear hb1 hrD
    go_wp2
    refine bodyPost_ret (v := .tuple #[surV 0 (.slice none 0 0) 0 0, .int .i64 5]) ?_ rfl ⟨?_, .inr ⟨5, Hres.out, by omega, by omega, rfl⟩⟩
    ·simp [results, Tryz.results184, go_sem, surV, c0, c1, c2, c3]
    ·exact (((hbb.setCell (by simp) _).setCell (by simp) _).setCell (by simp) _).setCell (by simp) _
  ·have h3 : 0 ≤ most := by omega
   have h4 : (S : Int) ≤ most := by omega
   have hw : IntKind.u64.wrap most = most := by unfold I64 at hm; rw [IntKind.wrap_u64]; omega
   obtain ⟨RES, hRES⟩ : ∃ RES, RES = Pm.expGo S [] (l.drop s) 0 0 := ⟨_, rfl⟩
   have hres : Pm.expS l most = RES := by unfold Pm.expS; rw [htk]; dsimp only; rw [if_pos rfl, if_neg h1, hRES]
   have hns : n - s ≤ n := by omega
   have Hr := ek hr; have Htk := ek htk; have Hl := ek hl; have HS := ek hS; have Hres := ek hres; have HRES := ek hRES; clear hr htk hl hm hS hres hRES h1
   go_enter Tryz.func184, Tryz.ntmps184
   go_wp2_with fail
   refine (takeNumber_ok A n c B l S s _ (Hr.out.alloc hB _) (by simp; omega) (by omega) Htk.out).mono ?_
   rintro e w1 ⟨D0, rfl, hrD, hb1⟩
   obtain ⟨hbx, hbb, hs1⟩ := tokbox _ _ _ _ _ _ _ hb1
   have Hbx := ek hbx; have HrD := ek hrD
   clear hb1 hrD hbx
   have HrW : Hid (Rb w B D0 (n - s) (c - s) (l.drop s)) := ek (HrD.out.keep fun p hp => (hbb.cell (by omega)).symm)
   obtain ⟨m0, hm0⟩ : ∃ m0, m0 = n - s := ⟨_, rfl⟩
   obtain ⟨d0, hd0⟩ : ∃ d0, d0 = c - s := ⟨_, rfl⟩
   rw [← hm0, ← hd0] at HrD HrW ⊢
   have Hm0 := ek hm0; have Hd0 := ek hd0
   have hm0n : m0 ≤ n := by omega
   clear hm0 hd0
   have hwl : Below w.heap.size w (w1.alloc (.cells #[.int .u64 (S : Int), .slice D0 m0 d0, .int .i64 0, .int .i64 0] 225)) := hbb.alloc (by omega) _
   have Hsb := ek (Box4.made w1 225 (.int .u64 (S : Int)) (.slice D0 m0 d0) (.int .i64 0) (.int .i64 0))
   have Hrb := ek (Hbx.out.alloc (.cells #[.int .u64 (S : Int), .slice D0 m0 d0, .int .i64 0, .int .i64 0] 225))
   have HrD1 := ek (HrD.out.alloc (by omega) (.cells #[.int .u64 (S : Int), .slice D0 m0 d0, .int .i64 0, .int .i64 0] 225))
   clear Hbx HrD
   go_wp2
   go_loopw [7, 10] (fun tr ts wr => SurRel w B S n w.heap.size w1.heap.size (.slice D0 m0 d0) RES tr ts wr) (fun tr _ _ => slen tr)
   case atStart => exact ⟨l.drop s, D0, m0, d0, [], 0, 0, rfl, rfl, HrD1, by simp, by omega, Hsb, Hrb, HRES.out.symm, hwl, by simp; omega⟩
   case round =>
    obtain ⟨r, D, m, dc, out, p, k, rfl, rfl, HrD, houtS, hpk, Hsb, Hrb, HG, hbel, hsz⟩ := hrel
    have hw6 : IntKind.u64.wrap ((S : Int) - (out.length : Int)) = (S : Int) - (out.length : Int) := by have := HS.out; rw [IntKind.wrap_u64]; omega
    have hrl := HrD.out.len
    have Hrl := ek hrl; clear hrl
    have h9 := Hsb.out.lt
    by_cases hmz : m = 0
    ·subst hmz
     obtain rfl : r = [] := List.eq_nil_of_length_eq_zero Hrl.out
     by_cases hfew : out.length < S
     ·obtain ⟨c0, c1, c2, c3, f0, f1, f2, f3, hlt⟩ := Hrb.out
      have hfew' : ((out.length : Int) < (S : Int)) := by omega
      go_wp2
      refine bodyPost_ret (v := .tuple #[surV 0 (.slice none 0 0) 0 0, .int .i64 3]) ?_ rfl ⟨?_, .inr ⟨3, ?_, by omega, by omega, rfl⟩⟩
      ·simp [results, Tryz.results184, go_sem, surV, c0, c1, c2, c3]
      ·exact ((((hbel).setCell (by simp) _).setCell (by simp) _).setCell (by simp) _).setCell (by simp) _
      ·rw [Hres.out, ← HG.out]; exact eg_nil_few hfew
     ·obtain ⟨c0, c1, c2, c3, f0, f1, f2, f3, hlt⟩ := Hrb.out
      obtain ⟨b0, b1, b2, b3, _, _, _, _, _⟩ := Hsb.out
      have hfew' : ((S : Int) ≤ (out.length : Int)) := by omega
      go_wp2
      refine bodyPost_ret (v := .tuple #[surV S (.slice D0 m0 d0) p k, .int .i64 0]) ?_ rfl ⟨?_, .inl ⟨S, s, D0, out, p, k, Htk.out, ?_, ?_, by rw [Hm0.out, Hd0.out], ?_, ⟨h3, h4⟩, by omega, by omega⟩⟩
      ·simp [results, Tryz.results184, go_sem, surV, c0, c1, c2, c3]
      ·exact ((((hbel).setCell (by simp) _).setCell (by simp) _).setCell (by simp) _).setCell (by simp) _
      ·rw [Hres.out, ← HG.out]; exact eg_nil hfew
      ·rw [← HRES.out, ← HG.out]; exact eg_nil hfew
      ·rw [← Hm0.out, ← Hd0.out]
       exact ((((HrW.out.below (hbel.mono hB)).setCell hB _).setCell hB _).setCell hB _).setCell hB _
    ·have hmp : 0 < m := by omega
     have hne : r ≠ [] := by intro e; rw [e] at Hrl; have := Hrl.out; simp at this; omega
     have hBr : B ≤ wr.heap.size := by omega
     rcases tk_cases r with ⟨a, s1, htk1, ha, hs1', _⟩ | ⟨x, htk1, hx⟩
     ·have hs1p : 1 ≤ s1 := by have := Pm.tk_pos r (by rw [htk1]); rw [htk1] at this; exact this
      have hs1m : s1 ≤ m := by have := Hrl.out; omega
      have Htk1 := ek htk1
      clear hne
      by_cases h2 : a % 2 = 0
      ·by_cases hsh : m - s1 < a / 2 + 1
       ·have HG2 := ek (HG.out.symm.trans (eg_short htk1 h2 (by rw [List.length_drop, Hrl.out]; exact hsh)))
        clear htk1
        go_wp2_with fail
        refine (takeToken_short D m dc B r a s1 _ (HrD.out.alloc hBr _) (by simp; omega) (by omega) Htk1.out ha h2 hsh).mono ?_
        rintro e w2 ⟨rfl, hb2⟩
        obtain ⟨htb, hbb2, hs2⟩ := tokbox _ _ _ _ _ _ _ hb2
        have HTB := ek htb; have HRB := ek (Hrb.out.below hbb2 (by omega)); have HSB := ek (Hsb.out.below hbb2 (by omega))
        have hn1 : w.heap.size ≠ wr.heap.size := by omega
        have hn2 : wr.heap.size ≠ w.heap.size := by omega
        have hbel2 := hbel.trans (hbb2.mono (by omega))
        clear htb hb2 Hrb Hsb
        obtain ⟨t0, t1, t2, t3, k0, k1, k2, k3, hlt2⟩ := HTB.out
        obtain ⟨c0, c1, c2, c3, f0, f1, f2, f3, hlt⟩ := HRB.out
        clear hsh h2 ha
        unfold tokV
        go_wp2
        refine bodyPost_ret (v := .tuple #[surV 0 (.slice none 0 0) 0 0, .int .i64 2]) ?_ rfl ⟨?_, .inr ⟨2, ?_, by omega, by omega, rfl⟩⟩
        ·simp [results, Tryz.results184, go_sem, surV, c0, c1, c2, c3]
        ·exact ((((((((hbel2).setCell (by simp; omega) _).setCell (by simp; omega) _).setCell (by simp; omega) _).setCell (by simp; omega) _).setCell (by simp) _).setCell (by simp) _).setCell (by simp) _).setCell (by simp) _
        ·rw [Hres.out, ← HG.out]; exact (HG.out.trans HG2.out)
       ·obtain ⟨K, hK⟩ : ∃ K, K = a / 2 + 1 := ⟨_, rfl⟩
        have hgl := fun ho => eg_over (p := p) (k := k) (n := S) (out := out) htk1 h2 (by rw [List.length_drop, Hrl.out]; exact hsh) ho
        have hgc := fun ho => eg_lit (p := p) (k := k) (n := S) (out := out) htk1 h2 (by rw [List.length_drop, Hrl.out]; exact hsh) ho
        have hct := takeToken_lit D m dc B r a s1 (wr.alloc (.cells #[.bool false, .int .u64 0, .slice none 0 0, .int .u64 0] 247)) (HrD.out.alloc hBr _) (by simp; omega) (by omega) Htk1.out h2 (by omega)
        rw [← hK] at hgl hgc hct hsh
        have hlen : (out ++ (r.drop s1).take K).length = out.length + K := by rw [List.length_append, List.length_take, List.length_drop, Hrl.out]; omega
        have hKm : K ≤ m - s1 := by omega
        have hK1 : 1 ≤ K := by omega
        have Hct := ek hct; have Hgl := ek hgl; have Hgc := ek hgc
        clear htk1 hct hgl hgc hK h2 ha hsh Htk1
        obtain ⟨o, ho⟩ : ∃ o, o = out.length := ⟨_, rfl⟩
        rw [← ho] at houtS hlen hw6 ⊢
        have Ho := ek ho; have Hlen := ek hlen; clear ho hlen
        go_wp2_with fail
        refine Hct.out.mono ?_
        rintro e w2 ⟨E, F, rfl, hE, hF, hb2⟩
        have HF := ek hF; clear hE hF Hct
        obtain ⟨htb, hbb2, hs2⟩ := tokbox _ _ _ _ _ _ _ hb2
        have HTB := ek htb; have HRB := ek (Hrb.out.below hbb2 (by omega)); have HSB := ek (Hsb.out.below hbb2 (by omega))
        have hn1 : w.heap.size ≠ wr.heap.size := by omega
        have hn2 : wr.heap.size ≠ w.heap.size := by omega
        have hbel2 := hbel.trans (hbb2.mono (by omega))
        clear htb hb2 Hrb Hsb
        by_cases hov : S < o + K
        ·have hov' : (S : Int) - (o : Int) < (K : Int) := by omega
         have HG2 := ek (HG.out.symm.trans (Hgl.out (by rw [← Ho.out]; exact hov)))
         obtain ⟨t0, t1, t2, t3, k0, k1, k2, k3, hlt2⟩ := HTB.out
         obtain ⟨c0, c1, c2, c3, f0, f1, f2, f3, hlt⟩ := HRB.out
         unfold tokV
         go_wp2
         refine bodyPost_ret (v := .tuple #[surV 0 (.slice none 0 0) 0 0, .int .i64 3]) ?_ rfl ⟨?_, .inr ⟨3, ?_, by omega, by omega, rfl⟩⟩
         ·simp [results, Tryz.results184, go_sem, surV, c0, c1, c2, c3]
         ·exact ((((((((hbel2).setCell (by simp; omega) _).setCell (by simp; omega) _).setCell (by simp; omega) _).setCell (by simp; omega) _).setCell (by simp) _).setCell (by simp) _).setCell (by simp) _).setCell (by simp) _
         ·rw [Hres.out, ← HG.out]; exact (HG.out.trans HG2.out)
        ·have hov' : (K : Int) ≤ (S : Int) - (o : Int) := by omega
         have HG4 := ek ((Hgc.out (by rw [← Ho.out]; exact hov)).symm.trans HG.out)
         have hw5 : IntKind.u64.wrap ((o : Int) + (K : Int)) = (o : Int) + (K : Int) := by have := HS.out; rw [IntKind.wrap_u64]; omega
         obtain ⟨t0, t1, t2, t3, k0, k1, k2, k3, hlt2⟩ := HTB.out
         have hu : tokV false K (.slice E K (dc - s1)) 0 = .agg #[.bool false, .int .u64 (K : Int), .slice E K (dc - s1), .int .u64 0] := rfl
         rw [hu]
         have hlen := Hlen.out
         have HHlen := ek hlen; clear hlen
         have hg3 := grown_put4 w2 wr.heap.size (.bool false) (.int .u64 (K : Int)) (.slice E K (dc - s1)) (.int .u64 0)
         have HSB3 := ek (HSB.out.grown hg3 (by omega)); have HRB3 := ek (HRB.out.grown hg3 (by omega))
         have hcnt := count_lit w1.heap.size _ _ p k K (.slice E K (dc - s1)) 0 (put4 w2 wr.heap.size (.bool false) (.int .u64 (K : Int)) (.slice E K (dc - s1)) (.int .u64 0)) HSB3.out (by omega)
         have Hcnt := ek hcnt; have Hg3 := ek hg3; clear hcnt hg3
         go_wp2_with fail
         refine (show Calls Tryz.prog 219 #[.pointer (some ⟨w1.heap.size, 0,none⟩), tokV false K (.slice E K (dc - s1)) 0] (put4 w2 wr.heap.size (.bool false) (.int .u64 (K : Int)) (.slice E K (dc - s1)) (.int .u64 0)) _ from Hcnt.out).mono ?_
         rintro e w4 ⟨rfl, hsb4, hg4⟩
         have HSB4 := ek hsb4; have HRB4 := ek (HRB3.out.grown hg4 (by omega))
         have hbel3 : Below w.heap.size w (put4 w2 wr.heap.size (.bool false) (.int .u64 (K : Int)) (.slice E K (dc - s1)) (.int .u64 0)) := below_put4 hbel2 (by omega) _ _ _ _
         have hbel4 : Below w.heap.size w w4 := hbel3.grown hg4 hbel3.size (fun j hj => by cases hj; omega)
         have hb34 : Below w.heap.size w2 w4 := (below_put4 (Below.refl _ _) (by omega) _ _ _ _).grown hg4 (by have := hbel3.size; exact this) (fun j hj => by cases hj; omega)
         have HF4 := ek (HF.out.below (hb34.mono hB))
         have hs4 := hb34.size
         clear Hcnt hsb4 hg4 HSB3 HRB3 HSB HRB HTB hb34 hbel3 Hg3
         go_wp2
         go_roundw
         case rel => exact ⟨(r.drop s1).drop K, F, _, _, out ++ (r.drop s1).take K, p + 1, k, rfl, by rw [HHlen.out]; go_num, HF4, by rw [HHlen.out]; omega, by omega, HSB4, HRB4, HG4, hbel4, by omega⟩
         case measure => simp [slen]; omega
      ·have hodd : a % 2 = 1 := by omega
       clear h2
       rcases tk_cases (r.drop s1) with ⟨d, s2, htk2, hd, hs2, _⟩ | ⟨x, htk2, hx⟩
       ·rw [List.length_drop, Hrl.out] at hs2
        obtain ⟨K, hK⟩ : ∃ K, K = a / 2 + 4 := ⟨_, rfl⟩
        have hgb := fun hb => eg_bad (p := p) (k := k) (n := S) (out := out) htk1 hodd htk2 hb
        have hgc := fun hb => eg_mat (p := p) (k := k) (n := S) (out := out) htk1 hodd htk2 hb
        have hct := takeToken_mat D m dc B r a s1 d s2 (wr.alloc (.cells #[.bool false, .int .u64 0, .slice none 0 0, .int .u64 0] 247)) (HrD.out.alloc hBr _) (by simp; omega) (by omega) Htk1.out ha hodd htk2
        rw [← hK] at hgb hgc hct
        have hlen : (Pm.copyN K d out).length = out.length + K := copyN_len K d out
        have Hct := ek hct; have Hgb := ek hgb; have Hgc := ek hgc; have Hd := ek hd
        clear htk1 hct hgb hgc hK ha hodd Htk1 htk2 hd
        obtain ⟨o, ho⟩ : ∃ o, o = out.length := ⟨_, rfl⟩
        rw [← ho] at houtS hlen hw6 ⊢
        have Ho := ek ho; have HHlen := ek hlen; clear ho hlen
        go_wp2_with fail
        refine Hct.out.mono ?_
        rintro e w2 ⟨F, rfl, hF, hb2⟩
        have HF := ek hF; clear hF Hct
        obtain ⟨htb, hbb2, hs2'⟩ := tokbox _ _ _ _ _ _ _ hb2
        have HTB := ek htb; have HRB := ek (Hrb.out.below hbb2 (by omega)); have HSB := ek (Hsb.out.below hbb2 (by omega))
        have hn1 : w.heap.size ≠ wr.heap.size := by omega
        have hn2 : wr.heap.size ≠ w.heap.size := by omega
        have hbel2 := hbel.trans (hbb2.mono (by omega))
        clear htb hb2 Hrb Hsb
        have hu : tokV true K (.slice none 0 0) d = .agg #[.bool true, .int .u64 (K : Int), .slice none 0 0, .int .u64 (d : Int)] := rfl
        by_cases hok : 0 < d ∧ d ≤ 4096 ∧ d ≤ o
        ·have hrc := fun W => reaches_c d o W
         rw [decide_eq_true hok] at hrc
         have Hrc := ek hrc; have Hok := ek hok; clear hrc hok
         by_cases hov : S < o + K
         ·have hov' : (S : Int) - (o : Int) < (K : Int) := by omega
          have HG2 := ek (HG.out.symm.trans (Hgb.out (.inr (.inr (.inr (by rw [← Ho.out]; omega))))))
          obtain ⟨t0, t1, t2, t3, k0, k1, k2, k3, hlt2⟩ := HTB.out
          obtain ⟨c0, c1, c2, c3, f0, f1, f2, f3, hlt⟩ := HRB.out
          rw [hu]
          go_wp2_with fail
          refine (Hrc.out _).mono ?_
          rintro e w3 ⟨rfl,rfl⟩
          go_wp2
          refine bodyPost_ret (v := .tuple #[surV 0 (.slice none 0 0) 0 0, .int .i64 3]) ?_ rfl ⟨?_, .inr ⟨3, ?_, by omega, by omega, rfl⟩⟩
          ·simp [results, Tryz.results184, go_sem, surV, c0, c1, c2, c3]
          ·exact ((((((((hbel2).setCell (by simp; omega) _).setCell (by simp; omega) _).setCell (by simp; omega) _).setCell (by simp; omega) _).setCell (by simp) _).setCell (by simp) _).setCell (by simp) _).setCell (by simp) _
          ·rw [Hres.out, ← HG.out]; exact (HG.out.trans HG2.out)
         ·have hov' : (K : Int) ≤ (S : Int) - (o : Int) := by omega
          have HG4 := ek ((Hgc.out (by have := Hok.out; rw [← Ho.out]; omega)).symm.trans HG.out)
          have hw5 : IntKind.u64.wrap ((o : Int) + (K : Int)) = (o : Int) + (K : Int) := by have := HS.out; rw [IntKind.wrap_u64]; omega
          obtain ⟨t0, t1, t2, t3, k0, k1, k2, k3, hlt2⟩ := HTB.out
          rw [hu]
          go_wp2_with fail
          refine (Hrc.out _).mono ?_
          rintro e w3 ⟨rfl,rfl⟩
          have hg3 := grown_put4 w2 wr.heap.size (.bool true) (.int .u64 (K : Int)) (.slice none 0 0) (.int .u64 (d : Int))
          have HSB3 := ek (HSB.out.grown hg3 (by omega)); have HRB3 := ek (HRB.out.grown hg3 (by omega))
          have hcnt := count_mat w1.heap.size _ _ p k K (.slice none 0 0) d (put4 w2 wr.heap.size (.bool true) (.int .u64 (K : Int)) (.slice none 0 0) (.int .u64 (d : Int))) HSB3.out (by omega)
          have Hcnt := ek hcnt; have Hg3 := ek hg3; clear hcnt hg3
          go_wp2_with fail
          refine (show Calls Tryz.prog 219 #[.pointer (some ⟨w1.heap.size, 0,none⟩), tokV true K (.slice none 0 0) d] (put4 w2 wr.heap.size (.bool true) (.int .u64 (K : Int)) (.slice none 0 0) (.int .u64 (d : Int))) _ from Hcnt.out).mono ?_
          rintro e w4 ⟨rfl, hsb4, hg4⟩
          have HSB4 := ek hsb4; have HRB4 := ek (HRB3.out.grown hg4 (by omega))
          have hbel3 : Below w.heap.size w (put4 w2 wr.heap.size (.bool true) (.int .u64 (K : Int)) (.slice none 0 0) (.int .u64 (d : Int))) := below_put4 hbel2 (by omega) _ _ _ _
          have hbel4 : Below w.heap.size w w4 := hbel3.grown hg4 hbel3.size (fun j hj => by cases hj; omega)
          have hb34 : Below w.heap.size w2 w4 := (below_put4 (Below.refl _ _) (by omega) _ _ _ _).grown hg4 (by have := hbel3.size; exact this) (fun j hj => by cases hj; omega)
          have HF4 := ek (HF.out.below (hb34.mono hB))
          have hs4 := hb34.size
          clear Hcnt hsb4 hg4 HSB3 HRB3 HSB HRB HTB hb34 hbel3 Hg3
          go_wp2
          go_roundw
          case rel => exact ⟨(r.drop s1).drop s2, F, _, _, Pm.copyN K d out, p, k + 1, rfl, by rw [HHlen.out]; go_num, HF4, by rw [HHlen.out]; omega, by omega, HSB4, HRB4, HG4, hbel4, by omega⟩
          case measure => simp [slen]; omega
        ·have hrc := fun W => reaches_c d o W
         rw [decide_eq_false hok] at hrc
         have Hrc := ek hrc; have Hok := ek hok; clear hrc hok
         have HG2 := ek (HG.out.symm.trans (Hgb.out (by have := Hok.out; rw [← Ho.out]; omega)))
         obtain ⟨t0, t1, t2, t3, k0, k1, k2, k3, hlt2⟩ := HTB.out
         obtain ⟨c0, c1, c2, c3, f0, f1, f2, f3, hlt⟩ := HRB.out
         rw [hu]
         go_wp2_with fail
         refine (Hrc.out _).mono ?_
         rintro e w3 ⟨rfl,rfl⟩
         go_wp2
         refine bodyPost_ret (v := .tuple #[surV 0 (.slice none 0 0) 0 0, .int .i64 3]) ?_ rfl ⟨?_, .inr ⟨3, ?_, by omega, by omega, rfl⟩⟩
         ·simp [results, Tryz.results184, go_sem, surV, c0, c1, c2, c3]
         ·exact ((((((((hbel2).setCell (by simp; omega) _).setCell (by simp; omega) _).setCell (by simp; omega) _).setCell (by simp; omega) _).setCell (by simp) _).setCell (by simp) _).setCell (by simp) _).setCell (by simp) _
         ·rw [Hres.out, ← HG.out]; exact (HG.out.trans HG2.out)
       ·have hx0 : ((x : Int) == 0) = false := by simp; omega
        have HG2 := ek (HG.out.symm.trans (eg_err2 htk1 hodd htk2 hx)); have Hx := ek hx; have Htk2 := ek htk2
        have Hodd := ek hodd
        clear hx htk1 htk2 hodd ha
        go_wp2_with fail
        refine (takeToken_err2 D m dc B r a s1 x _ (HrD.out.alloc hBr _) (by simp; omega) (by omega) Htk1.out Hodd.out Htk2.out Hx.out).mono ?_
        rintro e w2 ⟨rfl, hb2⟩
        obtain ⟨htb, hbb2, hs2'⟩ := tokbox _ _ _ _ _ _ _ hb2
        have HTB := ek htb; have HRB := ek (Hrb.out.below hbb2 (by omega)); have HSB := ek (Hsb.out.below hbb2 (by omega))
        have hn1 : w.heap.size ≠ wr.heap.size := by omega
        have hn2 : wr.heap.size ≠ w.heap.size := by omega
        have hbel2 := hbel.trans (hbb2.mono (by omega))
        clear htb hb2 Hrb Hsb
        obtain ⟨t0, t1, t2, t3, k0, k1, k2, k3, hlt2⟩ := HTB.out
        obtain ⟨c0, c1, c2, c3, f0, f1, f2, f3, hlt⟩ := HRB.out
        unfold tokV
        go_wp2
        refine bodyPost_ret (v := .tuple #[surV 0 (.slice none 0 0) 0 0, .int .i64 (x : Int)]) ?_ rfl ⟨?_, .inr ⟨x, ?_, by have := Hx.out; omega, by have := Hx.out; omega, rfl⟩⟩
        ·simp [results, Tryz.results184, go_sem, surV, c0, c1, c2, c3]
        ·exact ((((((((hbel2).setCell (by simp; omega) _).setCell (by simp; omega) _).setCell (by simp; omega) _).setCell (by simp; omega) _).setCell (by simp) _).setCell (by simp) _).setCell (by simp) _).setCell (by simp) _
        ·rw [Hres.out, ← HG.out]; exact (HG.out.trans HG2.out)
     ·have hx0 : ((x : Int) == 0) = false := by simp; omega
      have HG2 := ek (HG.out.symm.trans (eg_err1 hne htk1 hx)); have Hx := ek hx; have Htk1 := ek htk1; clear hx htk1 hne
      go_wp2_with fail
      refine (takeToken_err1 D m dc B r x _ (HrD.out.alloc hBr _) (by simp; omega) (by omega) Htk1.out Hx.out).mono ?_
      rintro e w2 ⟨rfl, hb2⟩
      obtain ⟨⟨t0, t1, t2, t3, k0, k1, k2, k3, hlt2⟩, hbb2, hs2⟩ := tokbox _ _ _ _ _ _ _ hb2
      obtain ⟨c0, c1, c2, c3, f0, f1, f2, f3, hlt⟩ := Hrb.out.below hbb2 (by omega)
      have hn1 : w.heap.size ≠ wr.heap.size := by omega
      have hn2 : wr.heap.size ≠ w.heap.size := by omega
      have hbel2 := hbel.trans (hbb2.mono (by omega))
      unfold tokV
      go_wp2
      refine bodyPost_ret (v := .tuple #[surV 0 (.slice none 0 0) 0 0, .int .i64 (x : Int)]) ?_ rfl ⟨?_, .inr ⟨x, ?_, by have := Hx.out; omega, by have := Hx.out; omega, rfl⟩⟩
      ·simp [results, Tryz.results184, go_sem, surV, c0, c1, c2, c3]
      ·exact ((((((((hbel2).setCell (by simp; omega) _).setCell (by simp; omega) _).setCell (by simp; omega) _).setCell (by simp; omega) _).setCell (by simp) _).setCell (by simp) _).setCell (by simp) _).setCell (by simp) _
      ·rw [Hres.out, ← HG.out]; exact (HG.out.trans HG2.out)
 ·have hres : Pm.expS l most = ([], 0, 0, x) := by unfold Pm.expS; rw [htk]; dsimp only; rw [if_neg (by omega)]
  have hx0 : ((x : Int) == 0) = false := by simp; omega
  have Hr := ek hr; have Htk := ek htk; have Hx := ek hx; have Hres := ek hres; clear hr htk hx hres hl hm
  go_enter Tryz.func184, Tryz.ntmps184
  go_wp2_with fail
  refine (takeNumber_err A n c B l x _ (Hr.out.alloc hB _) (by simp; omega) (by omega) Htk.out Hx.out).mono ?_
  rintro e w1 ⟨rfl, hb1⟩
  obtain ⟨⟨c0, c1, c2, c3, f0, f1, f2, f3, hlt⟩, hbb, hs1⟩ := tokbox _ _ _ _ _ _ _ hb1
  clear hb1
  go_wp2
  refine bodyPost_ret (v := .tuple #[surV 0 (.slice none 0 0) 0 0, .int .i64 (x : Int)]) ?_ rfl ⟨?_, .inr ⟨x, Hres.out, by have := Hx.out; omega, by have := Hx.out; omega, rfl⟩⟩
  ·simp [results, Tryz.results184, go_sem, surV, c0, c1, c2, c3]
  ·exact (((hbb.setCell (by simp) _).setCell (by simp) _).setCell (by simp) _).setCell (by simp) _
def Rx (w : World) (base : Nat) (av : Option Nat) (vs : List Value) (l : List (List (List UInt8))) : Prop :=
 vs.length = l.length ∧ ∀ (j : Nat) (v : Value) (r : List (List UInt8)), vs[j]? = some v → l[j]? = some r → ∃ D d, v = .slice D r.length d ∧ Oc 1 w 9 base D r.length d (lvs r) ∧ (ob D = none ∨ ob D ≠ av)
theorem Rx.nil (w : World) (base : Nat) (av : Option Nat) : Rx w base av [] [] := ⟨rfl, fun j v r h => by simp at h⟩
theorem Rx.below {w w' : World} {base : Nat} {av : Option Nat} {vs : List Value} {l : List (List (List UInt8))} (h : Rx w base av vs l) (hb : Below w.heap.size w w') : Rx w' base av vs l :=
 ⟨h.1, fun j v r h1 h2 => by
  obtain ⟨D, d, e, ho, hn⟩ := h.2 j v r h1 h2
  exact ⟨D, d, e, ho.keep hb, hn⟩⟩
theorem Rx.snoc {w : World} {base : Nat} {av : Option Nat} {vs : List Value} {l : List (List (List UInt8))} {D : Option Addr} {d : Nat} {r : List (List UInt8)} (h : Rx w base av vs l) (ho : Oc 1 w 9 base D r.length d (lvs r)) (hn : ob D = none ∨ ob D ≠ av) :
  Rx w base av (vs ++ [.slice D r.length d]) (l ++ [r]) := by
 refine ⟨by simp [h.1], fun j u s h1 h2 => ?_⟩
 by_cases hj : j < vs.length
 ·rw [List.getElem?_append_left hj] at h1
  rw [List.getElem?_append_left (by rw [← h.1]; exact hj)] at h2
  exact h.2 j u s h1 h2
 ·rw [List.getElem?_append_right (by omega)] at h1
  rw [List.getElem?_append_right (by rw [← h.1]; omega), ← h.1] at h2
  by_cases h0 : j - vs.length = 0
  ·rw [h0] at h1 h2
   simp at h1 h2
   subst h1 h2
   exact ⟨D, d, rfl, ho, hn⟩
  ·rw [List.getElem?_eq_none (by simp; omega)] at h1
   cases h1
theorem Rx.grow {w w' : World} {base : Nat} {A A' : Option Addr} {vs : List Value} {l : List (List (List UInt8))} (h : Rx w base (ob A) vs l) (hg : Grows w w' A A') : Rx w' base (ob A') vs l :=
 ⟨h.1, fun j v r h1 h2 => by
  obtain ⟨D, d, e, ho, hn⟩ := h.2 j v r h1 h2
  refine ⟨D, d, e, oc_beside ho hg hn, ?_⟩
  cases hD : ob D with
  | none => exact .inl rfl
  | some b =>
   refine .inr fun e2 => ?_
   rcases hg.2 with h3 | ⟨g, h3, h4⟩
   ·rcases hn with hn | hn
    ·first | cases hn | (rw [hD] at hn; cases hn)
    ·first | exact hn (e2.trans h3) | exact hn (hD.trans (e2.trans h3))
   ·rw [h3] at e2
    injection e2 with e2
    have := (oc_ob ho b hD).2
    omega⟩
end Go.Proofs.YtkekmokdlgocaaaGreatDoor.Cht
