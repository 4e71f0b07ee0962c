/-
  More words for rows of bytes: copy between rows of unlike lengths, a store into a row of the call's own.
-/
import Derived.Test.YthkjhenaicbepaaDoorBase
import Derived.Laws.OwnMore
namespace Go.Proofs.YthkjhenaicbepaaDoor
open Go.RowKit

theorem rb_len {w : World} {B : Nat} {A : Option Addr} {n m c : Nat} {l : List UInt8} (h : Rb w B A n c l) (e : n = m) : Rb w B A m c l := by subst e; exact h

theorem below_drewN {B : Nat} {a w : World} (h : Below B a w) (n : Nat) : Below B a (w.drewN n) := h.trans ⟨rfl, rfl, rfl, Nat.le_refl _, fun _ _ => rfl⟩

section
variable {P : Program} {t e s : TypeId}
/-- 'copy(out, b)', out a row that was just made. -/
theorem U8.wpCopyAny (u : U8 P t e s) {w : World} {ops : Array Oper} {rest : List Oper} {o : Oper} {a : Act} {Q : Exit → Act → World → Prop} (hgd : o.guard = none) (x y : Operand)
    (ho : o.op = .call { callee := .builtin .copy, args := #[x, y], argTypes := #[t, t] })
    (g N n c d B : Nat) (D : Option Addr) (l : List UInt8) (hx : a.eval x = .slice (some ⟨g, 0, none⟩) N c) (hy : a.eval y = .slice D n d)
    (hg : w.heap[g]? = some (.cells (zrow c) e (0, 0))) (hr : Rb w B D n d l) (hn : N ≤ c) (hc : c ≤ maxLen)
    (h : ∀ w', Own w' e g (some ⟨g, 0, none⟩) c (l.take N ++ List.replicate (N - n) 0) → Below g w w' → wpList P ops Q rest (a.put o.dst (goInt (Nat.min n N))) w') : wpList P ops Q (o :: rest) a w := by
  obtain ⟨h1, h2, h3, h4⟩ := hr
  obtain ⟨i, hi, hz0, hz1, hz2⟩ := info_parts u.inf
  have hlen : (l.take N).length = Nat.min n N := by rw [List.length_take, h1]; exact Nat.min_comm _ _
  have hmin : Nat.min n N ≤ N := Nat.min_le_right _ _
  have hmin2 : Nat.min n N ≤ n := Nat.min_le_left _ _
  refine wpList_copy_splice hgd x y t t ho e u.sl (by rw [hi]; simp [hz1]) (some ⟨g, 0, none⟩) D N c n d hx hy g 0 (List.replicate c (.int .u8 0)) e hg (bvs (l.take N)) (by rw [bvs_length, hlen]) ?_ (by rw [bvs_length, List.length_replicate, hlen]; omega) (bvs_one _) g w (Below.refl _ _) (Nat.le_refl _) fun w' hw' hb => ?_
  · intro hp
    rw [bvs_length, hlen] at hp
    obtain ⟨b, off, rfl, hb, hcell⟩ := h4 (by omega)
    refine ⟨rfl, _, rfl, fun j v hj => ?_⟩
    obtain ⟨z, hz, rfl⟩ := bvs_get _ j v hj
    rw [List.getElem?_take] at hz
    split at hz
    · have := hcell j z hz
      by_cases hj0 : j = 0
      · subst hj0; simpa [Addr.add] using this
      · simpa [Addr.add, hj0] using this
    · cases hz
  · have e1 : (bvs (l.take N)).length = Nat.min n N := by rw [bvs_length, hlen]
    rw [e1]
    refine h w' ?_ hb
    have hL : (l.take N ++ List.replicate (N - n) (0 : UInt8)).length = N := by
      rw [List.length_append, hlen, List.length_replicate]
      rcases Nat.le_total n N with h' | h'
      · rw [show Nat.min n N = n from Nat.min_eq_left h']; omega
      · rw [show Nat.min n N = N from Nat.min_eq_right h']; omega
    unfold Own
    rw [hL]
    refine ⟨by rw [bvs_length, hL]; omega, .inr ⟨g, c, _, rfl, Nat.le_refl _, hw'.out, hn, hc, ?_, ?_⟩⟩
    · simp only [splice, List.size_toArray, List.length_append, List.length_take, List.length_drop, List.length_replicate, e1]
      omega
    · simp only [splice, List.take_zero, List.nil_append, Nat.mul_one, Nat.zero_add]
      rw [bvs_append, List.take_append, e1, List.take_of_length_le (by rw [e1]; exact hmin)]
      congr 1
      have e2 : bvs (List.replicate (N - n) (0 : UInt8)) = List.replicate (N - n) (Value.int .u8 0) := by simp [bvs]
      rw [e2, List.drop_replicate, List.take_replicate]
      congr 1
      rcases Nat.le_total n N with h' | h'
      · rw [show Nat.min n N = n from Nat.min_eq_left h']; omega
      · rw [show Nat.min n N = N from Nat.min_eq_right h']; omega
end

section
variable {w : World} {e : TypeId} {base c g : Nat} {l : List UInt8}
theorem Own.cellAt (h : Own w e base (some ⟨g, 0, none⟩) c l) (k : Nat) (x : UInt8) (hx : l[k]? = some x) : w.cell? ⟨g, k, none⟩ = some (.int .u8 (x.toNat : Int)) := by
  have hk : k < l.length := by
    rcases Nat.lt_or_ge k l.length with h' | h'
    · exact h'
    · rw [List.getElem?_eq_none h'] at hx; cases hx
  rw [World.ownsRow.cellAt h k (by omega)]
  simp [bvs, hx]
theorem Own.frozenAt (h : Own w e base (some ⟨g, 0, none⟩) c l) (k : Nat) : w.frozen? ⟨g, k, none⟩ = false := World.ownsRow.frozenAt h k
theorem Own.set (h : Own w e base (some ⟨g, 0, none⟩) c l) (k : Nat) (x : UInt8) : Own (w.setCell ⟨g, k, none⟩ (.int .u8 (x.toNat : Int))) e base (some ⟨g, 0, none⟩) c (l.set k x) := by
  have h1 := (World.ownsRow.stored h k (.int .u8 (x.toNat : Int))).1
  unfold Own
  have e1 : bvs (l.set k x) = (bvs l).set k (.int .u8 (x.toNat : Int)) := by simp [bvs, List.map_set]
  rw [e1, List.length_set]
  exact h1
theorem Own.at_base {A : Option Addr} (h : Own w e base A c l) (hn : 0 < l.length) : ∃ g, A = some ⟨g, 0, none⟩ ∧ base ≤ g := by
  rcases h.2 with ⟨_, hn'⟩ | ⟨g, cap, cur, hv, hb, _⟩
  · omega
  · injection hv with hA
    exact ⟨g, hA, hb⟩
end
end Go.Proofs.YthkjhenaicbepaaDoor
