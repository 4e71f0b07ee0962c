/-
  Plain mathematics of varints: the document's way to read a number comes to the same.
-/
import Derived.Test.YtddnlimkaagpdaaDoorVm
namespace Go.Proofs.YtddnlimkaagpdaaDoor
namespace Vm

/-- The first k bytes have bit 7 set. -/
def Lead (k : Nat) (l : List UInt8) : Prop := ∀ j, j < k → ∃ x, l[j]? = some x ∧ 128 ≤ x.toNat
theorem Lead.zero (l : List UInt8) : Lead 0 l := fun j hj => absurd hj (by omega)
theorem Lead.succ {k : Nat} {l : List UInt8} (h : Lead k l) {x : UInt8} (hx : l[k]? = some x) (h128 : 128 ≤ x.toNat) : Lead (k + 1) l := fun j hj => by
  by_cases hjk : j = k
  · subst hjk; exact ⟨x, hx, h128⟩
  · exact h j (by omega)

/-- Groups of 7 bits, the lowest first. -/
def val : List UInt8 → Nat
  | [] => 0
  | c :: r => c.toNat % 128 + 128 * val r

theorem val_append : ∀ (l r : List UInt8), val (l ++ r) = val l + val r * 128 ^ l.length
  | [], r => by simp [val]
  | c :: l, r => by
    have ih := val_append l r
    simp only [List.cons_append, val, ih, List.length_cons, Nat.pow_succ]
    rw [Nat.mul_add, Nat.add_assoc, Nat.mul_comm (128 ^ l.length) 128, ← Nat.mul_assoc, Nat.mul_left_comm, Nat.mul_assoc]

theorem dn_lead : ∀ (k i acc : Nat) (l : List UInt8), Lead k l → i + k ≤ 9 → dn i acc l = dn (i + k) (acc + val (l.take k) * 128 ^ i) (l.drop k)
  | 0, i, acc, l, _, _ => by simp [val]
  | k + 1, i, acc, l, h, hi => by
    obtain ⟨x, hx, h128⟩ := h 0 (by omega)
    match l, hx with
    | c :: r, hx =>
      simp at hx
      subst hx
      have hr : Lead k r := fun j hj => by
        obtain ⟨y, hy, hy2⟩ := h (j + 1) (by omega)
        exact ⟨y, by simpa using hy, hy2⟩
      rw [dn_step i acc c r h128 (by omega), dn_lead k (i + 1) _ r hr (by omega)]
      have hc := c.toNat_lt
      have e1 : c.toNat - 128 = c.toNat % 128 := by omega
      have e2 : i + 1 + k = i + (k + 1) := by omega
      rw [e1, e2]
      have e3 : acc + c.toNat % 128 * 128 ^ i + val (r.take k) * 128 ^ (i + 1) = acc + (c.toNat % 128 + 128 * val (r.take k)) * 128 ^ i := by
        rw [Nat.add_mul, Nat.add_assoc, Nat.pow_succ, Nat.mul_comm 128 (val (r.take k)), Nat.mul_assoc, Nat.mul_comm (128 ^ i) 128]
      rw [List.take_succ_cons, List.drop_succ_cons, val, e3]

theorem tk_short (l : List UInt8) (k : Nat) (h : Lead k l) (hk : k = l.length) (h10 : k < 10) : tk l = (0, 0, 2) := by
  have := dn_lead k 0 0 l h (by omega)
  rw [List.drop_of_length_le (by omega)] at this
  exact this

theorem tk_ten (l : List UInt8) (h : Lead 10 l) : tk l = (0, 0, 3) := by
  have h9 : Lead 9 l := fun j hj => h j (by omega)
  have := dn_lead 9 0 0 l h9 (by omega)
  obtain ⟨x, hx, h128⟩ := h 9 (by omega)
  have hd : l.drop 9 = x :: l.drop 10 := by
    obtain ⟨hl, he⟩ := List.getElem?_eq_some_iff.1 hx
    rw [List.drop_eq_getElem_cons hl, he]
  rw [hd] at this
  exact this.trans (dn_long _ x _ h128)

/-- The last byte has bit 7 clear: an error, or the number. -/
theorem tk_last (l : List UInt8) (k : Nat) (h : Lead k l) (hk : k ≤ 9) (x : UInt8) (hx : l[k]? = some x) (h128 : x.toNat < 128) :
    tk l = (0, 0, 3) ∨ tk l = (val (l.take (k + 1)), k + 1, 0) := by
  have hl := dn_lead k 0 0 l h (by omega)
  obtain ⟨hlt, he⟩ := List.getElem?_eq_some_iff.1 hx
  have hd : l.drop k = x :: l.drop (k + 1) := by rw [List.drop_eq_getElem_cons hlt, he]
  rw [hd] at hl
  by_cases hb : 0 < 0 + k ∧ x.toNat = 0 ∨ 0 + k = 9 ∧ 1 < x.toNat
  · exact .inl (hl.trans (dn_bad _ _ x _ h128 hb))
  · refine .inr (hl.trans ((dn_end _ _ x _ h128 hb).trans ?_))
    have ht : l.take (k + 1) = l.take k ++ [x] := by rw [List.take_succ_eq_append_getElem hlt, he]
    rw [ht, val_append]
    have hlen : (l.take k).length = k := by rw [List.length_take]; omega
    rw [hlen]
    simp [val]
    have : x.toNat % 128 = x.toNat := Nat.mod_eq_of_lt h128
    rw [this]

/-- THE DOCUMENT's TEST: the number's bytes stand there, or there is none. -/
theorem tk_told (l : List UInt8) (k : Nat) (h : Lead k l) (hk : k ≤ 9) (x : UInt8) (hx : l[k]? = some x) (h128 : x.toNat < 128) :
    (vb (val (l.take (k + 1)) % 18446744073709551616) = l.take (k + 1) → tk l = (val (l.take (k + 1)) % 18446744073709551616, k + 1, 0)) ∧
    (vb (val (l.take (k + 1)) % 18446744073709551616) ≠ l.take (k + 1) → tk l = (0, 0, 3)) := by
  obtain ⟨hlt, he⟩ := List.getElem?_eq_some_iff.1 hx
  have hlen : (l.take (k + 1)).length = k + 1 := by rw [List.length_take]; omega
  have hm : val (l.take (k + 1)) % 18446744073709551616 < 18446744073709551616 := Nat.mod_lt _ (by omega)
  constructor
  · intro hv
    have hb := tk_back _ (l.drop (k + 1)) hm
    rw [hv, List.take_append_drop, hlen] at hb
    exact hb
  · intro hv
    rcases tk_last l k h hk x hx h128 with h1 | h1
    · exact h1
    · exfalso
      have ho := tk_only l (by rw [h1])
      rw [h1] at ho
      obtain ⟨o1, o2, o3⟩ := ho
      dsimp only at o1 o2 o3
      rw [Nat.mod_eq_of_lt o1] at hv
      apply hv
      generalize vb (val (l.take (k + 1))) = V at o2 o3
      have t : (V ++ l.drop (k + 1)).take V.length = V := List.take_left
      rw [← o2] at t
      rw [o3]
      exact t.symm

end Vm
end Go.Proofs.YtddnlimkaagpdaaDoor
