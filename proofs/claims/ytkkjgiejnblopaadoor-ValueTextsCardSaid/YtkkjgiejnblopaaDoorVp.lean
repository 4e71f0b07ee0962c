/-
  Values: cuts joined, what is found, letters there and back, order, results that are values.
-/
import Derived.Test.YtkkjgiejnblopaaDoorVo
namespace Go.Proofs.YtkkjgiejnblopaaDoor.Vl
open Go Go.Op

theorem isV_num (n : Int) : isV (num n) = true := rfl
theorem isV_txt (s : List UInt8) : isV (txt s) = true := by
  unfold isV txt
  rw [if_pos rfl]
  simp [List.length_take]
  omega
theorem isV_text {v : V} (h : isV v = true) (ht : v.t = true) : v.n = 0 ∧ v.s.length ≤ 1000 := by
  unfold isV at h
  rw [if_pos ht] at h
  simp at h
  exact h
theorem isV_number {v : V} (h : isV v = true) (ht : v.t = false) : v.s = [] := by
  unfold isV at h
  rw [if_neg (by rw [ht]; simp)] at h
  simpa using h
theorem txt_short {s : List UInt8} (h : s.length ≤ 1000) : txt s = ⟨true, 0, s⟩ := by unfold txt; rw [List.take_of_length_le h]
theorem slc_nat (s : List UInt8) (a m : Nat) (ha : a ≤ s.length) : slc s (a : Int) (m : Int) = (s.drop a).take m := by
  unfold slc
  have e1 : (min (max (a : Int) 0) (s.length : Int)).toNat = a := by omega
  dsimp only
  rw [e1]
  have e2 : (min (max (m : Int) 0) ((s.length : Int) - (a : Int))).toNat = min m (s.length - a) := by omega
  rw [e2, List.drop_take, Nat.add_sub_cancel_left]
  rcases Nat.le_total m (s.length - a) with h | h
  · rw [Nat.min_eq_left h]
  · rw [Nat.min_eq_right h, List.take_of_length_le (by rw [List.length_drop]; exact Nat.le_refl _), List.take_of_length_le (by rw [List.length_drop]; exact h)]
theorem slc_len (s : List UInt8) (f m : Int) : (slc s f m).length ≤ s.length := by
  unfold slc
  dsimp only
  rw [List.length_drop, List.length_take]
  omega
theorem slc_join (s : List UInt8) (k : Nat) (hk : k ≤ s.length) : slc s 0 (k : Int) ++ slc s (k : Int) (s.length : Int) = s := by
  have h1 := slc_nat s 0 k (Nat.zero_le _)
  have h2 := slc_nat s k s.length hk
  rw [h2]
  have h1 : slc s 0 (k : Int) = (s.drop 0).take k := h1
  rw [h1, List.drop_zero, List.take_of_length_le (l := s.drop k) (by rw [List.length_drop]; omega), List.take_append_drop]
theorem fnd_at (s t : List UInt8) : ∀ (k i : Nat), fnd s t i k < 0 ∨ ∃ j : Nat, fnd s t i k = (j : Int) ∧ j + t.length ≤ s.length ∧ (s.drop j).take t.length = t
  | 0, i => .inl (by rw [fnd]; omega)
  | k + 1, i => by
    rw [fnd]
    split
    · split
      · exact .inr ⟨i, rfl, by assumption, by assumption⟩
      · exact fnd_at s t k (i + 1)
    · exact .inl (by omega)
theorem find_at (s t : List UInt8) (h : 0 ≤ find s t) : slc s (find s t) (t.length : Int) = t := by
  rcases fnd_at s t (s.length + 1) 0 with h1 | ⟨j, h1, h2, h3⟩
  · unfold find at h; omega
  · unfold find
    rw [h1, slc_nat s j t.length (by omega), h3]
theorem find_I (s t : List UInt8) (h : s.length ≤ 1000000) : -1 ≤ find s t ∧ find s t ≤ 1000000 := by
  have key : ∀ (k i : Nat), -1 ≤ fnd s t i k ∧ (fnd s t i k ≤ s.length) := by
    intro k
    induction k with
    | zero => intro i; rw [fnd]; omega
    | succ k ih =>
      intro i
      rw [fnd]
      split
      · split
        · omega
        · exact ih (i + 1)
      · omega
  have := key (s.length + 1) 0
  unfold find
  omega
theorem trn_up (c : UInt8) : trn 97 (trn 65 (trn 97 c)) = trn 97 c := by
  have h : ∀ n : Fin 256, trn 97 (trn 65 (trn 97 (UInt8.ofNat n.1))) = trn 97 (UInt8.ofNat n.1) := by decide +kernel
  have hc : c.toNat < 256 := UInt8.toNat_lt c
  have := h ⟨c.toNat, hc⟩
  have e : UInt8.ofNat c.toNat = c := UInt8.ofNat_toNat
  rw [e] at this
  exact this
theorem turned_len (s : List UInt8) (f : UInt8) : (turned s f).length = s.length := by unfold turned; rw [List.length_map]
theorem turned_up (s : List UInt8) : turned (turned (turned s 97) 65) 97 = turned s 97 := by
  unfold turned
  rw [List.map_map, List.map_map]
  refine List.map_congr_left fun c _ => ?_
  exact trn_up c

theorem less_irrefl : ∀ a : List UInt8, bytesLess a a = false
  | [] => rfl
  | x :: a => by
    have h : ¬ x < x := UInt8.lt_irrefl x
    simp [bytesLess, less_irrefl a]
theorem less_nil (a : List UInt8) : bytesLess a [] = false := by cases a <;> rfl
theorem less_cons (x y : UInt8) (a b : List UInt8) : bytesLess (x :: a) (y :: b) = true ↔ x < y ∨ x = y ∧ bytesLess a b = true := by
  simp [bytesLess]
theorem less_trans : ∀ a b c : List UInt8, bytesLess a b = true → bytesLess b c = true → bytesLess a c = true
  | _, _, [], _, h => by rw [less_nil] at h; cases h
  | _, [], _ :: _, h, _ => by rw [less_nil] at h; cases h
  | [], _ :: _, _ :: _, _, _ => rfl
  | x :: a, y :: b, z :: c, h, k => by
    rw [less_cons] at h k ⊢
    rcases h with h | ⟨rfl, h⟩
    · rcases k with k | ⟨rfl, k⟩
      · exact .inl (UInt8.lt_trans h k)
      · exact .inl h
    · rcases k with k | ⟨rfl, k⟩
      · exact .inl k
      · exact .inr ⟨rfl, less_trans a b c h k⟩
/-- One of two unlike texts is less. -/
theorem less_tri : ∀ a b : List UInt8, bytesLess a b = true ∨ a = b ∨ bytesLess b a = true
  | [], [] => .inr (.inl rfl)
  | [], _ :: _ => .inl rfl
  | _ :: _, [] => .inr (.inr rfl)
  | x :: a, y :: b => by
    rw [less_cons, less_cons]
    rcases Nat.lt_trichotomy x.toNat y.toNat with h | h | h
    · exact .inl (.inl (UInt8.lt_iff_toNat_lt.2 h))
    · have h := UInt8.toNat_inj.1 h
      subst h
      rcases less_tri a b with h | h | h
      · exact .inl (.inr ⟨rfl, h⟩)
      · exact .inr (.inl (by rw [h]))
      · exact .inr (.inr (.inr ⟨rfl, h⟩))
    · exact .inr (.inr (.inl (UInt8.lt_iff_toNat_lt.2 h)))
theorem less_asymm {a b : List UInt8} (h : bytesLess a b = true) : bytesLess b a = false := by
  cases hb : bytesLess b a with
  | false => rfl
  | true =>
    have := less_trans a b a h hb
    rw [less_irrefl] at this
    cases this
/-- The order of values. -/
def lt (a b : V) : Prop := (a.t = false ∧ b.t = true) ∨ (a.t = b.t ∧ (a.n < b.n ∨ a.n = b.n ∧ bytesLess a.s b.s = true))
theorem cmp_lt {a b : V} (h : lt a b) : cmp a b = -1 ∧ cmp b a = 1 := by
  unfold cmp
  rcases h with ⟨h1, h2⟩ | ⟨h1, h2⟩
  · rw [if_pos (by rw [h1, h2]; simp), if_pos h2, if_pos (by rw [h1, h2]; simp), if_neg (by rw [h1]; simp)]
    exact ⟨rfl, rfl⟩
  · rw [if_neg (by rw [h1]; simp), if_pos h2, if_neg (by rw [h1]; simp), if_neg, if_neg]
    · exact ⟨rfl, rfl⟩
    · rintro ⟨e1, e2⟩
      rcases h2 with h2 | ⟨_, h2⟩
      · omega
      · rw [e2, less_irrefl] at h2; cases h2
    · rintro (e | ⟨e, e2⟩)
      · rcases h2 with h2 | ⟨h2, _⟩ <;> omega
      · rcases h2 with h2 | ⟨_, h2⟩
        · omega
        · rw [less_asymm h2] at e2; cases e2
theorem cmp_self (a : V) : cmp a a = 0 := by
  unfold cmp
  rw [if_neg (by simp), if_neg, if_pos ⟨rfl, rfl⟩]
  rintro (e | ⟨_, e⟩)
  · omega
  · rw [less_irrefl] at e; cases e
theorem lt_tri (a b : V) : lt a b ∨ a = b ∨ lt b a := by
  obtain ⟨at_, an, as_⟩ := a
  obtain ⟨bt, bn, bs⟩ := b
  unfold lt
  dsimp only
  by_cases ht : at_ = bt
  · subst ht
    rcases Int.lt_trichotomy an bn with h | h | h
    · exact .inl (.inr ⟨rfl, .inl h⟩)
    · subst h
      rcases less_tri as_ bs with h | h | h
      · exact .inl (.inr ⟨rfl, .inr ⟨rfl, h⟩⟩)
      · exact .inr (.inl (by rw [h]))
      · exact .inr (.inr (.inr ⟨rfl, .inr ⟨rfl, h⟩⟩))
    · exact .inr (.inr (.inr ⟨rfl, .inl h⟩))
  · cases at_ <;> cases bt
    · exact absurd rfl ht
    · exact .inl (.inl ⟨rfl, rfl⟩)
    · exact .inr (.inr (.inl ⟨rfl, rfl⟩))
    · exact absurd rfl ht
theorem lt_trans {a b c : V} (h : lt a b) (k : lt b c) : lt a c := by
  unfold lt at *
  rcases h with ⟨h1, h2⟩ | ⟨h1, h2⟩
  · rcases k with ⟨k1, _⟩ | ⟨k1, _⟩
    · rw [h2] at k1; cases k1
    · exact .inl ⟨h1, by rw [← k1]; exact h2⟩
  · rcases k with ⟨k1, k2⟩ | ⟨k1, k2⟩
    · exact .inl ⟨by rw [h1]; exact k1, k2⟩
    · refine .inr ⟨h1.trans k1, ?_⟩
      rcases h2 with h2 | ⟨h2, h3⟩
      · rcases k2 with k2 | ⟨k2, _⟩
        · exact .inl (by omega)
        · exact .inl (by omega)
      · rcases k2 with k2 | ⟨k2, k3⟩
        · exact .inl (by omega)
        · exact .inr ⟨by omega, less_trans _ _ _ h3 k3⟩
theorem cmp_neg (a b : V) : cmp b a = -cmp a b := by
  rcases lt_tri a b with h | h | h
  · rw [(cmp_lt h).1, (cmp_lt h).2]; rfl
  · subst h; rw [cmp_self]; rfl
  · rw [(cmp_lt h).1, (cmp_lt h).2]
theorem cmp_zero (a b : V) : cmp a b = 0 ↔ a = b := by
  constructor
  · intro e
    rcases lt_tri a b with h | h | h
    · rw [(cmp_lt h).1] at e; omega
    · exact h
    · rw [(cmp_lt h).2] at e; omega
  · intro e; subst e; exact cmp_self _
theorem cmp_neg_iff (a b : V) : cmp a b < 0 ↔ lt a b := by
  constructor
  · intro e
    rcases lt_tri a b with h | h | h
    · exact h
    · subst h; rw [cmp_self] at e; omega
    · rw [(cmp_lt h).2] at e; omega
  · intro h; rw [(cmp_lt h).1]; omega
theorem cmp_trans {a b c : V} (h : cmp a b < 0) (k : cmp b c < 0) : cmp a c < 0 := (cmp_neg_iff a c).2 (lt_trans ((cmp_neg_iff a b).1 h) ((cmp_neg_iff b c).1 k))
theorem cmp_three (a b : V) : cmp a b = -1 ∨ cmp a b = 0 ∨ cmp a b = 1 := by
  rcases lt_tri a b with h | h | h
  · exact .inl (cmp_lt h).1
  · subst h; exact .inr (.inl (cmp_self _))
  · exact .inr (.inr (cmp_lt h).2)
theorem hash_lt (s : List UInt8) : hash s < 2147483648 := Nat.mod_lt _ (by omega)

theorem kd_op {op : Int} (h : (kd op).1 ≠ []) : op = 4 ∨ op = 5 ∨ op = 6 ∨ op = 7 ∨ op = 8 ∨ op = 9 ∨ op = 10 ∨ op = 11 ∨ op = 12 ∨ op = 13 ∨ op = 14 ∨ op = 15 ∨ op = 16 ∨ op = 17 ∨ op = 18 ∨ op = 19 ∨ op = 20 ∨ op = 21 := by
  by_cases h1 : 4 ≤ op ∧ op ≤ 21
  · omega
  · refine absurd ?_ h
    unfold kd
    repeat rw [if_neg (by omega)]
theorem res_kind {op : Int} {a : List Bool} (h : (res op a).2 = 0) (hk : (kd op).2 ≠ [97]) : (res op a).1 = ((kd op).2 == [116]) := by
  unfold res at h ⊢
  split
  · rename_i h1; rw [if_pos h1] at h; cases h
  · rename_i h1
    rw [if_neg h1] at h
    split
    · rename_i h2; rw [if_pos h2] at h; cases h
    · rename_i h2
      rw [if_neg h2] at h
      split
      · rename_i h3; rw [h3] at h; cases h
      · first | rfl | rw [if_neg hk]
theorem getD_V {l : List V} (hl : l.all isV = true) (k : Nat) : isV (l.getD k v0) = true := by
  rw [List.getD_eq_getElem?_getD]
  cases h : l[k]? with
  | none => rfl
  | some x => exact List.all_eq_true.1 hl x (List.mem_of_getElem? h)
theorem yes_V (b : Bool) : isV (yes b) = true := rfl
theorem rek_V (op : Int) (a b c : V) (hb : isV b = true) (hc : isV c = true) : isV (rek op a b c) = true := by
  unfold rek
  repeat' split
  all_goals first | exact isV_num _ | exact yes_V _ | assumption
theorem tex_V (op : Int) (a b c : V) : isV (tex op a b c) = true := by
  unfold tex
  repeat' split
  all_goals first | exact isV_num _ | exact isV_txt _
/-- What an operation tells is a value, of the kind that is told. -/
theorem do_kind (op : Int) (l : List V) (hl : l.all isV = true) (h : (doV op l).2 = 0) : isV (doV op l).1 = true ∧ (doV op l).1.t = (res op (l.map (·.t))).1 ∧ l.length = ar op ∧ (res op (l.map (·.t))).2 = 0 := by
  unfold doV at h ⊢
  rw [if_pos hl] at h ⊢
  have hr : (res op (l.map (·.t))).2 = 0 := by
    by_cases hr : (res op (l.map (·.t))).2 = 0
    · exact hr
    · rw [if_neg hr] at h; exact h
  rw [if_pos hr]
  have hne : (kd op).1 ≠ [] := by
    intro e
    unfold res at hr
    rw [if_pos e] at hr
    cases hr
  have hlen : l.length = ar op := by
    unfold res at hr
    rw [if_neg hne] at hr
    split at hr
    · cases hr
    · rename_i h2
      rw [List.length_map] at h2
      exact Classical.not_not.1 h2
  refine ⟨?_, ?_, hlen, hr⟩
  · dsimp only
    split
    · exact rek_V _ _ _ _ (getD_V hl 1) (getD_V hl 2)
    · exact tex_V _ _ _ _
  · dsimp only
    rcases kd_op hne with rfl | rfl | rfl | rfl | rfl | rfl | rfl | rfl | rfl | rfl | rfl | rfl | rfl | rfl | rfl | rfl | rfl | rfl
    case _ => rw [res_kind hr (by decide)]; rfl
    all_goals try (rw [res_kind hr (by decide)]; rfl)
    match l, hlen, hr with
    | [a, b, c], _, hr =>
      simp only [List.map_cons, List.map_nil] at hr ⊢
      rw [if_pos (by omega)]
      show (if a.n ≠ 0 then b else c).t = _
      revert hr
      generalize a.t = x
      generalize hy : b.t = y
      generalize hz : c.t = z
      cases x <;> cases y <;> cases z <;> first | (intro q; simp [res, kd, rg] at q; done) | (intro _; split <;> simp [hy, hz, res, kd, rg])
end Go.Proofs.YtkkjgiejnblopaaDoor.Vl
