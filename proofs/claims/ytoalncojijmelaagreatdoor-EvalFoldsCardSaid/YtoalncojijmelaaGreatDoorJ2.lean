/-
  Joined: Vo Vp Cd Km Ev Ew.
-/
import Derived.Test.YtoalncojijmelaaGreatDoorJ1
import Derived.IntWalk
/-
  Values: sums and differences, quotients, numbers written and read, cuts joined, what is found, letters there and back, order, results that are values.
-/
namespace Go.Proofs.YtoalncojijmelaaGreatDoor.Vl
open Go Go.Op

def I (n : Int) : Prop := -9223372036854775808 ≤ n ∧ n ≤ 9223372036854775807
theorem w64_eq (x : Int) : w64 x = (x + 9223372036854775808) % 18446744073709551616 - 9223372036854775808 := by
  unfold w64
  rw [IntKind.wrap_i64]
theorem w64_in {x : Int} (h : I x) : w64 x = x := by rw [w64_eq]; unfold I at h; omega
theorem w64_I (x : Int) : I (w64 x) := by rw [w64_eq]; unfold I; omega
theorem sum_diff {a b : Int} (ha : I a) : w64 (w64 (a + b) - b) = a := by
  rw [w64_eq, w64_eq]; unfold I at ha; omega
theorem quot {a b : Int} (ha : I a) (hb : I b) (h0 : b ≠ 0) : w64 (w64 ((dv a b).1 * b) + (dv a b).2) = a := by
  unfold dv
  rw [if_neg h0]
  by_cases h1 : b = -1
  · subst h1
    rw [if_pos rfl]
    dsimp only
    have e : w64 (-a) * -1 = -(w64 (-a)) := by omega
    rw [e, w64_eq, w64_eq, w64_eq]
    unfold I at ha
    omega
  · rw [if_neg h1]
    dsimp only
    have e := Int.tdiv_mul_add_tmod a b
    have hin : I (a.tdiv b * b) := by
      have h2 : (a.tdiv b * b).natAbs ≤ a.natAbs := by
        rw [Int.natAbs_mul, Int.natAbs_tdiv]
        exact Nat.div_mul_le_self _ _
      unfold I at ha ⊢
      by_cases hlo : a = -9223372036854775808
      · have h3 : (a.tdiv b * b).natAbs ≤ 9223372036854775808 := by omega
        have h4 : a.tdiv b * b ≠ 9223372036854775808 := fun q => by
          have h5 : a.tmod b = -9223372036854775808 - 9223372036854775808 := by omega
          have h6 := Int.natAbs_tmod a b
          have h7 : a.natAbs % b.natAbs < b.natAbs := Nat.mod_lt _ (by omega)
          unfold I at hb
          omega
        omega
      · omega
    rw [w64_in hin, e, w64_in ha]

theorem figs_small {n : Nat} (h : n < 10) : figs n = [UInt8.ofNat (48 + n)] := by
  rw [figs, dif_pos h, Nat.mod_eq_of_lt h]
theorem figs_big {n : Nat} (h : ¬ n < 10) : figs n = figs (n / 10) ++ [UInt8.ofNat (48 + n % 10)] := by rw [figs, dif_neg h]
theorem dig_ok (d : Nat) (h : d < 10) : (UInt8.ofNat (48 + d)).toNat = 48 + d := by
  rw [UInt8.toNat_ofNat']; omega
theorem digs_app : ∀ (l r : List UInt8) (n : Nat), digs (l ++ r) n = (digs l n).bind (digs r)
  | [], _, _ => rfl
  | c :: l, r, n => by
    rw [List.cons_append, digs, digs]
    split
    · rfl
    · exact digs_app l r _
theorem digs_figs : ∀ (k n : Nat), n < 10 ^ (k + 1) → digs (figs n) 0 = some n ∧ (figs n).length ≤ k + 1 ∧ 0 < (figs n).length
  | 0, n, h => by
    have hn : n < 10 := by simpa using h
    rw [figs_small hn]
    refine ⟨?_, by simp, by simp⟩
    rw [digs, dig_ok n hn, if_neg (by omega), digs]
    congr 1
    omega
  | k + 1, n, h => by
    by_cases hn : n < 10
    · have := digs_figs 0 n (by simpa using hn)
      exact ⟨this.1, by omega, this.2.2⟩
    · have hd : n / 10 < 10 ^ (k + 1) := by
        rw [Nat.pow_succ] at h
        exact Nat.div_lt_of_lt_mul (by rw [Nat.mul_comm]; exact h)
      obtain ⟨h1, h2, h3⟩ := digs_figs k (n / 10) hd
      rw [figs_big hn]
      refine ⟨?_, by rw [List.length_append]; simp; omega, by rw [List.length_append]; simp⟩
      rw [digs_app, h1, Option.bind_some, digs, dig_ok _ (by omega), if_neg (by omega), digs]
      congr 1
      omega
theorem figs_head (n : Nat) : ∀ c ∈ figs n, c ≠ 45 := by
  have : ∀ k n : Nat, n < 10 ^ (k + 1) → ∀ c ∈ figs n, c ≠ 45 := by
    intro k
    induction k with
    | zero =>
      intro n h c hc
      have hn : n < 10 := by simpa using h
      rw [figs_small hn] at hc
      have hc := List.mem_singleton.1 hc
      subst hc
      intro e
      have := congrArg UInt8.toNat e
      rw [dig_ok n hn] at this
      have : (45 : UInt8).toNat = 45 := rfl
      omega
    | succ k ih =>
      intro n h c hc
      by_cases hn : n < 10
      · rw [figs_small hn] at hc
        have hc := List.mem_singleton.1 hc
        subst hc
        intro e
        have := congrArg UInt8.toNat e
        rw [dig_ok n hn] at this
        have : (45 : UInt8).toNat = 45 := rfl
        omega
      · have hd : n / 10 < 10 ^ (k + 1) := by
          rw [Nat.pow_succ] at h
          exact Nat.div_lt_of_lt_mul (by rw [Nat.mul_comm]; exact h)
        rw [figs_big hn] at hc
        rcases List.mem_append.1 hc with hc | hc
        · exact ih _ hd c hc
        · have hc := List.mem_singleton.1 hc
          subst hc
          intro e
          have := congrArg UInt8.toNat e
          rw [dig_ok (n % 10) (by omega)] at this
          have : (45 : UInt8).toNat = 45 := rfl
          omega
  refine this n n ?_
  have h : ∀ k : Nat, k < 10 ^ (k + 1) := fun k => by
    induction k with
    | zero => simp
    | succ k ih => rw [Nat.pow_succ]; omega
  exact h n
theorem numD_figs {n : Nat} (h : n < 1000000000000000000) : numD (figs n) = some n := by
  obtain ⟨h1, h2, h3⟩ := digs_figs 17 n (by simpa using h)
  unfold numD
  rw [if_neg (by omega), h1]
theorem number_pos {l : List UInt8} (h : ∀ c ∈ l, c ≠ 45) : number l = match numD l with | some n => (n : Int) | none => 0 := by
  unfold number
  split
  · exact absurd rfl (h 45 (List.mem_cons_self ..))
  · rfl
theorem number_figures {a : Int} (h : -1000000000000000000 < a) (h2 : a < 1000000000000000000) : number (figures a) = a := by
  unfold figures
  by_cases hn : a < 0
  · rw [if_pos hn]
    show (match numD (figs (-a).toNat) with | some n => -(n : Int) | none => 0) = a
    rw [numD_figs (by omega)]
    show -(((-a).toNat : Nat) : Int) = a
    omega
  · rw [if_neg hn, number_pos (figs_head _), numD_figs (by omega)]
    show ((a.toNat : Nat) : Int) = a
    omega
theorem figures_len {a : Int} (h : I a) : (figures a).length ≤ 20 := by
  unfold I at h
  have hp : (10 : Nat) ^ (18 + 1) = 10000000000000000000 := by decide +kernel
  unfold figures
  split
  · have := (digs_figs 18 (-a).toNat (by rw [hp]; omega)).2.1
    simp; omega
  · have := (digs_figs 18 a.toNat (by rw [hp]; omega)).2.1
    omega
end Go.Proofs.YtoalncojijmelaaGreatDoor.Vl

/-
  Values: cuts joined, what is found, letters there and back, order, results that are values.
-/
namespace Go.Proofs.YtoalncojijmelaaGreatDoor.Vl
open Go Go.Op

theorem isV_num (n : Int) : isV (num n) = true := rfl
theorem isV_txt (s : List UInt8) : isV (txt s) = true := by
  unfold isV txt
  rw [if_pos rfl]
  simp [List.length_take]
  omega
theorem isV_text {v : V} (h : isV v = true) (ht : v.t = true) : v.n = 0 ∧ v.s.length ≤ 1000 := by
  unfold isV at h
  rw [if_pos ht] at h
  simp at h
  exact h
theorem isV_number {v : V} (h : isV v = true) (ht : v.t = false) : v.s = [] := by
  unfold isV at h
  rw [if_neg (by rw [ht]; simp)] at h
  simpa using h
theorem txt_short {s : List UInt8} (h : s.length ≤ 1000) : txt s = ⟨true, 0, s⟩ := by unfold txt; rw [List.take_of_length_le h]
theorem slc_nat (s : List UInt8) (a m : Nat) (ha : a ≤ s.length) : slc s (a : Int) (m : Int) = (s.drop a).take m := by
  unfold slc
  have e1 : (min (max (a : Int) 0) (s.length : Int)).toNat = a := by omega
  dsimp only
  rw [e1]
  have e2 : (min (max (m : Int) 0) ((s.length : Int) - (a : Int))).toNat = min m (s.length - a) := by omega
  rw [e2, List.drop_take, Nat.add_sub_cancel_left]
  rcases Nat.le_total m (s.length - a) with h | h
  · rw [Nat.min_eq_left h]
  · rw [Nat.min_eq_right h, List.take_of_length_le (by rw [List.length_drop]; exact Nat.le_refl _), List.take_of_length_le (by rw [List.length_drop]; exact h)]
theorem slc_len (s : List UInt8) (f m : Int) : (slc s f m).length ≤ s.length := by
  unfold slc
  dsimp only
  rw [List.length_drop, List.length_take]
  omega
theorem slc_join (s : List UInt8) (k : Nat) (hk : k ≤ s.length) : slc s 0 (k : Int) ++ slc s (k : Int) (s.length : Int) = s := by
  have h1 := slc_nat s 0 k (Nat.zero_le _)
  have h2 := slc_nat s k s.length hk
  rw [h2]
  have h1 : slc s 0 (k : Int) = (s.drop 0).take k := h1
  rw [h1, List.drop_zero, List.take_of_length_le (l := s.drop k) (by rw [List.length_drop]; omega), List.take_append_drop]
theorem fnd_at (s t : List UInt8) : ∀ (k i : Nat), fnd s t i k < 0 ∨ ∃ j : Nat, fnd s t i k = (j : Int) ∧ j + t.length ≤ s.length ∧ (s.drop j).take t.length = t
  | 0, i => .inl (by rw [fnd]; omega)
  | k + 1, i => by
    rw [fnd]
    split
    · split
      · exact .inr ⟨i, rfl, by assumption, by assumption⟩
      · exact fnd_at s t k (i + 1)
    · exact .inl (by omega)
theorem find_at (s t : List UInt8) (h : 0 ≤ find s t) : slc s (find s t) (t.length : Int) = t := by
  rcases fnd_at s t (s.length + 1) 0 with h1 | ⟨j, h1, h2, h3⟩
  · unfold find at h; omega
  · unfold find
    rw [h1, slc_nat s j t.length (by omega), h3]
theorem find_I (s t : List UInt8) (h : s.length ≤ 1000000) : -1 ≤ find s t ∧ find s t ≤ 1000000 := by
  have key : ∀ (k i : Nat), -1 ≤ fnd s t i k ∧ (fnd s t i k ≤ s.length) := by
    intro k
    induction k with
    | zero => intro i; rw [fnd]; omega
    | succ k ih =>
      intro i
      rw [fnd]
      split
      · split
        · omega
        · exact ih (i + 1)
      · omega
  have := key (s.length + 1) 0
  unfold find
  omega
theorem trn_up (c : UInt8) : trn 97 (trn 65 (trn 97 c)) = trn 97 c := by
  have h : ∀ n : Fin 256, trn 97 (trn 65 (trn 97 (UInt8.ofNat n.1))) = trn 97 (UInt8.ofNat n.1) := by decide +kernel
  have hc : c.toNat < 256 := UInt8.toNat_lt c
  have := h ⟨c.toNat, hc⟩
  have e : UInt8.ofNat c.toNat = c := UInt8.ofNat_toNat
  rw [e] at this
  exact this
theorem turned_len (s : List UInt8) (f : UInt8) : (turned s f).length = s.length := by unfold turned; rw [List.length_map]
theorem turned_up (s : List UInt8) : turned (turned (turned s 97) 65) 97 = turned s 97 := by
  unfold turned
  rw [List.map_map, List.map_map]
  refine List.map_congr_left fun c _ => ?_
  exact trn_up c

theorem less_irrefl : ∀ a : List UInt8, bytesLess a a = false
  | [] => rfl
  | x :: a => by
    have h : ¬ x < x := UInt8.lt_irrefl x
    simp [bytesLess, less_irrefl a]
theorem less_nil (a : List UInt8) : bytesLess a [] = false := by cases a <;> rfl
theorem less_cons (x y : UInt8) (a b : List UInt8) : bytesLess (x :: a) (y :: b) = true ↔ x < y ∨ x = y ∧ bytesLess a b = true := by
  simp [bytesLess]
theorem less_trans : ∀ a b c : List UInt8, bytesLess a b = true → bytesLess b c = true → bytesLess a c = true
  | _, _, [], _, h => by rw [less_nil] at h; cases h
  | _, [], _ :: _, h, _ => by rw [less_nil] at h; cases h
  | [], _ :: _, _ :: _, _, _ => rfl
  | x :: a, y :: b, z :: c, h, k => by
    rw [less_cons] at h k ⊢
    rcases h with h | ⟨rfl, h⟩
    · rcases k with k | ⟨rfl, k⟩
      · exact .inl (UInt8.lt_trans h k)
      · exact .inl h
    · rcases k with k | ⟨rfl, k⟩
      · exact .inl k
      · exact .inr ⟨rfl, less_trans a b c h k⟩
/-- One of two unlike texts is less. -/
theorem less_tri : ∀ a b : List UInt8, bytesLess a b = true ∨ a = b ∨ bytesLess b a = true
  | [], [] => .inr (.inl rfl)
  | [], _ :: _ => .inl rfl
  | _ :: _, [] => .inr (.inr rfl)
  | x :: a, y :: b => by
    rw [less_cons, less_cons]
    rcases Nat.lt_trichotomy x.toNat y.toNat with h | h | h
    · exact .inl (.inl (UInt8.lt_iff_toNat_lt.2 h))
    · have h := UInt8.toNat_inj.1 h
      subst h
      rcases less_tri a b with h | h | h
      · exact .inl (.inr ⟨rfl, h⟩)
      · exact .inr (.inl (by rw [h]))
      · exact .inr (.inr (.inr ⟨rfl, h⟩))
    · exact .inr (.inr (.inl (UInt8.lt_iff_toNat_lt.2 h)))
theorem less_asymm {a b : List UInt8} (h : bytesLess a b = true) : bytesLess b a = false := by
  cases hb : bytesLess b a with
  | false => rfl
  | true =>
    have := less_trans a b a h hb
    rw [less_irrefl] at this
    cases this
/-- The order of values. -/
def lt (a b : V) : Prop := (a.t = false ∧ b.t = true) ∨ (a.t = b.t ∧ (a.n < b.n ∨ a.n = b.n ∧ bytesLess a.s b.s = true))
theorem cmp_lt {a b : V} (h : lt a b) : cmp a b = -1 ∧ cmp b a = 1 := by
  unfold cmp
  rcases h with ⟨h1, h2⟩ | ⟨h1, h2⟩
  · rw [if_pos (by rw [h1, h2]; simp), if_pos h2, if_pos (by rw [h1, h2]; simp), if_neg (by rw [h1]; simp)]
    exact ⟨rfl, rfl⟩
  · rw [if_neg (by rw [h1]; simp), if_pos h2, if_neg (by rw [h1]; simp), if_neg, if_neg]
    · exact ⟨rfl, rfl⟩
    · rintro ⟨e1, e2⟩
      rcases h2 with h2 | ⟨_, h2⟩
      · omega
      · rw [e2, less_irrefl] at h2; cases h2
    · rintro (e | ⟨e, e2⟩)
      · rcases h2 with h2 | ⟨h2, _⟩ <;> omega
      · rcases h2 with h2 | ⟨_, h2⟩
        · omega
        · rw [less_asymm h2] at e2; cases e2
theorem cmp_self (a : V) : cmp a a = 0 := by
  unfold cmp
  rw [if_neg (by simp), if_neg, if_pos ⟨rfl, rfl⟩]
  rintro (e | ⟨_, e⟩)
  · omega
  · rw [less_irrefl] at e; cases e
theorem lt_tri (a b : V) : lt a b ∨ a = b ∨ lt b a := by
  obtain ⟨at_, an, as_⟩ := a
  obtain ⟨bt, bn, bs⟩ := b
  unfold lt
  dsimp only
  by_cases ht : at_ = bt
  · subst ht
    rcases Int.lt_trichotomy an bn with h | h | h
    · exact .inl (.inr ⟨rfl, .inl h⟩)
    · subst h
      rcases less_tri as_ bs with h | h | h
      · exact .inl (.inr ⟨rfl, .inr ⟨rfl, h⟩⟩)
      · exact .inr (.inl (by rw [h]))
      · exact .inr (.inr (.inr ⟨rfl, .inr ⟨rfl, h⟩⟩))
    · exact .inr (.inr (.inr ⟨rfl, .inl h⟩))
  · cases at_ <;> cases bt
    · exact absurd rfl ht
    · exact .inl (.inl ⟨rfl, rfl⟩)
    · exact .inr (.inr (.inl ⟨rfl, rfl⟩))
    · exact absurd rfl ht
theorem lt_trans {a b c : V} (h : lt a b) (k : lt b c) : lt a c := by
  unfold lt at *
  rcases h with ⟨h1, h2⟩ | ⟨h1, h2⟩
  · rcases k with ⟨k1, _⟩ | ⟨k1, _⟩
    · rw [h2] at k1; cases k1
    · exact .inl ⟨h1, by rw [← k1]; exact h2⟩
  · rcases k with ⟨k1, k2⟩ | ⟨k1, k2⟩
    · exact .inl ⟨by rw [h1]; exact k1, k2⟩
    · refine .inr ⟨h1.trans k1, ?_⟩
      rcases h2 with h2 | ⟨h2, h3⟩
      · rcases k2 with k2 | ⟨k2, _⟩
        · exact .inl (by omega)
        · exact .inl (by omega)
      · rcases k2 with k2 | ⟨k2, k3⟩
        · exact .inl (by omega)
        · exact .inr ⟨by omega, less_trans _ _ _ h3 k3⟩
theorem cmp_neg (a b : V) : cmp b a = -cmp a b := by
  rcases lt_tri a b with h | h | h
  · rw [(cmp_lt h).1, (cmp_lt h).2]; rfl
  · subst h; rw [cmp_self]; rfl
  · rw [(cmp_lt h).1, (cmp_lt h).2]
theorem cmp_zero (a b : V) : cmp a b = 0 ↔ a = b := by
  constructor
  · intro e
    rcases lt_tri a b with h | h | h
    · rw [(cmp_lt h).1] at e; omega
    · exact h
    · rw [(cmp_lt h).2] at e; omega
  · intro e; subst e; exact cmp_self _
theorem cmp_neg_iff (a b : V) : cmp a b < 0 ↔ lt a b := by
  constructor
  · intro e
    rcases lt_tri a b with h | h | h
    · exact h
    · subst h; rw [cmp_self] at e; omega
    · rw [(cmp_lt h).2] at e; omega
  · intro h; rw [(cmp_lt h).1]; omega
theorem cmp_trans {a b c : V} (h : cmp a b < 0) (k : cmp b c < 0) : cmp a c < 0 := (cmp_neg_iff a c).2 (lt_trans ((cmp_neg_iff a b).1 h) ((cmp_neg_iff b c).1 k))
theorem cmp_three (a b : V) : cmp a b = -1 ∨ cmp a b = 0 ∨ cmp a b = 1 := by
  rcases lt_tri a b with h | h | h
  · exact .inl (cmp_lt h).1
  · subst h; exact .inr (.inl (cmp_self _))
  · exact .inr (.inr (cmp_lt h).2)
theorem hash_lt (s : List UInt8) : hash s < 2147483648 := Nat.mod_lt _ (by omega)

theorem kd_op {op : Int} (h : (kd op).1 ≠ []) : op = 4 ∨ op = 5 ∨ op = 6 ∨ op = 7 ∨ op = 8 ∨ op = 9 ∨ op = 10 ∨ op = 11 ∨ op = 12 ∨ op = 13 ∨ op = 14 ∨ op = 15 ∨ op = 16 ∨ op = 17 ∨ op = 18 ∨ op = 19 ∨ op = 20 ∨ op = 21 := by
  by_cases h1 : 4 ≤ op ∧ op ≤ 21
  · omega
  · refine absurd ?_ h
    unfold kd
    repeat rw [if_neg (by omega)]
theorem res_kind {op : Int} {a : List Bool} (h : (res op a).2 = 0) (hk : (kd op).2 ≠ [97]) : (res op a).1 = ((kd op).2 == [116]) := by
  unfold res at h ⊢
  split
  · rename_i h1; rw [if_pos h1] at h; cases h
  · rename_i h1
    rw [if_neg h1] at h
    split
    · rename_i h2; rw [if_pos h2] at h; cases h
    · rename_i h2
      rw [if_neg h2] at h
      split
      · rename_i h3; rw [h3] at h; cases h
      · first | rfl | rw [if_neg hk]
theorem getD_V {l : List V} (hl : l.all isV = true) (k : Nat) : isV (l.getD k v0) = true := by
  rw [List.getD_eq_getElem?_getD]
  cases h : l[k]? with
  | none => rfl
  | some x => exact List.all_eq_true.1 hl x (List.mem_of_getElem? h)
theorem yes_V (b : Bool) : isV (yes b) = true := rfl
theorem rek_V (op : Int) (a b c : V) (hb : isV b = true) (hc : isV c = true) : isV (rek op a b c) = true := by
  unfold rek
  repeat' split
  all_goals first | exact isV_num _ | exact yes_V _ | assumption
theorem tex_V (op : Int) (a b c : V) : isV (tex op a b c) = true := by
  unfold tex
  repeat' split
  all_goals first | exact isV_num _ | exact isV_txt _
/-- What an operation tells is a value, of the kind that is told. -/
theorem do_kind (op : Int) (l : List V) (hl : l.all isV = true) (h : (doV op l).2 = 0) : isV (doV op l).1 = true ∧ (doV op l).1.t = (res op (l.map (·.t))).1 ∧ l.length = ar op ∧ (res op (l.map (·.t))).2 = 0 := by
  unfold doV at h ⊢
  rw [if_pos hl] at h ⊢
  have hr : (res op (l.map (·.t))).2 = 0 := by
    by_cases hr : (res op (l.map (·.t))).2 = 0
    · exact hr
    · rw [if_neg hr] at h; exact h
  rw [if_pos hr]
  have hne : (kd op).1 ≠ [] := by
    intro e
    unfold res at hr
    rw [if_pos e] at hr
    cases hr
  have hlen : l.length = ar op := by
    unfold res at hr
    rw [if_neg hne] at hr
    split at hr
    · cases hr
    · rename_i h2
      rw [List.length_map] at h2
      exact Classical.not_not.1 h2
  refine ⟨?_, ?_, hlen, hr⟩
  · dsimp only
    split
    · exact rek_V _ _ _ _ (getD_V hl 1) (getD_V hl 2)
    · exact tex_V _ _ _ _
  · dsimp only
    rcases kd_op hne with rfl | rfl | rfl | rfl | rfl | rfl | rfl | rfl | rfl | rfl | rfl | rfl | rfl | rfl | rfl | rfl | rfl | rfl
    case _ => rw [res_kind hr (by decide)]; rfl
    all_goals try (rw [res_kind hr (by decide)]; rfl)
    match l, hlen, hr with
    | [a, b, c], _, hr =>
      simp only [List.map_cons, List.map_nil] at hr ⊢
      rw [if_pos (by omega)]
      show (if a.n ≠ 0 then b else c).t = _
      revert hr
      generalize a.t = x
      generalize hy : b.t = y
      generalize hz : c.t = z
      cases x <;> cases y <;> cases z <;> first | (intro q; simp [res, kd, rg] at q; done) | (intro _; split <;> simp [hy, hz, res, kd, rg])
end Go.Proofs.YtoalncojijmelaaGreatDoor.Vl

/-
  Programs as plain mathematics: names, quotes, figures, the line of an instruction, which instruction a line is of, the lines of a program.
-/
namespace Go.Proofs.YtoalncojijmelaaGreatDoor.Cd
open Go Vl

structure Ins where
  op : Int
  n : Int
  s : List UInt8
deriving DecidableEq
def i0 : Ins := ⟨0, 0, []⟩

/-- All names. -/
def nms : List (List UInt8) := [[110, 117, 109], [116, 101, 120, 116], [102, 105, 101, 108, 100], [99, 111, 117, 110, 116], [97, 100, 100], [115, 117, 98], [109, 117, 108], [100, 105, 118], [109, 111, 100], [106, 111, 105, 110], [108, 101, 110], [115, 108, 105, 99, 101], [117, 112, 112, 101, 114], [108, 111, 119, 101, 114], [101, 113], [108, 101, 115, 115], [110, 111, 116], [105, 102], [116, 111, 110, 117, 109], [116, 111, 116, 101, 120, 116], [104, 97, 115, 104], [102, 105, 110, 100], [97, 99, 99], [105, 116, 101, 109]]
theorem nms_len : nms.length = 24 := rfl
def nmk (k : Nat) : List UInt8 := nms.getD k []
def nm (op : Int) : List UInt8 := if op < 0 ∨ 23 < op then [] else nmk op.toNat
theorem nm_nat {k : Nat} (h : k < 24) : nm (k : Int) = nmk k := by unfold nm; rw [if_neg (by omega)]; rfl
theorem nmk_plain : ∀ k, k < 24 → (nmk k).length ≤ 6 ∧ 2 ≤ (nmk k).length ∧ (∀ c ∈ nmk k, c ≠ 32) ∧ (∀ c ∈ nmk k, c ≠ 10) := by decide +kernel
theorem nmk_inj : ∀ j, j < 24 → ∀ k, k < 24 → nmk j = nmk k → j = k := by decide +kernel
theorem nm_plain (op : Int) : (nm op).length ≤ 6 ∧ (∀ c ∈ nm op, c ≠ 32) ∧ (∀ c ∈ nm op, c ≠ 10) := by
  unfold nm
  split
  · exact ⟨by simp, by simp, by simp⟩
  · have := nmk_plain op.toNat (by omega); exact ⟨this.1, this.2.2.1, this.2.2.2⟩

/-- Quotes. -/
def esc (c : UInt8) : List UInt8 := if c = 92 then [92, 92] else if c = 34 then [92, 34] else if c = 10 then [92, 110] else [c]
def escs (s : List UInt8) : List UInt8 := s.flatMap esc
def qt (s : List UInt8) : List UInt8 := 34 :: (escs s ++ [34])
theorem escs_cons (c : UInt8) (s : List UInt8) : escs (c :: s) = esc c ++ escs s := by simp [escs]
theorem escs_app (s t : List UInt8) : escs (s ++ t) = escs s ++ escs t := by simp [escs]
theorem esc_len (c : UInt8) : (esc c).length ≤ 2 ∧ 1 ≤ (esc c).length := by unfold esc; split <;> try split <;> try split
                                                                            all_goals simp
theorem escs_len : ∀ s : List UInt8, (escs s).length ≤ 2 * s.length ∧ s.length ≤ (escs s).length
  | [] => by simp [escs]
  | c :: s => by rw [escs_cons, List.length_append, List.length_cons]; have := esc_len c; have := escs_len s; omega
theorem esc_ten (c : UInt8) : ∀ d ∈ esc c, d ≠ 10 := by
  unfold esc
  intro d hd
  split at hd
  · simp at hd; subst hd; decide
  · split at hd
    · simp at hd; rcases hd with rfl | rfl <;> decide
    · split at hd
      · simp at hd; rcases hd with rfl | rfl <;> decide
      · simp at hd; subst hd; assumption
theorem escs_ten (s : List UInt8) : ∀ d ∈ escs s, d ≠ 10 := by
  intro d hd
  obtain ⟨c, -, h⟩ := List.mem_flatMap.1 hd
  exact esc_ten c d h
/-- Back: whatever stands there. -/
def unr : List UInt8 → List UInt8
  | 92 :: 92 :: r => 92 :: unr r
  | 92 :: 34 :: r => 34 :: unr r
  | 92 :: 110 :: r => 10 :: unr r
  | c :: r => c :: unr r
  | [] => []
theorem unr_plain {c : UInt8} (r : List UInt8) (h : c ≠ 92) : unr (c :: r) = c :: unr r := by
  cases r with
  | nil => unfold unr; split <;> simp_all [unr]
  | cons d r => conv => lhs; unfold unr
                split <;> simp_all
theorem unr_escs : ∀ s : List UInt8, unr (escs s) = s
  | [] => rfl
  | c :: s => by
    rw [escs_cons]
    unfold esc
    split
    · rename_i h; subst h; show 92 :: unr (escs s) = _; rw [unr_escs s]
    · split
      · rename_i h; subst h; show 34 :: unr (escs s) = _; rw [unr_escs s]
      · split
        · rename_i h; subst h; show 10 :: unr (escs s) = _; rw [unr_escs s]
        · rename_i h _ _; show unr (c :: escs s) = _; rw [unr_plain _ h, unr_escs s]
theorem unr_len : ∀ (k : Nat) (s : List UInt8), s.length ≤ k → (unr s).length ≤ s.length
  | _, [], _ => by unfold unr; simp
  | 0, _ :: _, h => by simp at h
  | k + 1, c :: r, h => by
    have h1 : r.length ≤ k := by simp at h; omega
    have key := unr_len k r h1
    by_cases hc : c = 92
    · subst hc
      cases r with
      | nil => unfold unr; simp [unr]
      | cons d r' =>
        have h2 := unr_len k r' (by simp at h1; omega)
        by_cases d1 : d = 92
        · subst d1; show (92 :: unr r').length ≤ _; simp; omega
        · by_cases d2 : d = 34
          · subst d2; show (34 :: unr r').length ≤ _; simp; omega
          · by_cases d3 : d = 110
            · subst d3; show (10 :: unr r').length ≤ _; simp; omega
            · have e : unr (92 :: d :: r') = 92 :: unr (d :: r') := by
                conv => lhs; unfold unr
                split <;> simp_all
              rw [e]; simp at key ⊢; omega
    · rw [unr_plain _ hc]; simp; omega
theorem qt_inj {s t : List UInt8} (h : qt s = qt t) : s = t := by
  unfold qt at h
  have h1 := (List.cons.inj h).2
  have h2 := (List.append_inj' h1 rfl).1
  rw [← unr_escs s, h2, unr_escs]

/-- What figures write, and no bound asked. -/
def fold : List UInt8 → Int → Int
  | [], n => n
  | c :: l, n => fold l (if c = 45 then n else 10 * n + ((c.toNat : Int) - 48))
theorem fold_app : ∀ (l r : List UInt8) (n : Int), fold (l ++ r) n = fold r (fold l n)
  | [], _, _ => rfl
  | c :: l, r, n => by rw [List.cons_append, fold, fold, fold_app l r]
theorem fold_figs : ∀ (k n : Nat), n < 10 ^ (k + 1) → fold (figs n) 0 = (n : Int)
  | 0, n, h => by
    have hn : n < 10 := by simpa using h
    rw [figs_small hn, fold, fold, if_neg, dig_ok n hn]
    · omega
    · intro e
      have := congrArg UInt8.toNat e
      rw [dig_ok n hn] at this
      have : (45 : UInt8).toNat = 45 := rfl
      omega
  | k + 1, n, h => by
    by_cases hn : n < 10
    · exact fold_figs 0 n (by simpa using hn)
    · have hd : n / 10 < 10 ^ (k + 1) := by
        rw [Nat.pow_succ] at h
        exact Nat.div_lt_of_lt_mul (by rw [Nat.mul_comm]; exact h)
      rw [figs_big hn, fold_app, fold_figs k _ hd, fold, fold, if_neg, dig_ok _ (by omega)]
      · omega
      · intro e
        have := congrArg UInt8.toNat e
        rw [dig_ok _ (by omega)] at this
        have : (45 : UInt8).toNat = 45 := rfl
        omega
def numb (s : List UInt8) : Int := if s.head? = some 45 then w64 (-(fold s 0)) else w64 (fold s 0)
theorem p20 : (10 : Nat) ^ (19 + 1) = 100000000000000000000 := by decide +kernel
theorem numb_figures {a : Int} (h : I a) : numb (figures a) = a := by
  have hI := h
  unfold I at h
  unfold numb figures
  by_cases hn : a < 0
  · rw [if_pos hn]
    show (if some (45 : UInt8) = some 45 then w64 (-(fold (figs (-a).toNat) 0)) else _) = a
    rw [if_pos rfl, fold_figs 19 _ (by rw [p20]; omega), show -(((-a).toNat : Nat) : Int) = a by omega, w64_in hI]
  · rw [if_neg hn]
    have hh : (figs a.toNat).head? ≠ some 45 := fun e => by
      cases hf : figs a.toNat with
      | nil => rw [hf] at e; simp at e
      | cons c l =>
        rw [hf] at e; simp at e
        exact figs_head a.toNat c (by rw [hf]; simp) e
    rw [if_neg hh, fold_figs 19 _ (by rw [p20]; omega), show ((a.toNat : Nat) : Int) = a by omega, w64_in hI]
theorem figs_plain (n : Nat) : ∀ k, n ≤ k → ∀ c ∈ figs n, 48 ≤ c.toNat ∧ c.toNat ≤ 57
  | k, hk => by
    by_cases hn : n < 10
    · intro c hc
      rw [figs_small hn] at hc
      have hc := List.mem_singleton.1 hc
      subst hc
      rw [dig_ok n hn]; omega
    · cases k with
      | zero => omega
      | succ k =>
        intro c hc
        rw [figs_big hn] at hc
        rcases List.mem_append.1 hc with hc | hc
        · exact figs_plain (n / 10) k (by omega) c hc
        · have hc := List.mem_singleton.1 hc
          subst hc
          rw [dig_ok _ (by omega)]; omega
theorem figures_plain (a : Int) : ∀ c ∈ figures a, c = 45 ∨ 48 ≤ c.toNat ∧ c.toNat ≤ 57 := by
  unfold figures
  split
  · intro c hc
    rcases List.mem_cons.1 hc with h | h
    · exact .inl h
    · exact .inr (figs_plain _ _ (Nat.le_refl _) c h)
  · intro c hc; exact .inr (figs_plain _ _ (Nat.le_refl _) c hc)
theorem figures_ten (a : Int) : ∀ c ∈ figures a, c ≠ 10 := fun c hc e => by
  rcases figures_plain a c hc with h | h
  · subst e; cases h
  · subst e; have : (10 : UInt8).toNat = 10 := rfl; omega

/-- May it be. -/
def may (x : Ins) : Bool :=
  if x.op = 0 then x.s == [] else if x.op = 1 then x.n == 0 && decide (x.s.length ≤ 1000) else if x.op = 2 then decide (0 ≤ x.n) && decide (x.n < 50) && x.s == []
  else decide (0 ≤ x.op) && decide (x.op ≤ 23) && x.n == 0 && x.s == []
/-- The operand. -/
def opd (x : Ins) : List UInt8 := if x.op = 1 then qt x.s else figures x.n
def hasO (op : Int) : Bool := op == 0 || op == 1 || op == 2
/-- The line. -/
def ln (x : Ins) : List UInt8 := if hasO x.op then nm x.op ++ 32 :: opd x else nm x.op
theorem hasO_iff (op : Int) : hasO op = true ↔ op = 0 ∨ op = 1 ∨ op = 2 := by unfold hasO; simp [or_assoc]
theorem may_op {x : Ins} (h : may x = true) : 0 ≤ x.op ∧ x.op ≤ 23 := by
  unfold may at h
  split at h
  · omega
  · split at h
    · omega
    · split at h
      · omega
      · simp at h; omega
theorem may_s {x : Ins} (h : may x = true) : x.s.length ≤ 1000 ∧ (x.op ≠ 1 → x.s = []) := by
  unfold may at h
  split at h
  · simp at h; rw [h]; exact ⟨by simp, fun _ => rfl⟩
  · split at h
    · simp at h; exact ⟨h.2, fun q => absurd (by assumption) q⟩
    · split at h
      · simp at h; rw [h.2]; exact ⟨by simp, fun _ => rfl⟩
      · simp at h; rw [h.2]; exact ⟨by simp, fun _ => rfl⟩
theorem may_n {x : Ins} (h : may x = true) (h0 : x.op ≠ 0) (h2 : x.op ≠ 2) : x.n = 0 := by
  unfold may at h
  rw [if_neg h0, if_neg h2] at h
  split at h
  · simp at h; exact h.1
  · simp at h; exact h.1.2
theorem opd_len {x : Ins} (hn : I x.n) (h : may x = true) : (opd x).length ≤ 2002 := by
  unfold opd
  split
  · unfold qt; have := escs_len x.s; have := (may_s h).1; simp; omega
  · have := figures_len hn; omega
theorem ln_len {x : Ins} (hn : I x.n) (h : may x = true) : (ln x).length ≤ 2010 := by
  have := opd_len hn h
  have := nm_plain x.op
  unfold ln
  split
  · simp; omega
  · omega
theorem opd_ten (x : Ins) : ∀ c ∈ opd x, c ≠ 10 := by
  unfold opd
  split
  · intro c hc
    unfold qt at hc
    rcases List.mem_cons.1 hc with h | h
    · subst h; decide
    · rcases List.mem_append.1 h with h | h
      · exact escs_ten _ c h
      · have := List.mem_singleton.1 h; subst this; decide
  · exact figures_ten _
theorem ln_ten (x : Ins) : ∀ c ∈ ln x, c ≠ 10 := by
  unfold ln
  split
  · intro c hc
    rcases List.mem_append.1 hc with h | h
    · exact (nm_plain x.op).2.2 c h
    · rcases List.mem_cons.1 h with h | h
      · subst h; decide
      · exact opd_ten x c h
  · exact (nm_plain x.op).2.2

/-- A cut at the first place of a byte. -/
def cutA (d : UInt8) : List UInt8 → List UInt8
  | [] => []
  | c :: r => if c = d then [] else c :: cutA d r
def cutB (d : UInt8) : List UInt8 → List UInt8
  | [] => []
  | c :: r => if c = d then r else cutB d r
theorem cut_none {d : UInt8} : ∀ {l : List UInt8}, (∀ c ∈ l, c ≠ d) → cutA d l = l ∧ cutB d l = []
  | [], _ => ⟨rfl, rfl⟩
  | c :: r, h => by
    have hc := h c (by simp)
    obtain ⟨a, b⟩ := cut_none (fun x hx => h x (List.mem_cons_of_mem _ hx))
    exact ⟨by rw [cutA, if_neg hc, a], by rw [cutB, if_neg hc, b]⟩
theorem cut_at {d : UInt8} : ∀ {l : List UInt8} (r : List UInt8), (∀ c ∈ l, c ≠ d) → cutA d (l ++ d :: r) = l ∧ cutB d (l ++ d :: r) = r
  | [], r, _ => ⟨by rw [List.nil_append, cutA, if_pos rfl], by rw [List.nil_append, cutB, if_pos rfl]⟩
  | c :: l, r, h => by
    have hc := h c (by simp)
    obtain ⟨a, b⟩ := cut_at (l := l) r (fun x hx => h x (List.mem_cons_of_mem _ hx))
    exact ⟨by rw [List.cons_append, cutA, if_neg hc, a], by rw [List.cons_append, cutB, if_neg hc, b]⟩
theorem ln_cut {x : Ins} (_ : may x = true) : cutA 32 (ln x) = nm x.op ∧ cutB 32 (ln x) = (if hasO x.op then opd x else []) := by
  unfold ln
  split
  · exact cut_at _ (nm_plain x.op).2.1
  · exact cut_none (nm_plain x.op).2.1
theorem nm_inj {a b : Int} (ha : 0 ≤ a ∧ a ≤ 23) (hb : 0 ≤ b ∧ b ≤ 23) (h : nm a = nm b) : a = b := by
  unfold nm at h
  rw [if_neg (by omega), if_neg (by omega)] at h
  have := nmk_inj a.toNat (by omega) b.toNat (by omega) h
  omega
theorem ins_eq {x y : Ins} (hx : may x = true) (hy : may y = true) (hnx : I x.n) (hny : I y.n) (ho : x.op = y.op) (h : hasO x.op = true → opd x = opd y) : x = y := by
  obtain ⟨a, b, c⟩ := x
  obtain ⟨a', b', c'⟩ := y
  dsimp only at ho hnx hny
  subst ho
  have sx := may_s hx
  have sy := may_s hy
  dsimp only at sx sy
  by_cases h1 : a = 1
  · have e := h ((hasO_iff a).2 (by omega))
    unfold opd at e
    dsimp only at e
    rw [if_pos h1, if_pos h1] at e
    have := qt_inj e
    have n1 := may_n hx (by dsimp only; omega) (by dsimp only; omega)
    have n2 := may_n hy (by dsimp only; omega) (by dsimp only; omega)
    dsimp only at n1 n2
    rw [this, n1, n2]
  · rw [sx.2 h1, sy.2 h1]
    by_cases h02 : a = 0 ∨ a = 2
    · have e := h ((hasO_iff a).2 (by omega))
      unfold opd at e
      dsimp only at e
      rw [if_neg h1, if_neg h1] at e
      have := numb_figures hnx
      rw [e, numb_figures hny] at this
      rw [this]
    · have n1 := may_n hx (by dsimp only; omega) (by dsimp only; omega)
      have n2 := may_n hy (by dsimp only; omega) (by dsimp only; omega)
      dsimp only at n1 n2
      rw [n1, n2]
theorem ln_inj {x y : Ins} (hx : may x = true) (hy : may y = true) (hnx : I x.n) (hny : I y.n) (h : ln x = ln y) : x = y := by
  obtain ⟨a1, a2⟩ := ln_cut hx
  obtain ⟨b1, b2⟩ := ln_cut hy
  rw [h] at a1 a2
  have ho := nm_inj (may_op hx) (may_op hy) (a1.symm.trans b1)
  refine ins_eq hx hy hnx hny ho fun hh => ?_
  rw [hh] at a2
  rw [← ho, hh] at b2
  exact a2.symm.trans b2
/-- Good: may it be, and is its number one of the machine's. -/
def Gd (x : Ins) : Prop := may x = true ∧ I x.n
/-- The instruction whose line it is. -/
noncomputable def pr (l : List UInt8) : Option Ins := by
  classical
  exact if h : ∃ x, Gd x ∧ ln x = l then some h.choose else none
theorem pr_some {l : List UInt8} {x : Ins} (h : Gd x) (e : ln x = l) : pr l = some x := by
  unfold pr
  have hh : ∃ x, Gd x ∧ ln x = l := ⟨x, h, e⟩
  rw [dif_pos hh]
  have := hh.choose_spec
  rw [ln_inj this.1.1 h.1 this.1.2 h.2 (this.2.trans e.symm)]
theorem pr_none {l : List UInt8} (h : ∀ x, Gd x → ln x ≠ l) : pr l = none := by
  unfold pr
  rw [dif_neg (fun ⟨x, a, b⟩ => h x a b)]
theorem pr_of {l : List UInt8} {x : Ins} (h : pr l = some x) : Gd x ∧ ln x = l := by
  unfold pr at h
  split at h
  · rename_i hh; rw [← Option.some.inj h]; exact hh.choose_spec
  · cases h
theorem pr_not {l : List UInt8} (h : pr l = none) : ∀ x, Gd x → ln x ≠ l := fun x a b => by rw [pr_some a b] at h; cases h
end Go.Proofs.YtoalncojijmelaaGreatDoor.Cd

/-
  Programs checked, as plain mathematics: one instruction (stp), a whole program (rn, sk), how deep it goes (dpr, dp), which fields it asks for (nd); a program behind another one.
-/
namespace Go.Proofs.YtoalncojijmelaaGreatDoor.Ck
open Go Vl Cd

/-- The kind that is pushed. -/
def pk (f : List Bool) (op : Int) : Bool := if op = 22 then f.getD 0 false else if op = 23 then f.getD 1 false else decide (op = 1 ∨ op = 2)
/-- One instruction: the stack behind it, and the error (the stack stays where there is one). -/
def stp (f s : List Bool) (x : Ins) : List Bool × Nat :=
  if may x = false ∨ 22 ≤ x.op ∧ f.length = 0 then (s, 1)
  else if ar x.op = 0 then (if 30 ≤ s.length then (s, 13) else (s ++ [pk f x.op], 0))
  else if s.length < ar x.op then (s, 13)
  else if (res x.op (s.drop (s.length - ar x.op))).2 ≠ 0 then (s, (res x.op (s.drop (s.length - ar x.op))).2)
  else (s.take (s.length - ar x.op) ++ [(res x.op (s.drop (s.length - ar x.op))).1], 0)
/-- All of them, from the k-th on: the stack, the index, the error. -/
def rn (f : List Bool) : List Bool → Nat → List Ins → List Bool × Nat × Nat
  | s, k, [] => (s, k, 0)
  | s, k, x :: p => if (stp f s x).2 = 0 then rn f (stp f s x).1 (k + 1) p else (s, k, (stp f s x).2)
/-- How deep it goes. -/
def dpr (f : List Bool) : List Bool → Nat → List Ins → Nat
  | _, m, [] => m
  | s, m, x :: p => if (stp f s x).2 = 0 then dpr f (stp f s x).1 (max m (stp f s x).1.length) p else m
def bad (p : List Ins) (f : List Bool) : Nat := if f.length ≠ 0 ∧ f.length ≠ 2 then 1 else if 200 < p.length then 5 else 0
def sk (p : List Ins) (f : List Bool) : List Bool × Nat × Nat := if bad p f = 0 then rn f [] 0 p else ([], 0, bad p f)
def dp (p : List Ins) (f : List Bool) : Nat := if bad p f = 0 then dpr f [] 0 p else 0
def nd : List Ins → Nat → Nat
  | [], n => n
  | x :: p, n => nd p (if x.op = 2 ∧ may x = true then max n (x.n.toNat + 1) else n)

theorem rn_nil (f s : List Bool) (k : Nat) : rn f s k [] = (s, k, 0) := rfl
theorem rn_go {f s : List Bool} {x : Ins} (k : Nat) (p : List Ins) (h : (stp f s x).2 = 0) : rn f s k (x :: p) = rn f (stp f s x).1 (k + 1) p := by rw [rn, if_pos h]
theorem rn_stop {f s : List Bool} {x : Ins} (k : Nat) (p : List Ins) (h : (stp f s x).2 ≠ 0) : rn f s k (x :: p) = (s, k, (stp f s x).2) := by rw [rn, if_neg h]
theorem dpr_nil (f s : List Bool) (m : Nat) : dpr f s m [] = m := rfl
theorem dpr_go {f s : List Bool} {x : Ins} (m : Nat) (p : List Ins) (h : (stp f s x).2 = 0) : dpr f s m (x :: p) = dpr f (stp f s x).1 (max m (stp f s x).1.length) p := by rw [dpr, if_pos h]
theorem dpr_stop {f s : List Bool} {x : Ins} (m : Nat) (p : List Ins) (h : (stp f s x).2 ≠ 0) : dpr f s m (x :: p) = m := by rw [dpr, if_neg h]
theorem stp_keep {f s : List Bool} {x : Ins} (h : (stp f s x).2 ≠ 0) : (stp f s x).1 = s := by
  unfold stp at h ⊢
  split
  · rfl
  · split
    · split
      · rfl
      · rename_i h1 h2 h3; rw [if_neg h1, if_pos h2, if_neg h3] at h; exact absurd rfl h
    · split
      · rfl
      · split
        · rfl
        · rename_i h1 h2 h3 h4; rw [if_neg h1, if_neg h2, if_neg h3, if_neg h4] at h; exact absurd rfl h
theorem stp_len {f s : List Bool} {x : Ins} (h : s.length ≤ 30) : (stp f s x).1.length ≤ 30 := by
  unfold stp
  split
  · exact h
  · split
    · split
      · exact h
      · simp; omega
    · split
      · exact h
      · split
        · exact h
        · simp; omega
theorem res_err (op : Int) (l : List Bool) : (res op l).2 ≤ 11 := by
  unfold res
  split
  · simp
  · split
    · simp
    · split
      · simp
      · split <;> simp
theorem stp_err (f s : List Bool) (x : Ins) : (stp f s x).2 ≤ 13 := by
  unfold stp
  have := res_err x.op (s.drop (s.length - ar x.op))
  split
  · simp
  · split
    · split <;> simp
    · split
      · simp
      · split
        · show (res _ _).2 ≤ 13; omega
        · simp
theorem rn_len {f : List Bool} : ∀ (p : List Ins) (s : List Bool) (k : Nat), s.length ≤ 30 → (rn f s k p).1.length ≤ 30 ∧ k ≤ (rn f s k p).2.1 ∧ (rn f s k p).2.1 ≤ k + p.length ∧ (rn f s k p).2.2 ≤ 13 ∧ ((rn f s k p).2.2 = 0 ↔ (rn f s k p).2.1 = k + p.length)
  | [], s, k, h => by rw [rn_nil]; simp [h]
  | x :: p, s, k, h => by
    by_cases h0 : (stp f s x).2 = 0
    · rw [rn_go k p h0]
      have := rn_len (f := f) p (stp f s x).1 (k + 1) (stp_len h)
      rw [List.length_cons]
      refine ⟨this.1, by omega, by omega, this.2.2.2.1, ?_⟩
      rw [this.2.2.2.2]; omega
    · rw [rn_stop k p h0]
      have := stp_err f s x
      rw [List.length_cons]
      refine ⟨h, Nat.le_refl _, by show k ≤ _; omega, this, ?_⟩
      constructor
      · intro e; exact absurd e h0
      · intro e; exact absurd e (by show ¬ k = k + (p.length + 1); omega)
theorem bad_take {p : List Ins} {f : List Bool} (k : Nat) (h : bad p f = 0) : bad (p.take k) f = 0 := by
  unfold bad at h ⊢
  split at h
  · cases h
  · rename_i h1
    split at h
    · cases h
    · rename_i h2
      rw [if_neg h1, if_neg (by rw [List.length_take]; omega)]
theorem sk_len (p : List Ins) (f : List Bool) : (sk p f).1.length ≤ 30 ∧ (sk p f).2.1 ≤ p.length ∧ (sk p f).2.2 ≤ 13 ∧ ((sk p f).2.2 = 0 → (sk p f).2.1 = p.length) := by
  unfold sk
  split
  · have := rn_len (f := f) p [] 0 (by simp)
    exact ⟨this.1, by omega, this.2.2.2.1, fun h => by have := this.2.2.2.2.1 h; omega⟩
  · rename_i h
    refine ⟨by simp, by simp, ?_, fun e => absurd e h⟩
    show bad p f ≤ 13
    unfold bad
    split <;> try split
    all_goals omega

/-- The beginning of what goes, goes. -/
theorem rn_take {f : List Bool} : ∀ (p : List Ins) (s : List Bool) (k i : Nat), k + i ≤ (rn f s k p).2.1 → (rn f s k (p.take i)).2 = (k + i, 0) ∧ (k + i = (rn f s k p).2.1 → (rn f s k (p.take i)).1 = (rn f s k p).1)
  | p, s, k, 0, h => by
    rw [List.take_zero, rn_nil]
    refine ⟨rfl, fun e => ?_⟩
    cases p with
    | nil => rfl
    | cons x p =>
      by_cases h0 : (stp f s x).2 = 0
      · rw [rn_go k p h0] at e
        by_cases hl : (rn f (stp f s x).1 (k + 1) p).2.1 = k
        · exfalso
          have : ∀ (q : List Ins) (u : List Bool) (j : Nat), j ≤ (rn f u j q).2.1 := fun q => by
            induction q with
            | nil => intro u j; exact Nat.le_refl _
            | cons y q ih =>
              intro u j
              by_cases hy : (stp f u y).2 = 0
              · rw [rn_go j q hy]; have := ih (stp f u y).1 (j + 1); omega
              · rw [rn_stop j q hy]; exact Nat.le_refl _
          have := this p (stp f s x).1 (k + 1)
          omega
        · exact absurd (by omega) hl
      · rw [rn_stop k p h0]
  | [], s, k, i + 1, h => by rw [rn_nil] at h; exact absurd h (by show ¬ k + (i + 1) ≤ k; omega)
  | x :: p, s, k, i + 1, h => by
    by_cases h0 : (stp f s x).2 = 0
    · rw [rn_go k p h0] at h ⊢
      rw [List.take_succ_cons, rn_go k (p.take i) h0]
      have := rn_take (f := f) p (stp f s x).1 (k + 1) i (by omega)
      rw [show k + (i + 1) = k + 1 + i by omega]
      exact this
    · rw [rn_stop k p h0] at h; exact absurd h (by show ¬ k + (i + 1) ≤ k; omega)
theorem dpr_ge {f : List Bool} : ∀ (p : List Ins) (s : List Bool) (m : Nat), m ≤ dpr f s m p
  | [], _, _ => Nat.le_refl _
  | x :: p, s, m => by
    by_cases h0 : (stp f s x).2 = 0
    · rw [dpr_go m p h0]; have := dpr_ge (f := f) p (stp f s x).1 (max m (stp f s x).1.length); omega
    · rw [dpr_stop m p h0]; exact Nat.le_refl _
theorem dpr_last {f : List Bool} : ∀ (p : List Ins) (s : List Bool) (m k : Nat), s.length ≤ m → (rn f s k p).1.length ≤ dpr f s m p
  | [], s, m, k, h => h
  | x :: p, s, m, k, h => by
    by_cases h0 : (stp f s x).2 = 0
    · rw [dpr_go m p h0, rn_go k p h0]; exact dpr_last p _ _ _ (by omega)
    · rw [dpr_stop m p h0, rn_stop k p h0]; exact h
/-- One instruction more. -/
theorem dpr_take {f : List Bool} : ∀ (p : List Ins) (s : List Bool) (m k i : Nat), k + i + 1 ≤ (rn f s k p).2.1 → dpr f s m (p.take (i + 1)) = max (dpr f s m (p.take i)) (rn f s k (p.take (i + 1))).1.length
  | [], s, m, k, i, h => by rw [rn_nil] at h; simp at h; omega
  | x :: p, s, m, k, i, h => by
    by_cases h0 : (stp f s x).2 = 0
    · rw [rn_go k p h0] at h
      cases i with
      | zero =>
        rw [List.take_succ_cons, List.take_zero, List.take_zero, dpr_go m [] h0, rn_go k [] h0]; rfl
      | succ i =>
        rw [List.take_succ_cons, List.take_succ_cons, dpr_go m _ h0, dpr_go m _ h0, rn_go k _ h0]
        exact dpr_take p _ _ (k + 1) i (by omega)
    · rw [rn_stop k p h0] at h; simp at h; omega
theorem dpr_all {f : List Bool} : ∀ (p : List Ins) (s : List Bool) (m k : Nat), dpr f s m (p.take ((rn f s k p).2.1 - k)) = dpr f s m p
  | [], s, m, k => by simp
  | x :: p, s, m, k => by
    by_cases h0 : (stp f s x).2 = 0
    · have h1 := (show k + 1 ≤ (rn f (stp f s x).1 (k + 1) p).2.1 from by
        have : ∀ (q : List Ins) (u : List Bool) (j : Nat), j ≤ (rn f u j q).2.1 := fun q => by
          induction q with
          | nil => intro u j; exact Nat.le_refl _
          | cons y q ih =>
            intro u j
            by_cases hy : (stp f u y).2 = 0
            · rw [rn_go j q hy]; have := ih (stp f u y).1 (j + 1); omega
            · rw [rn_stop j q hy]; exact Nat.le_refl _
        exact this p _ _)
      rw [rn_go k p h0, show (rn f (stp f s x).1 (k + 1) p).2.1 - k = ((rn f (stp f s x).1 (k + 1) p).2.1 - (k + 1)) + 1 by omega, List.take_succ_cons, dpr_go m _ h0, dpr_go m _ h0]
      exact dpr_all p _ _ (k + 1)
    · rw [rn_stop k p h0, Nat.sub_self, List.take_zero, dpr_stop m p h0]; rfl
/-- How deep the first k instructions go, one by one (as the document counts). -/
theorem dp_step {p : List Ins} {f : List Bool} {i : Nat} (h : i ≤ (sk p f).2.1) : max (dp (p.take (i - 1)) f) (sk (p.take i) f).1.length = dp (p.take i) f := by
  unfold dp sk at *
  by_cases hb : bad p f = 0
  · rw [if_pos hb] at h
    rw [if_pos (bad_take _ hb), if_pos (bad_take _ hb), if_pos (bad_take _ hb)]
    cases i with
    | zero => rfl
    | succ i =>
      rw [Nat.add_sub_cancel]
      exact (dpr_take p [] 0 0 i (by omega)).symm
  · rw [if_neg hb] at h
    obtain rfl : i = 0 := by simpa using h
    rw [List.take_zero]
    by_cases h2 : bad [] f = 0
    · rw [if_pos h2, if_pos h2]; rfl
    · rw [if_neg h2, if_neg h2]; rfl
theorem dp_all (p : List Ins) (f : List Bool) : dp (p.take (sk p f).2.1) f = dp p f := by
  unfold dp sk
  by_cases hb : bad p f = 0
  · rw [if_pos hb, if_pos (bad_take _ hb), if_pos hb]
    exact dpr_all p [] 0 0
  · rw [if_neg hb, if_neg hb, List.take_zero]
    split <;> rfl
theorem sk_take {p : List Ins} {f : List Bool} {i : Nat} (h0 : bad p f = 0) (h : i ≤ (sk p f).2.1) : (sk (p.take i) f).2 = (i, 0) ∧ (i = (sk p f).2.1 → (sk (p.take i) f).1 = (sk p f).1) := by
  unfold sk at *
  rw [if_pos h0] at h
  rw [if_pos (bad_take _ h0), if_pos h0]
  have := rn_take (f := f) p [] 0 i (by omega)
  rw [Nat.zero_add] at this
  exact this
theorem dp_last (p : List Ins) (f : List Bool) : (sk p f).1.length ≤ dp p f := by
  unfold dp sk
  split
  · exact dpr_last p [] 0 0 (by simp)
  · simp

/-- One instruction on a higher stack. -/
theorem stp_up {f u : List Bool} {x : Ins} (b : List Bool) (h : (stp f u x).2 = 0) :
    stp f (b ++ u) x = (b ++ (stp f u x).1, 0) ∨ ((stp f (b ++ u) x).2 = 13 ∧ 30 < b.length + (stp f u x).1.length) := by
  unfold stp at h ⊢
  by_cases h1 : may x = false ∨ 22 ≤ x.op ∧ f.length = 0
  · rw [if_pos h1] at h; cases h
  · rw [if_neg h1] at h ⊢
    rw [if_neg h1]
    by_cases h2 : ar x.op = 0
    · rw [if_pos h2] at h ⊢
      rw [if_pos h2]
      by_cases h3 : 30 ≤ u.length
      · rw [if_pos h3] at h; cases h
      · rw [if_neg h3]
        by_cases h4 : 30 ≤ (b ++ u).length
        · rw [if_pos h4]
          refine .inr ⟨rfl, ?_⟩
          simp at h4 ⊢; omega
        · rw [if_neg h4]
          exact .inl (by simp)
    · rw [if_neg h2] at h ⊢
      rw [if_neg h2]
      by_cases h3 : u.length < ar x.op
      · rw [if_pos h3] at h; cases h
      · rw [if_neg h3] at h ⊢
        have e1 : ¬ (b ++ u).length < ar x.op := by simp; omega
        rw [if_neg e1]
        have e2 : (b ++ u).length - ar x.op = b.length + (u.length - ar x.op) := by simp; omega
        have e3 : (b ++ u).drop ((b ++ u).length - ar x.op) = u.drop (u.length - ar x.op) := by rw [e2, List.drop_append]; simp
        have e4 : (b ++ u).take ((b ++ u).length - ar x.op) = b ++ u.take (u.length - ar x.op) := by rw [e2, List.take_append]; simp [List.take_of_length_le]
        rw [e3, e4]
        by_cases h5 : (res x.op (u.drop (u.length - ar x.op))).2 ≠ 0
        · rw [if_pos h5] at h; exact absurd h h5
        · rw [if_neg h5, if_neg h5]
          exact .inl (by simp)
theorem rn_up {f : List Bool} : ∀ (p : List Ins) (u b : List Bool) (k j m : Nat), (rn f u k p).2.2 = 0 →
    ((rn f (b ++ u) j p).2.2 = 0 ∧ (rn f (b ++ u) j p).1 = b ++ (rn f u k p).1) ∨ ((rn f (b ++ u) j p).2.2 = 13 ∧ 30 < b.length + dpr f u m p)
  | [], u, b, k, j, m, _ => .inl ⟨rfl, rfl⟩
  | x :: p, u, b, k, j, m, h => by
    by_cases h0 : (stp f u x).2 = 0
    · rw [rn_go k p h0] at h ⊢
      rw [dpr_go m p h0]
      rcases stp_up b h0 with e | ⟨e1, e2⟩
      · have e0 : (stp f (b ++ u) x).2 = 0 := by rw [e]
        rw [rn_go j p e0, e]
        exact rn_up p (stp f u x).1 b (k + 1) (j + 1) _ h
      · have e0 : (stp f (b ++ u) x).2 ≠ 0 := by rw [e1]; omega
        rw [rn_stop j p e0]
        refine .inr ⟨e1, ?_⟩
        have := dpr_ge (f := f) p (stp f u x).1 (max m (stp f u x).1.length)
        omega
    · rw [rn_stop k p h0] at h; exact absurd h h0
theorem rn_app {f : List Bool} : ∀ (p q : List Ins) (u : List Bool) (k : Nat), (rn f u k p).2.2 = 0 → rn f u k (p ++ q) = rn f (rn f u k p).1 (k + p.length) q
  | [], q, u, k, _ => rfl
  | x :: p, q, u, k, h => by
    by_cases h0 : (stp f u x).2 = 0
    · rw [rn_go k p h0] at h ⊢
      rw [List.cons_append, rn_go k (p ++ q) h0, rn_app p q _ (k + 1) h, List.length_cons, show k + 1 + p.length = k + (p.length + 1) by omega]
    · rw [rn_stop k p h0] at h; exact absurd h h0
/-- A program twice. -/
theorem sk_twice {p : List Ins} (hp : p.length ≤ 100) (h : (sk p []).2.2 = 0) :
    ((sk (p ++ p) []).2.2 = 0 ∧ (sk (p ++ p) []).1 = (sk p []).1 ++ (sk p []).1) ∨ ((sk (p ++ p) []).2.2 = 13 ∧ 30 < (sk p []).1.length + dp p []) := by
  have b1 : bad p [] = 0 := by unfold bad; rw [if_neg (by simp), if_neg (by omega)]
  have b2 : bad (p ++ p) [] = 0 := by unfold bad; rw [if_neg (by simp), if_neg (by rw [List.length_append]; omega)]
  unfold sk at h ⊢
  unfold dp
  rw [if_pos b1] at h
  rw [if_pos b1, if_pos b2, if_pos b1, rn_app p p [] 0 h]
  have := rn_up p [] (rn [] [] 0 p).1 0 (0 + p.length) 0 h
  rw [List.append_nil] at this
  exact this
theorem nd_le : ∀ (p : List Ins) (n : Nat), n ≤ 50 → nd p n ≤ 50
  | [], _, h => h
  | x :: p, n, h => by
    rw [nd]
    refine nd_le p _ ?_
    split
    · rename_i hx
      have := hx.2
      unfold may at this
      rw [if_neg (by omega), if_neg (by omega), if_pos hx.1] at this
      simp at this; omega
    · exact h
end Go.Proofs.YtoalncojijmelaaGreatDoor.Ck

/-
  Programs executed, as plain mathematics: what an instruction pushes (vx), what it costs (cst), the whole run (ev); kinds, fuel, fields behind those that are asked for.
-/
namespace Go.Proofs.YtoalncojijmelaaGreatDoor.Ck
open Go Vl Cd

/-- The field, as a value. -/
def fld (r : List (List UInt8)) (k : Int) : V := if k < r.length then txt (r.getD k.toNat []) else txt []
/-- The lengths of the texts. -/
def tl : List V → Nat
  | [] => 0
  | v :: l => v.s.length + tl l
/-- The arguments. -/
def tp (s : List V) (op : Int) : List V := s.drop (s.length - ar op)
def cst (s : List V) (op : Int) : Nat := tl (tp s op) / 64 + 1
def vx (r : List (List UInt8)) (fo s : List V) (x : Ins) : V :=
  if x.op = 0 then num x.n else if x.op = 1 then txt x.s else if x.op = 2 then fld r x.n else if x.op = 3 then num r.length
  else if 22 ≤ x.op then fo.getD (x.op - 22).toNat v0 else (doV x.op (tp s x.op)).1
def nx (r : List (List UInt8)) (fo s : List V) (x : Ins) : List V := s.take (s.length - ar x.op) ++ [vx r fo s x]
def ev (r : List (List UInt8)) (fo : List V) : List V → Int → List Ins → Option (List V × Int)
  | s, g, [] => some (s, g)
  | s, g, x :: p => if g < (cst s x.op : Int) then none else ev r fo (nx r fo s x) (g - (cst s x.op : Int)) p

theorem ev_nil (r : List (List UInt8)) (fo s : List V) (g : Int) : ev r fo s g [] = some (s, g) := rfl
theorem ev_go {r : List (List UInt8)} {fo s : List V} {g : Int} {x : Ins} (p : List Ins) (h : ¬ g < (cst s x.op : Int)) : ev r fo s g (x :: p) = ev r fo (nx r fo s x) (g - (cst s x.op : Int)) p := by rw [ev, if_neg h]
theorem ev_stop {r : List (List UInt8)} {fo s : List V} {g : Int} {x : Ins} (p : List Ins) (h : g < (cst s x.op : Int)) : ev r fo s g (x :: p) = none := by rw [ev, if_pos h]

theorem tl_le : ∀ l : List V, l.all isV = true → tl l ≤ 1000 * l.length
  | [], _ => Nat.le_refl _
  | v :: l, h => by
    rw [List.all_cons, Bool.and_eq_true] at h
    have h2 := tl_le l h.2
    have h1 : v.s.length ≤ 1000 := by
      cases ht : v.t with
      | false => rw [isV_number h.1 ht]; simp
      | true => exact (isV_text h.1 ht).2
    rw [tl, List.length_cons]; omega
theorem ar_three (op : Int) : ar op ≤ 3 := by
  unfold ar kd
  repeat' split
  all_goals simp
theorem tp_len (s : List V) (op : Int) : (tp s op).length ≤ ar op := by unfold tp; rw [List.length_drop]; omega
theorem tp_all {s : List V} (op : Int) (h : s.all isV = true) : (tp s op).all isV = true := by
  unfold tp
  rw [List.all_eq_true] at h ⊢
  exact fun v hv => h v (List.mem_of_mem_drop hv)
theorem cst_le {s : List V} (op : Int) (h : s.all isV = true) : cst s op ≤ 47 := by
  unfold cst
  have h1 := tl_le _ (tp_all op h)
  have h2 := tp_len s op
  have h3 := ar_three op
  have h4 : tl (tp s op) ≤ 3000 := by
    have : 1000 * (tp s op).length ≤ 3000 := by omega
    omega
  have : tl (tp s op) / 64 ≤ 3000 / 64 := Nat.div_le_div_right h4
  omega
theorem cst_pos (s : List V) (op : Int) : 1 ≤ cst s op := by unfold cst; omega

/-- What is known of an instruction that goes. -/
theorem stp_ok {f s : List Bool} {x : Ins} (h : (stp f s x).2 = 0) : may x = true ∧ (22 ≤ x.op → f.length ≠ 0) ∧
    ((ar x.op = 0 ∧ s.length < 30 ∧ (stp f s x).1 = s ++ [pk f x.op]) ∨
     (ar x.op ≠ 0 ∧ ar x.op ≤ s.length ∧ (res x.op (s.drop (s.length - ar x.op))).2 = 0 ∧ (stp f s x).1 = s.take (s.length - ar x.op) ++ [(res x.op (s.drop (s.length - ar x.op))).1])) := by
  unfold stp at h ⊢
  by_cases h1 : may x = false ∨ 22 ≤ x.op ∧ f.length = 0
  · rw [if_pos h1] at h; cases h
  · rw [if_neg h1] at h ⊢
    refine ⟨?_, fun q e => h1 (.inr ⟨q, e⟩), ?_⟩
    · cases hm : may x with
      | true => rfl
      | false => exact absurd (.inl hm) h1
    · by_cases h2 : ar x.op = 0
      · rw [if_pos h2] at h ⊢
        by_cases h3 : 30 ≤ s.length
        · rw [if_pos h3] at h; cases h
        · rw [if_neg h3]; exact .inl ⟨h2, by omega, rfl⟩
      · rw [if_neg h2] at h ⊢
        by_cases h3 : s.length < ar x.op
        · rw [if_pos h3] at h; cases h
        · rw [if_neg h3] at h ⊢
          by_cases h4 : (res x.op (s.drop (s.length - ar x.op))).2 ≠ 0
          · rw [if_pos h4] at h; exact absurd h h4
          · rw [if_neg h4]
            exact .inr ⟨h2, by omega, by omega, rfl⟩
theorem may_ops {x : Ins} (h : may x = true) : 0 ≤ x.op ∧ x.op ≤ 23 := may_op h
theorem ar_pos {op : Int} (h : ar op ≠ 0) : 4 ≤ op ∧ op ≤ 21 := by
  have := kd_op (op := op) (fun e => h (by unfold ar; rw [e]; rfl))
  omega
theorem ar_none {op : Int} (h : ar op = 0) : op < 4 ∨ 21 < op := by
  by_cases q : 4 ≤ op ∧ op ≤ 21
  · exfalso
    obtain ⟨m, rfl⟩ : ∃ m : Nat, op = m := ⟨op.toNat, by omega⟩
    have hk : ∀ m : Nat, 4 ≤ m → m ≤ 21 → ar (m : Int) ≠ 0 := by
      intro m h1 h2
      have : m = 4 ∨ m = 5 ∨ m = 6 ∨ m = 7 ∨ m = 8 ∨ m = 9 ∨ m = 10 ∨ m = 11 ∨ m = 12 ∨ m = 13 ∨ m = 14 ∨ m = 15 ∨ m = 16 ∨ m = 17 ∨ m = 18 ∨ m = 19 ∨ m = 20 ∨ m = 21 := by omega
      rcases this with rfl | rfl | rfl | rfl | rfl | rfl | rfl | rfl | rfl | rfl | rfl | rfl | rfl | rfl | rfl | rfl | rfl | rfl
      all_goals decide
    exact hk m (by omega) (by omega) h
  · omega

/-- The step on values and the step on kinds. -/
theorem nx_kind {r : List (List UInt8)} {fo s : List V} {x : Ins} (hs : s.all isV = true) (hf : fo.all isV = true) (_ : fo.length = 0 ∨ fo.length = 2) (h : (stp (fo.map (·.t)) (s.map (·.t)) x).2 = 0) :
    (nx r fo s x).all isV = true ∧ (nx r fo s x).map (·.t) = (stp (fo.map (·.t)) (s.map (·.t)) x).1 ∧ ar x.op ≤ s.length ∧ (nx r fo s x).length = s.length - ar x.op + 1 := by
  obtain ⟨hm, hfo, hc⟩ := stp_ok h
  obtain ⟨o1, o2⟩ := may_ops hm
  have hlen : (nx r fo s x).length = s.length - ar x.op + 1 := by
    unfold nx
    rw [List.length_append, List.length_take, List.length_singleton]; omega
  have htk : (s.take (s.length - ar x.op)).all isV = true := by
    rw [List.all_eq_true] at hs ⊢
    exact fun v hv => hs v (List.mem_of_mem_take hv)
  rcases hc with ⟨ha, hl, he⟩ | ⟨ha, hl, hr, he⟩
  · refine ⟨?_, ?_, by omega, hlen⟩
    all_goals
      have hop := ar_none ha
    · unfold nx
      rw [List.all_append, htk, List.all_cons, List.all_nil, Bool.and_true, Bool.true_and]
      unfold vx fld
      split
      · rfl
      · split
        · exact isV_txt _
        · split
          · split <;> exact isV_txt _
          · split
            · rfl
            · split
              · exact getD_V hf _
              · omega
    · rw [he]
      unfold nx
      rw [ha, Nat.sub_zero, List.take_length, List.map_append]
      congr 1
      show [(vx r fo s x).t] = _
      congr 1
      unfold pk vx fld
      by_cases q0 : x.op = 0
      · rw [if_pos q0, if_neg (show ¬ x.op = 22 by omega), if_neg (show ¬ x.op = 23 by omega), q0]; rfl
      · rw [if_neg q0]
        by_cases q1 : x.op = 1
        · rw [if_pos q1, if_neg (show ¬ x.op = 22 by omega), if_neg (show ¬ x.op = 23 by omega), q1]; rfl
        · rw [if_neg q1]
          by_cases q2 : x.op = 2
          · rw [if_pos q2, if_neg (show ¬ x.op = 22 by omega), if_neg (show ¬ x.op = 23 by omega), q2]
            split <;> rfl
          · rw [if_neg q2]
            by_cases q3 : x.op = 3
            · rw [if_pos q3, if_neg (show ¬ x.op = 22 by omega), if_neg (show ¬ x.op = 23 by omega), q3]; rfl
            · rw [if_neg q3, if_pos (by omega)]
              have hgd : ∀ k, k < 2 → (fo.getD k v0).t = (fo.map (·.t)).getD k false := by
                intro k hk
                rw [List.getD_eq_getElem?_getD, List.getD_eq_getElem?_getD, List.getElem?_map]
                cases fo[k]? <;> rfl
              by_cases q22 : x.op = 22
              · rw [if_pos q22, q22]; exact hgd 0 (by omega)
              · have q23 : x.op = 23 := by omega
                rw [if_neg q22, if_pos q23, q23]; exact hgd 1 (by omega)
  · have hop := ar_pos ha
    rw [List.length_map] at hl hr he
    have hd := do_kind x.op (tp s x.op) (tp_all x.op hs)
    have hr2 : (res x.op ((tp s x.op).map (·.t))).2 = 0 := by unfold tp; rw [List.map_drop]; exact hr
    have h0 : (doV x.op (tp s x.op)).2 = 0 := by
      unfold doV
      rw [if_pos (tp_all x.op hs), if_pos hr2]
    obtain ⟨d1, d2, -, -⟩ := hd h0
    have hv : vx r fo s x = (doV x.op (tp s x.op)).1 := by
      unfold vx
      rw [if_neg (by omega), if_neg (by omega), if_neg (by omega), if_neg (by omega), if_neg (by omega)]
    refine ⟨?_, ?_, hl, hlen⟩
    · unfold nx
      rw [List.all_append, htk, List.all_cons, List.all_nil, Bool.and_true, Bool.true_and, hv]
      exact d1
    · rw [he]
      unfold nx
      rw [List.map_append, List.map_take, hv]
      congr 1
      show [(doV x.op (tp s x.op)).1.t] = _
      rw [d2]
      unfold tp
      rw [List.map_drop]
/-- What an instruction that goes is done with. -/
theorem do_ok {fo s : List V} {x : Ins} (hs : s.all isV = true) (h : (stp (fo.map (·.t)) (s.map (·.t)) x).2 = 0) (ho : 4 ≤ x.op) (ho2 : x.op ≤ 21) : (doV x.op (tp s x.op)).2 = 0 := by
  obtain ⟨hm, hfo, hc⟩ := stp_ok h
  rcases hc with ⟨ha, -, -⟩ | ⟨ha, hl, hr, he⟩
  · have := ar_none ha; omega
  · rw [List.length_map] at hr
    have hr2 : (res x.op ((tp s x.op).map (·.t))).2 = 0 := by unfold tp; rw [List.map_drop]; exact hr
    unfold doV
    rw [if_pos (tp_all x.op hs), if_pos hr2]
theorem rn_ok {f s : List Bool} {k : Nat} {x : Ins} {p : List Ins} (h : (rn f s k (x :: p)).2.2 = 0) : (stp f s x).2 = 0 ∧ (rn f (stp f s x).1 (k + 1) p).2.2 = 0 := by
  by_cases h0 : (stp f s x).2 = 0
  · rw [rn_go k p h0] at h; exact ⟨h0, h⟩
  · rw [rn_stop k p h0] at h; exact absurd h h0
/-- Values behind a program are of the kinds that it is checked to. -/
theorem ev_kind {r : List (List UInt8)} {fo : List V} (hf : fo.all isV = true) (hf2 : fo.length = 0 ∨ fo.length = 2) : ∀ (p : List Ins) (s : List V) (g : Int) (k : Nat), s.all isV = true → (rn (fo.map (·.t)) (s.map (·.t)) k p).2.2 = 0 →
    ∀ l n, ev r fo s g p = some (l, n) → l.all isV = true ∧ l.map (·.t) = (rn (fo.map (·.t)) (s.map (·.t)) k p).1
  | [], s, g, k, hs, h, l, n, e => by
    rw [ev_nil] at e
    injection e with e; injection e with e1 e2
    subst e1
    exact ⟨hs, rfl⟩
  | x :: p, s, g, k, hs, h, l, n, e => by
    obtain ⟨h0, h1⟩ := rn_ok h
    obtain ⟨n1, n2, n3, n4⟩ := nx_kind (r := r) hs hf hf2 h0
    by_cases hg : g < (cst s x.op : Int)
    · rw [ev_stop p hg] at e; cases e
    · rw [ev_go p hg] at e
      rw [rn_go k p h0, ← n2]
      rw [← n2] at h1
      exact ev_kind hf hf2 p _ _ (k + 1) n1 h1 l n e
/-- Enough fuel. -/
theorem ev_enough {r : List (List UInt8)} {fo : List V} (hf : fo.all isV = true) (hf2 : fo.length = 0 ∨ fo.length = 2) : ∀ (p : List Ins) (s : List V) (g : Int) (k : Nat), s.all isV = true → (rn (fo.map (·.t)) (s.map (·.t)) k p).2.2 = 0 → 65 * (p.length : Int) ≤ g →
    ∃ l n, ev r fo s g p = some (l, n)
  | [], s, g, k, hs, h, hg => ⟨s, g, rfl⟩
  | x :: p, s, g, k, hs, h, hg => by
    obtain ⟨h0, h1⟩ := rn_ok h
    obtain ⟨n1, n2, n3, n4⟩ := nx_kind (r := r) hs hf hf2 h0
    have hc := cst_le x.op hs
    rw [List.length_cons] at hg
    rw [ev_go p (by omega)]
    rw [← n2] at h1
    exact ev_enough hf hf2 p _ _ (k + 1) n1 h1 (by omega)
/-- With more fuel the same, and just as much more is left. -/
theorem ev_more {r : List (List UInt8)} {fo : List V} : ∀ (p : List Ins) (s : List V) (g d : Int) (l : List V) (n : Int), 0 ≤ d → ev r fo s g p = some (l, n) → ev r fo s (g + d) p = some (l, n + d)
  | [], s, g, d, l, n, hd, e => by
    rw [ev_nil] at e ⊢
    injection e with e; injection e with e1 e2
    subst e1; subst e2; rfl
  | x :: p, s, g, d, l, n, hd, e => by
    by_cases hg : g < (cst s x.op : Int)
    · rw [ev_stop p hg] at e; cases e
    · rw [ev_go p hg] at e
      rw [ev_go p (by omega), show g + d - (cst s x.op : Int) = g - (cst s x.op : Int) + d by omega]
      exact ev_more p _ _ d l n hd e
theorem ev_left {r : List (List UInt8)} {fo : List V} : ∀ (p : List Ins) (s : List V) (g : Int) (l : List V) (n : Int), (0 ≤ g ∨ p ≠ []) → ev r fo s g p = some (l, n) → 0 ≤ n ∧ n ≤ g
  | [], s, g, l, n, h, e => by
    rw [ev_nil] at e
    injection e with e; injection e with e1 e2
    subst e2
    rcases h with h | h
    · exact ⟨h, Int.le_refl _⟩
    · exact absurd rfl h
  | x :: p, s, g, l, n, h, e => by
    by_cases hg : g < (cst s x.op : Int)
    · rw [ev_stop p hg] at e; cases e
    · rw [ev_go p hg] at e
      have := ev_left p _ _ l n (.inl (by omega)) e
      have := cst_pos s x.op
      omega
/-- With just what it took. -/
theorem ev_exact {r : List (List UInt8)} {fo : List V} : ∀ (p : List Ins) (s : List V) (g : Int) (l : List V) (n d : Int), 0 ≤ d → d ≤ n → ev r fo s g p = some (l, n) → ev r fo s (g - d) p = some (l, n - d)
  | [], s, g, l, n, d, h0, hd, e => by
    rw [ev_nil] at e ⊢
    injection e with e; injection e with e1 e2
    subst e1; subst e2; rfl
  | x :: p, s, g, l, n, d, h0, hd, e => by
    by_cases hg : g < (cst s x.op : Int)
    · rw [ev_stop p hg] at e; cases e
    · rw [ev_go p hg] at e
      have := ev_left p _ _ l n (.inl (by omega)) e
      rw [ev_go p (by omega), show g - d - (cst s x.op : Int) = g - (cst s x.op : Int) - d by omega]
      exact ev_exact p _ _ l n d h0 hd e
/-- With less than it took. -/
theorem ev_less {r : List (List UInt8)} {fo s : List V} {g : Int} {p : List Ins} {l : List V} {n : Int} (hp : p ≠ []) (e : ev r fo s g p = some (l, n)) : ev r fo s (g - n - 1) p = none := by
  have hn := ev_left p s g l n (.inr hp) e
  cases h : ev r fo s (g - n - 1) p with
  | none => rfl
  | some q =>
    obtain ⟨l', n'⟩ := q
    have h1 := ev_left p s _ l' n' (.inr hp) h
    have h2 := ev_more p s _ (n + 1) l' n' (by omega) h
    rw [show g - n - 1 + (n + 1) = g by omega, e] at h2
    injection h2 with h2; injection h2 with h3 h4
    omega
/-- What the fields come to is all that is looked at. -/
theorem ev_same {r r' : List (List UInt8)} {fo : List V} : ∀ (p : List Ins) (s : List V) (g : Int), (∀ x ∈ p, x.op ≠ 3) → (∀ x ∈ p, x.op = 2 → fld r x.n = fld r' x.n) → ev r fo s g p = ev r' fo s g p
  | [], s, g, _, _ => rfl
  | x :: p, s, g, h3, h2 => by
    have hv : vx r fo s x = vx r' fo s x := by
      unfold vx
      by_cases q : x.op = 2
      · rw [if_neg (by omega), if_neg (by omega), if_pos q, if_neg (by omega), if_neg (by omega), if_pos q]
        exact h2 x (List.mem_cons_self ..) q
      · have := h3 x (List.mem_cons_self ..)
        rw [if_neg q, if_neg q, if_neg this, if_neg this]
    by_cases hg : g < (cst s x.op : Int)
    · rw [ev_stop p hg, ev_stop p hg]
    · rw [ev_go p hg, ev_go p hg]
      unfold nx
      rw [hv]
      exact ev_same p _ _ (fun y hy => h3 y (List.mem_cons_of_mem _ hy)) (fun y hy => h2 y (List.mem_cons_of_mem _ hy))
/-- The fields that are asked for, each cut. -/
def cutR (n : Nat) (r : List (List UInt8)) : List (List UInt8) := (r.take n).map (·.take 1000)
theorem fld_cut {n : Nat} {r : List (List UInt8)} {k : Int} (h0 : 0 ≤ k) (h : k < n) : fld (cutR n r) k = fld r k := by
  obtain ⟨j, rfl⟩ : ∃ j : Nat, k = j := ⟨k.toNat, by omega⟩
  unfold fld cutR
  rw [List.length_map, List.length_take]
  by_cases hj : j < r.length
  · rw [if_pos (by omega), if_pos (by omega)]
    unfold txt
    rw [Int.toNat_natCast, List.getD_eq_getElem?_getD, List.getD_eq_getElem?_getD, List.getElem?_map, List.getElem?_take, if_pos (by omega), List.getElem?_eq_getElem hj]
    simp [List.take_take]
  · rw [if_neg (by omega), if_neg (by omega)]
theorem nd_ge : ∀ (p : List Ins) (n : Nat), n ≤ nd p n
  | [], n => Nat.le_refl _
  | x :: p, n => by
    rw [nd]
    split
    · exact Nat.le_trans (Nat.le_max_left ..) (nd_ge p _)
    · exact nd_ge p n
theorem nd_mem : ∀ (p : List Ins) (n : Nat), ∀ x ∈ p, x.op = 2 → may x = true → x.n.toNat + 1 ≤ nd p n
  | y :: p, n, x, hx, h2, hm => by
    rw [nd]
    rcases List.mem_cons.1 hx with rfl | hx
    · rw [if_pos ⟨h2, hm⟩]
      exact Nat.le_trans (Nat.le_max_right ..) (nd_ge p _)
    · exact nd_mem p _ x hx h2 hm
theorem rn_may {f : List Bool} : ∀ (p : List Ins) (s : List Bool) (k : Nat), (rn f s k p).2.2 = 0 → ∀ x ∈ p, may x = true
  | y :: p, s, k, h, x, hx => by
    obtain ⟨h0, h1⟩ := rn_ok h
    rcases List.mem_cons.1 hx with rfl | hx
    · exact (stp_ok h0).1
    · exact rn_may p _ _ h1 x hx
theorem may_fld {x : Ins} (h : x.op = 2) (hm : may x = true) : 0 ≤ x.n ∧ x.n < 50 := by
  unfold may at hm
  rw [if_neg (by omega), if_neg (by omega), if_pos h] at hm
  simp at hm; exact ⟨hm.1.1, hm.1.2⟩
/-- Fields behind those that are asked for. -/
theorem ev_needs {r : List (List UInt8)} {fo s : List V} {g : Int} {p : List Ins} {k : Nat} (f u : List Bool) (h : (rn f u k p).2.2 = 0) (h3 : ∀ x ∈ p, x.op ≠ 3) : ev (cutR (nd p 0) r) fo s g p = ev r fo s g p := by
  refine ev_same p s g h3 fun x hx h2 => ?_
  have hm := rn_may p u k h x hx
  have hf := may_fld h2 hm
  have := nd_mem p 0 x hx h2 hm
  exact fld_cut hf.1 (by omega)

/-- What Run comes to: the values, the fuel, the error. -/
def rnv (p : List Ins) (r : List (List UInt8)) (fo : List V) (g : Int) : List V × Int × Nat :=
  match ev r fo [] g p with
  | none => ([], 0, 12)
  | some (l, n) => (l, n, 0)
def runV (p : List Ins) (r : List (List UInt8)) (g : Int) : List V × Int × Nat := if (sk p []).2.2 ≠ 0 then ([], g, (sk p []).2.2) else rnv p r [] g
/-- The first value. -/
def fst' (x : List V × Int × Nat) : V × Int × Nat := (x.1.getD 0 v0, x.2.1, x.2.2)
def oneV (p : List Ins) (r : List (List UInt8)) (g : Int) : V × Int × Nat :=
  if (sk p []).2.2 ≠ 0 then (v0, g, (sk p []).2.2) else if (sk p []).1.length ≠ 1 then (v0, g, 11) else fst' (rnv p r [] g)
def yesV (p : List Ins) (r : List (List UInt8)) (g : Int) : Bool × Int × Nat :=
  if p = [] then (true, g, 0) else if (sk p []).2.2 ≠ 0 then (false, g, (sk p []).2.2) else if (sk p []).1 ≠ [false] then (false, g, 11)
  else (decide ((oneV p r g).1.n ≠ 0), (oneV p r g).2.1, (oneV p r g).2.2)
def ckv (p : List Ins) (f want : List Bool) : Nat := if (sk p f).2.2 ≠ 0 then (sk p f).2.2 else if (sk p f).1 = want then 0 else 11
def foldV (p : List Ins) (a b : V) (g : Int) : V × Int × Nat :=
  if isV a = false ∨ isV b = false then (v0, g, 1)
  else if ckv p [a.t, b.t] [a.t] ≠ 0 then (v0, g, ckv p [a.t, b.t] [a.t])
  else fst' (rnv p [] [a, b] g)
end Go.Proofs.YtoalncojijmelaaGreatDoor.Ck

/-
  Programs executed: the numbers of values stay 64-bit numbers; the stack stays low.
-/
namespace Go.Proofs.YtoalncojijmelaaGreatDoor.Ck
open Go Vl Cd

theorem I_zero : I 0 := by unfold I; omega
theorem dv_I {a b : Int} (ha : I a) (hb : I b) : I (dv a b).1 ∧ I (dv a b).2 := by
  unfold dv
  by_cases h0 : b = 0
  · rw [if_pos h0]; exact ⟨I_zero, I_zero⟩
  · rw [if_neg h0]
    by_cases h1 : b = -1
    · rw [if_pos h1]; exact ⟨w64_I _, I_zero⟩
    · rw [if_neg h1]
      have h3 : (a.tmod b).natAbs ≤ a.natAbs := by
        rw [Int.natAbs_tmod]; exact Nat.mod_le _ _
      constructor
      · by_cases hb2 : b = 1
        · subst hb2; rw [Int.tdiv_one]; exact ha
        · have h4 : (a.tdiv b).natAbs ≤ a.natAbs / 2 := by
            rw [Int.natAbs_tdiv]
            exact Nat.div_le_div_left (by omega) (by omega)
          unfold I at ha ⊢
          dsimp only
          have : a.natAbs / 2 ≤ 4611686018427387904 := by omega
          omega
      · unfold I at ha ⊢
        dsimp only
        by_cases hlo : a = -9223372036854775808
        · have h5 : (a.tmod b).natAbs < b.natAbs := by
            rw [Int.natAbs_tmod]; exact Nat.mod_lt _ (by omega)
          unfold I at hb
          omega
        · omega
theorem digs_lt : ∀ (l : List UInt8) (n m : Nat), digs l n = some m → m < (n + 1) * 10 ^ l.length
  | [], n, m, h => by
    rw [digs] at h; injection h with h
    subst h; simp
  | c :: l, n, m, h => by
    rw [digs] at h
    split at h
    · cases h
    · have := digs_lt l _ m h
      rw [List.length_cons, Nat.pow_succ]
      refine Nat.lt_of_lt_of_le this ?_
      rw [Nat.mul_comm (10 ^ l.length) 10, ← Nat.mul_assoc]
      exact Nat.mul_le_mul_right _ (by omega)
theorem numD_lt {s : List UInt8} {n : Nat} (h : numD s = some n) : n < 1000000000000000000 := by
  unfold numD at h
  split at h
  · cases h
  · have h1 := digs_lt s 0 n h
    have h2 : 10 ^ s.length ≤ 10 ^ 18 := Nat.pow_le_pow_right (by omega) (by omega)
    have : (10 : Nat) ^ 18 = 1000000000000000000 := by decide +kernel
    omega
theorem number_I (s : List UInt8) : I (number s) := by
  have key : ∀ r n, numD r = some n → I (-(n : Int)) ∧ I (n : Int) := fun r n h => by
    have := numD_lt h
    unfold I; omega
  unfold number
  split
  · split
    · rename_i h; exact (key _ _ h).1
    · exact I_zero
  · split
    · rename_i h; exact (key _ _ h).2
    · exact I_zero
theorem yes_I (b : Bool) : I (yes b).n := by cases b <;> (show I _; unfold yes num I; simp)
/-- An operation's number. -/
theorem do_I (op : Int) {l : List V} (hl : l.all isV = true) (hI : ∀ v ∈ l, I v.n) : I (doV op l).1.n := by
  have hg : ∀ k, I (l.getD k v0).n := fun k => by
    rw [List.getD_eq_getElem?_getD]
    cases h : l[k]? with
    | none => exact I_zero
    | some v => exact hI v (List.mem_of_getElem? h)
  have hz : ∀ k, (l.getD k v0).s.length ≤ 1000 := fun k => by
    have hv := getD_V hl k
    cases ht : (l.getD k v0).t with
    | false => rw [isV_number hv ht]; simp
    | true => exact (isV_text hv ht).2
  unfold doV
  rw [if_pos hl]
  split
  · generalize ha : l.getD 0 v0 = a at *
    generalize hb : l.getD 1 v0 = b at *
    generalize hc : l.getD 2 v0 = c at *
    have ia : I a.n := by rw [← ha]; exact hg 0
    have ib : I b.n := by rw [← hb]; exact hg 1
    have ic : I c.n := by rw [← hc]; exact hg 2
    have za : a.s.length ≤ 1000 := by rw [← ha]; exact hz 0
    dsimp only
    split
    · unfold rek
      repeat' split
      all_goals first | exact w64_I _ | exact (dv_I ia ib).1 | exact (dv_I ia ib).2 | exact yes_I _ | assumption
    · unfold tex
      repeat' split
      all_goals first | exact I_zero | exact number_I _ | skip
      · show I (a.s.length : Int); unfold I; omega
      · show I (Vl.hash a.s : Int); have := hash_lt a.s; unfold I; omega
      · show I (find a.s b.s); have := find_I a.s b.s (by omega); unfold I; omega
  · exact I_zero
theorem nx_I {r : List (List UInt8)} {fo s : List V} {x : Ins} (hr : r.length ≤ 1000000) (hx : I x.n) (hs : s.all isV = true) (hI : ∀ v ∈ s, I v.n) (hf : ∀ v ∈ fo, I v.n) : ∀ v ∈ nx r fo s x, I v.n := by
  intro v hv
  unfold nx at hv
  rcases List.mem_append.1 hv with hv | hv
  · exact hI v (List.mem_of_mem_take hv)
  · obtain rfl := List.mem_singleton.1 hv
    unfold vx fld
    split
    · exact hx
    · split
      · exact I_zero
      · split
        · split <;> exact I_zero
        · split
          · show I (r.length : Int); unfold I; omega
          · split
            · rw [List.getD_eq_getElem?_getD]
              cases h : fo[(x.op - 22).toNat]? with
              | none => exact I_zero
              | some v => exact hf v (List.mem_of_getElem? h)
            · exact do_I _ (tp_all _ hs) (fun v hv => hI v (List.mem_of_mem_drop hv))
end Go.Proofs.YtoalncojijmelaaGreatDoor.Ck
