/-
  Files of records of one width: what they are, which lie between two places, what is written of them; texts cut by widths. Plain mathematics.
-/
import Derived.Test.YtjdmpnonjlffaaaTm
namespace Go.Proofs.Ytjdmpnonjlffaaa.Fx
open Go.Proofs.Ytjdmpnonjlffaaa

/-- The bytes of the i-th record. -/
def seg (b : List UInt8) (k i : Nat) : List UInt8 := (b.take (i * k + k)).drop (i * k)
def pi (b : List UInt8) (k i : Nat) : Nat × List UInt8 := (i * k, seg b k i)
/-- The records from the s-th on, ahead of the e-th. -/
def rs (b : List UInt8) (k s e : Nat) : List (Nat × List UInt8) := (List.range' s (e - s)).map (pi b k)
/-- All of them. -/
def ch (b : List UInt8) (k : Nat) : List (Nat × List UInt8) := rs b k 0 (b.length / k)
/-- Rounded up. -/
def cd (f k : Nat) : Nat := (f + k - 1) / k
/-- Those that begin from f on, ahead of t. -/
def rd (b : List UInt8) (k f t : Nat) : List (Nat × List UInt8) := rs b k (cd f k) (min (b.length / k) (cd t k))

theorem rs_len (b : List UInt8) (k s e : Nat) : (rs b k s e).length = e - s := by simp [rs]
theorem rs_nil (b : List UInt8) (k s e : Nat) (h : e ≤ s) : rs b k s e = [] := by
  apply List.eq_nil_of_length_eq_zero
  rw [rs_len]; omega
theorem rs_snoc (b : List UInt8) (k s e : Nat) (h : s ≤ e) : rs b k s (e + 1) = rs b k s e ++ [pi b k e] := by
  unfold rs
  rw [show e + 1 - s = (e - s) + 1 by omega, List.range'_1_concat, List.map_append]
  simp; congr 1; omega
theorem rs_app (b : List UInt8) (k s : Nat) : ∀ (m e : Nat), s ≤ e → rs b k s (e + m) = rs b k s e ++ rs b k e (e + m)
  | 0, e, h => by rw [Nat.add_zero, rs_nil b k e e (Nat.le_refl _), List.append_nil]
  | m + 1, e, h => by rw [← Nat.add_assoc, rs_snoc _ _ _ _ (by omega), rs_app b k s m e h, rs_snoc _ _ _ _ (by omega), List.append_assoc]
theorem rs_at (b : List UInt8) (k s e i : Nat) (h : s + i < e) : (rs b k s e)[i]? = some (pi b k (s + i)) := by
  unfold rs
  rw [List.getElem?_map, List.getElem?_range' (by omega)]
  simp
theorem ch_len (b : List UInt8) (k : Nat) : (ch b k).length = b.length / k := by rw [ch, rs_len, Nat.sub_zero]
theorem ch_at (b : List UInt8) (k i : Nat) (h : i < b.length / k) : (ch b k)[i]? = some (pi b k i) := by
  have := rs_at b k 0 (b.length / k) i (by omega)
  rwa [Nat.zero_add] at this
theorem ch_le (b : List UInt8) (k : Nat) : (ch b k).length ≤ b.length := by rw [ch_len]; exact Nat.div_le_self _ _
theorem rd_le (b : List UInt8) (k f t : Nat) : (rd b k f t).length ≤ b.length := by
  rw [rd, rs_len]
  have := Nat.div_le_self b.length k
  omega

/-- How many bytes the valid part has. -/
theorem vs_eq (n k : Nat) : n - n % k = n / k * k := by have := Nat.div_add_mod n k; have := Nat.mul_comm k (n / k); omega
theorem vs_le (n k : Nat) : n / k * k ≤ n := Nat.div_mul_le_self n k
theorem lt_vs (n k i : Nat) (hk : 1 ≤ k) : i * k < n / k * k ↔ i < n / k := by
  constructor
  · intro h; exact Nat.lt_of_mul_lt_mul_right h
  · intro h; exact (Nat.mul_lt_mul_right hk).2 h
theorem le_vs (n k i : Nat) (hk : 1 ≤ k) : i * k + k ≤ n ↔ i < n / k := by
  have h := Nat.le_div_iff_mul_le (x := i + 1) (y := n) hk
  rw [Nat.succ_mul] at h
  omega
theorem left (n k : Nat) : n / k * k < n ↔ n / k * k ≠ n := by have := vs_le n k; omega
/-- A record begins at f or behind it just from the cd f k-th on. -/
theorem cd_le (f k i : Nat) (hk : 1 ≤ k) : cd f k ≤ i ↔ f ≤ i * k := by
  unfold cd
  have h := Nat.div_lt_iff_lt_mul (x := f + k - 1) (y := i + 1) hk
  rw [Nat.succ_mul] at h
  omega
theorem lt_cd (t k i : Nat) (hk : 1 ≤ k) : i * k < t ↔ i < cd t k := by have := cd_le t k i hk; omega
theorem cd_mono (f t k : Nat) (h : f ≤ t) : cd f k ≤ cd t k := by unfold cd; exact Nat.div_le_div_right (by omega)
theorem cd_zero (k : Nat) (hk : 1 ≤ k) : cd 0 k = 0 := by unfold cd; exact Nat.div_eq_of_lt (by omega)
theorem cd_ge (n k : Nat) (hk : 1 ≤ k) : n / k ≤ cd n k := by unfold cd; exact Nat.div_le_div_right (by omega)
theorem rd_all (b : List UInt8) (k : Nat) (hk : 1 ≤ k) : rd b k 0 b.length = ch b k := by
  rw [rd, cd_zero k hk, Nat.min_eq_left (cd_ge _ _ hk), ch]
theorem rd_nil (b : List UInt8) (k : Nat) (hk : 1 ≤ k) : rd b k 0 0 = [] := by
  rw [rd, cd_zero k hk]; exact rs_nil _ _ _ _ (by omega)
theorem rd_split (b : List UInt8) (k a c t : Nat) (h1 : a ≤ c) (h2 : c ≤ t) : rd b k a t = rd b k a c ++ rd b k c t := by
  have m1 := cd_mono a c k h1
  have m2 := cd_mono c t k h2
  unfold rd
  by_cases h : b.length / k ≤ cd c k
  · rw [Nat.min_eq_left h, Nat.min_eq_left (by omega), rs_nil b k (cd c k) _ h, List.append_nil]
  · rw [Nat.min_eq_right (show cd c k ≤ b.length / k by omega)]
    obtain ⟨m, hm⟩ : ∃ m, min (b.length / k) (cd t k) = cd c k + m := ⟨min (b.length / k) (cd t k) - cd c k, by omega⟩
    rw [hm]
    exact rs_app b k _ m _ m1

theorem range_btw (s c : Nat) : ∀ m : Nat, (List.range' 0 m).filter (fun i => decide (s ≤ i) && decide (i < c)) = List.range' s (min m c - s)
  | 0 => by simp
  | m + 1 => by
    rw [List.range'_1_concat, List.filter_append, range_btw s c m]
    simp only [Nat.zero_add, List.filter_cons, List.filter_nil]
    by_cases h : s ≤ m ∧ m < c
    · rw [if_pos (by simpa using h), show min (m + 1) c - s = (min m c - s) + 1 by omega, List.range'_1_concat]
      congr 2; omega
    · rw [if_neg (by simpa using h), List.append_nil]
      congr 1; omega
/-- The pieces of the valid part that lie between. -/
theorem btw_ch (b : List UInt8) (k f t : Nat) (hk : 1 ≤ k) : (ch b k).filter (fun p => decide (f ≤ p.1) && decide (p.1 < t)) = rd b k f t := by
  unfold ch rd rs
  rw [List.filter_map]
  congr 1
  rw [Nat.sub_zero, ← range_btw]
  refine List.filter_congr fun i _ => ?_
  simp only [Function.comp, pi]
  have h1 := cd_le f k i hk
  have h2 := lt_cd t k i hk
  congr 1
  · exact decide_eq_decide.2 h1.symm
  · exact decide_eq_decide.2 h2
theorem all_btw (b : List UInt8) (k f t : Nat) (hk : 1 ≤ k) : Tm.all (Tm.btw f t ((ch b k).map Tm.pc)) = (rd b k f t).map Tm.rc := by
  unfold Tm.btw
  rw [List.filter_map, Tm.all_pc, ← btw_ch b k f t hk]
  rfl

theorem seg_len (b : List UInt8) (k i : Nat) (h : i * k + k ≤ b.length) : (seg b k i).length = k := by
  unfold seg; rw [List.length_drop, List.length_take]; omega

/-- May this record be? -/
def ok (k : Nat) : List (List UInt8) → Bool
  | [s] => s.length == k
  | _ => false
theorem ok_inv {k : Nat} {r : List (List UInt8)} (h : ok k r = true) : ∃ s, r = [s] ∧ s.length = k := by
  match r, h with
  | [s], h => exact ⟨s, rfl, by simpa [ok] using h⟩
theorem ok_len {k : Nat} {r : List (List UInt8)} (h : r.length ≠ 1) : ok k r = false := by
  match r, h with
  | [], _ => rfl
  | [_], h => exact absurd rfl h
  | _ :: _ :: _, _ => rfl
theorem ok_one (k : Nat) (s : List UInt8) : ok k [s] = decide (s.length = k) := by simp [ok]; rfl
def wr (l : List (List (List UInt8))) : List UInt8 := l.flatMap fun r => r.flatten
theorem wr_app (p q : List (List (List UInt8))) : wr (p ++ q) = wr p ++ wr q := by simp [wr]
theorem wr_take (l : List (List (List UInt8))) (k : Nat) : (wr (l.take k)).length ≤ (wr l).length := by
  have := congrArg List.length (congrArg wr (List.take_append_drop k l))
  rw [wr_app, List.length_append] at this
  omega
theorem wr_next (l : List (List (List UInt8))) (k : Nat) (s : List UInt8) (h : l[k]? = some [s]) : wr (l.take (k + 1)) = wr (l.take k) ++ s := by
  rw [List.take_add_one, h, wr_app]
  simp [wr]
theorem oks_next (w : Nat) (l : List (List (List UInt8))) (k : Nat) (r : List (List UInt8)) (h : l[k]? = some r) (hr : ok w r = true) (ha : (l.take k).all (ok w) = true) : (l.take (k + 1)).all (ok w) = true := by
  rw [List.take_add_one, h, List.all_append, ha]
  simp [hr]
theorem oks_not (w : Nat) (l : List (List (List UInt8))) (k : Nat) (r : List (List UInt8)) (h : l[k]? = some r) (hr : ok w r = false) : l.all (ok w) = false := by
  rw [List.all_eq_false]
  exact ⟨r, List.mem_of_getElem? h, by simp [hr]⟩
/-- What Write comes to. -/
def wrS (w : Nat) (l : List (List (List UInt8))) : List UInt8 × Nat := if l.all (ok w) then (wr l, 0) else ([], 10)
theorem wrS_ok {w : Nat} {l : List (List (List UInt8))} (h : l.all (ok w) = true) : wrS w l = (wr l, 0) := if_pos h
theorem wrS_err {w : Nat} {l : List (List (List UInt8))} (h : l.all (ok w) = false) : wrS w l = ([], 10) := if_neg (by simp [h])
theorem wrS_zero {w : Nat} {l : List (List (List UInt8))} (h : (wrS w l).2 = 0) : l.all (ok w) = true := by
  by_cases e : l.all (ok w) = true
  · exact e
  · rw [wrS_err (by simpa using e)] at h; cases h

/-- There and back. -/
theorem seg_next (b : List UInt8) (k i : Nat) : b.take (i * k) ++ seg b k i = b.take ((i + 1) * k) := by
  unfold seg
  rw [Nat.succ_mul]
  have h : (b.take (i * k + k)).take (i * k) = b.take (i * k) := by rw [List.take_take, Nat.min_eq_left (by omega)]
  rw [← h, List.take_append_drop]
theorem wr_rs (b : List UInt8) (k : Nat) : ∀ i, wr ((rs b k 0 i).map Tm.rc) = b.take (i * k)
  | 0 => by rw [rs_nil _ _ _ _ (Nat.le_refl _)]; simp [wr]
  | i + 1 => by
    rw [rs_snoc _ _ _ _ (Nat.zero_le _), List.map_append, wr_app, wr_rs b k i, ← seg_next]
    simp [wr, Tm.rc, pi]
theorem wr_ch (b : List UInt8) (k : Nat) (h : b.length / k * k = b.length) : wr ((ch b k).map Tm.rc) = b := by
  rw [ch, wr_rs, h, List.take_length]
theorem ok_ch (b : List UInt8) (k : Nat) (hk : 1 ≤ k) : ((ch b k).map Tm.rc).all (ok k) = true := by
  rw [List.all_eq_true]
  intro r hr
  obtain ⟨p, hp, rfl⟩ := List.mem_map.1 hr
  obtain ⟨i, hi⟩ := List.getElem?_of_mem hp
  have hl : i < b.length / k := by
    have := (List.getElem?_eq_some_iff.1 hi).1
    rwa [ch_len] at this
  rw [ch_at b k i hl] at hi
  injection hi with hi
  subst hi
  show ok k [seg b k i] = true
  rw [ok_one]
  simpa using seg_len b k i ((le_vs _ _ _ hk).2 hl)
theorem wr_len (k : Nat) : ∀ l : List (List (List UInt8)), l.all (ok k) = true → (wr l).length = l.length * k
  | [], _ => by simp [wr]
  | r :: l, h => by
    rw [List.all_cons, Bool.and_eq_true] at h
    obtain ⟨s, rfl, hs⟩ := ok_inv h.1
    have ih := wr_len k l h.2
    simp only [wr, List.flatMap_cons, List.length_append, List.length_cons] at ih ⊢
    rw [ih, Nat.succ_mul]
    simp [hs]; omega
theorem ch_wr (k : Nat) (hk : 1 ≤ k) (l : List (List (List UInt8))) (h : l.all (ok k) = true) : (ch (wr l) k).map Tm.rc = l := by
  have hlen := wr_len k l h
  have hdiv : (wr l).length / k = l.length := by rw [hlen, Nat.mul_div_cancel _ hk]
  apply List.ext_getElem?
  intro i
  rw [List.getElem?_map]
  by_cases hi : i < l.length
  · rw [ch_at _ _ _ (by rw [hdiv]; exact hi)]
    have hall := List.all_eq_true.1 h
    obtain ⟨s, hs, hsl⟩ := ok_inv (hall l[i] (List.getElem_mem hi))
    have hg : l[i]? = some [s] := by rw [List.getElem?_eq_getElem hi, hs]
    have ht := wr_len k (l.take i) (by rw [List.all_eq_true]; exact fun r hr => hall r (List.mem_of_mem_take hr))
    have hn := wr_next l i s hg
    rw [List.length_take, Nat.min_eq_left (Nat.le_of_lt hi)] at ht
    have e1 : wr l = (wr (l.take i) ++ s) ++ wr (l.drop (i + 1)) := by rw [← hn, ← wr_app, List.take_append_drop]
    rw [hg]
    simp only [Option.map_some, Tm.rc, pi]
    congr 2
    unfold seg
    rw [e1, List.take_left' (by rw [List.length_append, ht, hsl]), List.drop_left' ht]
  · rw [List.getElem?_eq_none (by rw [ch_len, hdiv]; omega), List.getElem?_eq_none (by omega)]
    rfl
end Go.Proofs.Ytjdmpnonjlffaaa.Fx
