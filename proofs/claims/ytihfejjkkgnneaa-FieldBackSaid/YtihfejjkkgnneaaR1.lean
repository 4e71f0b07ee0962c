/-
  Words for records in memory; field.May, the document's May, MayAll.
-/
import Derived.Test.YtihfejjkkgnneaaW4
namespace Go.Proofs.Ytihfejjkkgnneaa
open Go.RowKit

/-- The value v is the record r. -/
def Rr (w : World) (B : Nat) (v : Value) (r : List (List UInt8)) : Prop := ∃ A n c, v = .slice A n c ∧ Rc 1 w B A n c (lvs r)
/-- The values are the records. -/
def Rrs (w : World) (B : Nat) (vs : List Value) (l : List (List (List UInt8))) : Prop := vs.length = l.length ∧ ∀ (j : Nat) (v : Value) (r : List (List UInt8)), vs[j]? = some v → l[j]? = some r → Rr w B v r
theorem Rr.below {w w' : World} {B : Nat} {v : Value} {r : List (List UInt8)} (h : Rr w B v r) (hb : Below B w w') : Rr w' B v r := by
  obtain ⟨A, n, c, e, h⟩ := h
  exact ⟨A, n, c, e, h.below hb⟩
theorem Rr.more {w : World} {B B' : Nat} {v : Value} {r : List (List UInt8)} (h : Rr w B v r) (hb : B ≤ B') : Rr w B' v r := by
  obtain ⟨A, n, c, e, h⟩ := h
  exact ⟨A, n, c, e, h.more hb⟩
theorem Rrs.below {w w' : World} {B : Nat} {vs : List Value} {l : List (List (List UInt8))} (h : Rrs w B vs l) (hb : Below B w w') : Rrs w' B vs l :=
  ⟨h.1, fun j v r h1 h2 => (h.2 j v r h1 h2).below hb⟩
theorem Rrs.more {w : World} {B B' : Nat} {vs : List Value} {l : List (List (List UInt8))} (h : Rrs w B vs l) (hb : B ≤ B') : Rrs w B' vs l :=
  ⟨h.1, fun j v r h1 h2 => (h.2 j v r h1 h2).more hb⟩
theorem Rrs.nil (w : World) (B : Nat) : Rrs w B [] [] := ⟨rfl, fun j v r h => by simp at h⟩
theorem Rrs.snoc {w : World} {B : Nat} {vs : List Value} {l : List (List (List UInt8))} {v : Value} {r : List (List UInt8)} (h : Rrs w B vs l) (hr : Rr w B v r) : Rrs w B (vs ++ [v]) (l ++ [r]) := by
  refine ⟨by simp [h.1], fun j u s h1 h2 => ?_⟩
  by_cases hj : j < vs.length
  · rw [List.getElem?_append_left hj] at h1
    rw [List.getElem?_append_left (by rw [← h.1]; exact hj)] at h2
    exact h.2 j u s h1 h2
  · rw [List.getElem?_append_right (by omega)] at h1
    rw [List.getElem?_append_right (by rw [← h.1]; omega), ← h.1] at h2
    by_cases h0 : j - vs.length = 0
    · rw [h0] at h1 h2
      simp at h1 h2
      subst h1 h2
      exact hr
    · rw [List.getElem?_eq_none (by simp; omega)] at h1
      cases h1
/-- A slice of records. -/
def RL (w : World) (B : Nat) (A : Option Addr) (n c : Nat) (l : List (List (List UInt8))) : Prop := ∃ vs, Rc 1 w B A n c vs ∧ Rrs w B vs l
theorem RL.len {w : World} {B : Nat} {A : Option Addr} {n c : Nat} {l : List (List (List UInt8))} (h : RL w B A n c l) : l.length = n := by
  obtain ⟨vs, h1, h2⟩ := h
  rw [← h2.1, h1.len1]
theorem RL.below {w w' : World} {B : Nat} {A : Option Addr} {n c : Nat} {l : List (List (List UInt8))} (h : RL w B A n c l) (hb : Below B w w') : RL w' B A n c l := by
  obtain ⟨vs, h1, h2⟩ := h
  exact ⟨vs, h1.below hb, h2.below hb⟩
theorem RL.more {w : World} {B B' : Nat} {A : Option Addr} {n c : Nat} {l : List (List (List UInt8))} (h : RL w B A n c l) (hb : B ≤ B') : RL w B' A n c l := by
  obtain ⟨vs, h1, h2⟩ := h
  exact ⟨vs, h1.more hb, h2.more hb⟩
theorem RL.at_ {w : World} {B : Nat} {A : Option Addr} {n c k : Nat} {l : List (List (List UInt8))} (h : RL w B A n c l) (hk : k < n) :
    ∃ b off D m d r, A = some ⟨b, off, none⟩ ∧ b < B ∧ w.cell? ⟨b, off + k, none⟩ = some (.slice D m d) ∧ l[k]? = some r ∧ l.drop k = r :: l.drop (k + 1) ∧ Rc 1 w B D m d (lvs r) := by
  have hl := h.len
  obtain ⟨vs, h1, h2⟩ := h
  obtain ⟨b, off, v, rfl, hb, hc, hv⟩ := h1.at_ hk
  have hkl : k < l.length := by omega
  obtain ⟨D, m, d, rfl, hr⟩ := h2.2 k v l[k] hv (List.getElem?_eq_getElem hkl)
  exact ⟨b, off, D, m, d, l[k], rfl, hb, hc, List.getElem?_eq_getElem hkl, List.drop_eq_getElem_cons hkl, hr⟩
theorem lvs_at {w : World} {B : Nat} {A : Option Addr} {n c k : Nat} {r : List (List UInt8)} (h : Rc 1 w B A n c (lvs r)) (hk : k < n) :
    ∃ b off x, A = some ⟨b, off, none⟩ ∧ b < B ∧ w.cell? ⟨b, off + k, none⟩ = some (.string ⟨x.toArray⟩) ∧ r[k]? = some x ∧ r.drop k = x :: r.drop (k + 1) := by
  have hl : r.length = n := by have := h.len1; rw [lvs_length] at this; exact this
  obtain ⟨b, off, v, rfl, hb, hc, hv⟩ := h.at_ hk
  have hkl : k < r.length := by omega
  rw [lvs_get r k r[k] (List.getElem?_eq_getElem hkl)] at hv
  injection hv with hv
  subst hv
  exact ⟨b, off, r[k], rfl, hb, hc, List.getElem?_eq_getElem hkl, List.drop_eq_getElem_cons hkl⟩
theorem lvs_num {z : World} {B : Nat} {A : Option Addr} {n c : Nat} {r : List (List UInt8)} (h : Rc 1 z B A n c (lvs r)) : r.length = n := by have := h.len1; rw [lvs_length] at this; exact this

/-- The first k are short. -/
def ShortTo (r : List (List UInt8)) (k : Nat) : Prop := ∀ (j : Nat) (x : List UInt8), j < k → r[j]? = some x → x.length ≤ 1000
theorem ShortTo.step {r : List (List UInt8)} {k : Nat} {x : List UInt8} (h : ShortTo r k) (hx : r[k]? = some x) (hl : x.length ≤ 1000) : ShortTo r (k + 1) := fun j y hj hy => by
  by_cases e : j = k
  · subst e
    rw [hx] at hy
    injection hy with hy
    rw [← hy]; exact hl
  · exact h j y (by omega) hy
theorem ShortTo.all {r : List (List UInt8)} (h : ShortTo r r.length) : ∀ s ∈ r, s.length ≤ 1000 := fun s hs => by
  obtain ⟨j, hj, rfl⟩ := List.getElem_of_mem hs
  exact h j _ hj (List.getElem?_eq_getElem hj)
theorem not_may_field {r : List (List UInt8)} {k : Nat} {x : List UInt8} (hx : r[k]? = some x) (hl : 1000 < x.length) : ¬ Fm.May r := fun h => by
  have := h.2 x (List.mem_of_getElem? hx)
  omega
def MayRel (r : List (List UInt8)) (n : Nat) (t : Value) : Prop := ∃ k : Nat, t = .int .i64 (k : Int) ∧ k ≤ n ∧ ShortTo r k

instance (r : List (List UInt8)) : Decidable (Fm.May r) := by unfold Fm.May; infer_instance

set_option maxRecDepth 100000 in
set_option maxHeartbeats 1000000 in
/-- field.May -/
theorem may_c (A : Option Addr) (n c B : Nat) (r : List (List UInt8)) (w : World) (hr : Rc 1 w B A n c (lvs r)) (o : Bool) (ho : o = decide (Fm.May r)) :
    Calls Try.prog 14 #[.slice A n c] w fun e w' => e = .returned (.bool o) ∧ w = w' := by
  have hl := lvs_num hr
  have Hr := Lib.hid hr; have Hl := Lib.hid hl
  by_cases h50 : 50 < n
  · have ho' : o = false := by rw [ho]; exact decide_eq_false (fun h => by have := h.1; omega)
    subst ho'
    clear hr hl ho
    go_enter Try.func14, Try.ntmps14
    go_wp2
    go_ret
    exact ⟨rfl, rfl⟩
  · have Ho := Lib.hid ho
    clear hr hl ho
    go_enter Try.func14, Try.ntmps14
    go_wp2
    go_loop [10] (fun t => MayRel r n t) (fun t => n - (intOf t).toNat)
    case atStart => exact ⟨0, rfl, Nat.zero_le _, fun j x hj => by omega⟩
    case round =>
      obtain ⟨k, rfl, hk, hsh⟩ := hrel
      have Hsh := Lib.hid hsh; clear hsh
      by_cases hlt : k < n
      · obtain ⟨b, off, x, rfl, hb, hcell, hx, _⟩ := lvs_at Hr.out hlt
        have Hx := Lib.hid hx; clear hx
        by_cases hbig : 1000 < x.length
        · have ho' : o = false := by rw [Ho.out]; exact decide_eq_false (not_may_field Hx.out hbig)
          subst ho'
          go_wp2
          go_ret
          exact ⟨rfl, rfl⟩
        · go_wp2
          go_round
          case rel => exact ⟨k + 1, by go_num, by omega, Hsh.out.step Hx.out (by omega)⟩
          case measure => simp [intOf]; omega
      · have ho' : o = true := by
          rw [Ho.out]
          have hl := Hl.out
          exact decide_eq_true ⟨by omega, ShortTo.all (by rw [show r.length = k by omega]; exact Hsh.out)⟩
        subst ho'
        go_wp2
        go_ret
        exact ⟨rfl, rfl⟩

set_option maxRecDepth 100000 in
set_option maxHeartbeats 1000000 in
/-- the document's May -/
theorem rmay_c (A : Option Addr) (n c B : Nat) (r : List (List UInt8)) (w : World) (hr : Rc 1 w B A n c (lvs r)) (o : Bool) (ho : o = decide (Fm.May r)) :
    Calls Try.prog 15 #[.slice A n c] w fun e w' => e = .returned (.bool o) ∧ w = w' := by
  have hl := lvs_num hr
  have Hr := Lib.hid hr; have Hl := Lib.hid hl
  by_cases h50 : 50 < n
  · have ho' : o = false := by rw [ho]; exact decide_eq_false (fun h => by have := h.1; omega)
    subst ho'
    clear hr hl ho
    go_enter Try.func15, Try.ntmps15
    go_wp2
    go_ret
    exact ⟨rfl, rfl⟩
  · have Ho := Lib.hid ho
    clear hr hl ho
    go_enter Try.func15, Try.ntmps15
    go_wp2
    go_loop [3] (fun t => MayRel r n t) (fun t => n - (intOf t).toNat)
    case atStart => exact ⟨0, rfl, Nat.zero_le _, fun j x hj => by omega⟩
    case round =>
      obtain ⟨k, rfl, hk, hsh⟩ := hrel
      have Hsh := Lib.hid hsh; clear hsh
      by_cases hlt : k < n
      · obtain ⟨b, off, x, rfl, hb, hcell, hx, _⟩ := lvs_at Hr.out hlt
        have Hx := Lib.hid hx; clear hx
        by_cases hbig : 1000 < x.length
        · have ho' : o = false := by rw [Ho.out]; exact decide_eq_false (not_may_field Hx.out hbig)
          subst ho'
          go_wp2
          go_ret
          exact ⟨rfl, rfl⟩
        · go_wp2
          go_round
          case rel => exact ⟨k + 1, by go_num, by omega, Hsh.out.step Hx.out (by omega)⟩
          case measure => simp [intOf]; omega
      · have ho' : o = true := by
          rw [Ho.out]
          have hl := Hl.out
          exact decide_eq_true ⟨by omega, ShortTo.all (by rw [show r.length = k by omega]; exact Hsh.out)⟩
        subst ho'
        go_wp2
        go_ret
        exact ⟨rfl, rfl⟩

def MayAllRel (l : List (List (List UInt8))) (n : Nat) (t : Value) : Prop := ∃ k : Nat, t = .int .i64 (k : Int) ∧ k ≤ n ∧ ∀ (j : Nat) (r : List (List UInt8)), j < k → l[j]? = some r → Fm.May r
set_option maxRecDepth 100000 in
set_option maxHeartbeats 1000000 in
/-- the document's MayAll -/
theorem mayAll_c (A : Option Addr) (n c B : Nat) (l : List (List (List UInt8))) (w : World) (hr : RL w B A n c l) (hn : n ≤ 1000000) (o : Bool) (ho : o = decide (∀ r ∈ l, Fm.May r)) :
    Calls Try.prog 33 #[.slice A n c] w fun e w' => e = .returned (.bool o) ∧ w = w' := by
  have hl := hr.len
  have Hr := Lib.hid hr; have Hl := Lib.hid hl; have Ho := Lib.hid ho
  clear hr hl ho
  go_enter Try.func33, Try.ntmps33
  go_wp2
  go_loop [3] (fun t => MayAllRel l n t) (fun t => n - (intOf t).toNat)
  case atStart => exact ⟨0, rfl, Nat.zero_le _, fun j x hj => by omega⟩
  case round =>
    obtain ⟨k, rfl, hk, hsh⟩ := hrel
    have Hsh := Lib.hid hsh; clear hsh
    by_cases hlt : k < n
    · obtain ⟨b, off, D, m, d, r, rfl, hb, hcell, hx, _, hrr⟩ := Hr.out.at_ hlt
      have Hx := Lib.hid hx; have Hrr := Lib.hid hrr; clear hx hrr
      by_cases hm : Fm.May r
      · have hst : ∀ j s, j < k + 1 → l[j]? = some s → Fm.May s := fun j s hj hs => by
          by_cases e : j = k
          · subst e
            rw [Hx.out] at hs
            injection hs with hs
            rw [← hs]; exact hm
          · exact Hsh.out j s (by omega) hs
        have Hst := Lib.hid hst; have Hm := Lib.hid (decide_eq_true hm).symm; clear hst hm
        go_wp2_with fail
        refine (rmay_c D m d B r _ Hrr.out true Hm.out).mono ?_
        rintro e w' ⟨rfl, rfl⟩
        go_wp2
        go_round
        case rel => exact ⟨k + 1, by go_num, by omega, Hst.out⟩
        case measure => simp [intOf]; omega
      · have ho' : o = false := by rw [Ho.out]; exact decide_eq_false (fun h => hm (h r (List.mem_of_getElem? Hx.out)))
        subst ho'
        have Hm := Lib.hid (decide_eq_false hm).symm; clear hm
        go_wp2_with fail
        refine (rmay_c D m d B r _ Hrr.out false Hm.out).mono ?_
        rintro e w' ⟨rfl, rfl⟩
        go_wp2
        go_ret
        exact ⟨rfl, rfl⟩
    · have ho' : o = true := by
        rw [Ho.out]
        refine decide_eq_true fun r hr => ?_
        obtain ⟨j, hj, rfl⟩ := List.getElem_of_mem hr
        have hl := Hl.out
        exact Hsh.out j _ (by omega) (List.getElem?_eq_getElem hj)
      subst ho'
      go_wp2
      go_ret
      exact ⟨rfl, rfl⟩
end Go.Proofs.Ytihfejjkkgnneaa
