/-
  Words for pieces and records that lie in given blocks (so that they stay while another block is turned); Pieces (are rows alike?).
-/
import Derived.Test.YtkkjgiejnblopaaDoorRw
namespace Go.Proofs.YtkkjgiejnblopaaDoor
open Go.RowKit

/-- The slice holds the cells vs; its block is one of S. -/
def RcS (z : Nat) (w : World) (S : Nat → Prop) (A : Option Addr) (n c : Nat) (vs : List Value) : Prop :=
  vs.length = n * z ∧ n ≤ c ∧ c ≤ maxLen ∧ (0 < n → ∃ b off, A = some ⟨b, off, none⟩ ∧ S b ∧ ∀ j v, vs[j]? = some v → w.cell? ⟨b, off + j, none⟩ = some v)
theorem RcS.rc {z : Nat} {w : World} {B : Nat} {A : Option Addr} {n c : Nat} {vs : List Value} (h : RcS z w (· < B) A n c vs) : Rc z w B A n c vs := h
theorem Rc.s {z : Nat} {w : World} {B : Nat} {A : Option Addr} {n c : Nat} {vs : List Value} (h : Rc z w B A n c vs) : RcS z w (· < B) A n c vs := h
/-- What stood in blocks of S stands in blocks of S'. -/
def Stays (w w' : World) (S S' : Nat → Prop) : Prop := (∀ b, S b → S' b) ∧ ∀ p : Addr, S p.block → w'.cell? p = w.cell? p
theorem RcS.keep {z : Nat} {w w' : World} {S S' : Nat → Prop} {A : Option Addr} {n c : Nat} {vs : List Value} (h : RcS z w S A n c vs) (k : Stays w w' S S') : RcS z w' S' A n c vs :=
  ⟨h.1, h.2.1, h.2.2.1, fun hn => by
    obtain ⟨b, off, e, hb, hc⟩ := h.2.2.2 hn
    exact ⟨b, off, e, k.1 b hb, fun j x hx => (k.2 _ hb).trans (hc j x hx)⟩⟩
def RrS (w : World) (S : Nat → Prop) (v : Value) (r : List (List UInt8)) : Prop := ∃ A n c, v = .slice A n c ∧ RcS 1 w S A n c (lvs r)
def RrsS (w : World) (S : Nat → Prop) (vs : List Value) (l : List (List (List UInt8))) : Prop := vs.length = l.length ∧ ∀ (j : Nat) (v : Value) (r : List (List UInt8)), vs[j]? = some v → l[j]? = some r → RrS w S v r
def RLS (w : World) (S : Nat → Prop) (A : Option Addr) (n c : Nat) (l : List (List (List UInt8))) : Prop := ∃ vs, RcS 1 w S A n c vs ∧ RrsS w S vs l
def PrS (w : World) (S : Nat → Prop) (u v : Value) (p : Nat × List (List (List UInt8))) : Prop := u = .int .i64 (p.1 : Int) ∧ ∃ A n c, v = .slice A n c ∧ RLS w S A n c p.2
def PsS (w : World) (S : Nat → Prop) (vs : List Value) (l : List (Nat × List (List (List UInt8)))) : Prop :=
  vs.length = l.length * 2 ∧ ∀ (j : Nat) (p : Nat × List (List (List UInt8))), l[j]? = some p → ∃ u v, vs[j * 2]? = some u ∧ vs[j * 2 + 1]? = some v ∧ PrS w S u v p
def PLS (w : World) (S : Nat → Prop) (A : Option Addr) (n c : Nat) (l : List (Nat × List (List (List UInt8)))) : Prop := ∃ vs, RcS 2 w S A n c vs ∧ PsS w S vs l
/-- A slice of pieces. -/
def PL (w : World) (B : Nat) (A : Option Addr) (n c : Nat) (l : List (Nat × List (List (List UInt8)))) : Prop := PLS w (· < B) A n c l
theorem RLS.rl {w : World} {B : Nat} {A : Option Addr} {n c : Nat} {l : List (List (List UInt8))} (h : RLS w (· < B) A n c l) : RL w B A n c l := h
theorem RL.s {w : World} {B : Nat} {A : Option Addr} {n c : Nat} {l : List (List (List UInt8))} (h : RL w B A n c l) : RLS w (· < B) A n c l := h
section
variable {w w' : World} {S S' : Nat → Prop}
theorem RrS.keep {v : Value} {r : List (List UInt8)} (h : RrS w S v r) (k : Stays w w' S S') : RrS w' S' v r := by
  obtain ⟨A, n, c, e, h⟩ := h
  exact ⟨A, n, c, e, h.keep k⟩
theorem RrsS.keep {vs : List Value} {l : List (List (List UInt8))} (h : RrsS w S vs l) (k : Stays w w' S S') : RrsS w' S' vs l :=
  ⟨h.1, fun j v r h1 h2 => (h.2 j v r h1 h2).keep k⟩
theorem RLS.keep {A : Option Addr} {n c : Nat} {l : List (List (List UInt8))} (h : RLS w S A n c l) (k : Stays w w' S S') : RLS w' S' A n c l := by
  obtain ⟨vs, h1, h2⟩ := h
  exact ⟨vs, h1.keep k, h2.keep k⟩
theorem PrS.keep {u v : Value} {p : Nat × List (List (List UInt8))} (h : PrS w S u v p) (k : Stays w w' S S') : PrS w' S' u v p := by
  obtain ⟨e, A, n, c, e2, h⟩ := h
  exact ⟨e, A, n, c, e2, h.keep k⟩
theorem PsS.keep {vs : List Value} {l : List (Nat × List (List (List UInt8)))} (h : PsS w S vs l) (k : Stays w w' S S') : PsS w' S' vs l :=
  ⟨h.1, fun j p hp => by
    obtain ⟨u, v, h1, h2, h3⟩ := h.2 j p hp
    exact ⟨u, v, h1, h2, h3.keep k⟩⟩
theorem PLS.keep {A : Option Addr} {n c : Nat} {l : List (Nat × List (List (List UInt8)))} (h : PLS w S A n c l) (k : Stays w w' S S') : PLS w' S' A n c l := by
  obtain ⟨vs, h1, h2⟩ := h
  exact ⟨vs, h1.keep k, h2.keep k⟩
theorem RrsS.nil : RrsS w S [] [] := ⟨rfl, fun j v r h => by simp at h⟩
theorem PsS.nil : PsS w S [] [] := ⟨rfl, fun j p h => by simp at h⟩
theorem RrsS.append {vs us : List Value} {l m : List (List (List UInt8))} (h : RrsS w S vs l) (k : RrsS w S us m) : RrsS w S (vs ++ us) (l ++ m) := by
  refine ⟨by rw [List.length_append, List.length_append, h.1, k.1], fun j u s h1 h2 => ?_⟩
  by_cases hj : j < vs.length
  · rw [List.getElem?_append_left hj] at h1
    rw [List.getElem?_append_left (by rw [← h.1]; exact hj)] at h2
    exact h.2 j u s h1 h2
  · rw [List.getElem?_append_right (by omega)] at h1
    rw [List.getElem?_append_right (by rw [← h.1]; omega), ← h.1] at h2
    exact k.2 _ u s h1 h2
theorem RrsS.snoc {vs : List Value} {l : List (List (List UInt8))} {v : Value} {r : List (List UInt8)} (h : RrsS w S vs l) (hr : RrS w S v r) : RrsS w S (vs ++ [v]) (l ++ [r]) :=
  h.append ⟨rfl, fun j u s h1 h2 => by
    cases j with
    | zero => simp at h1 h2; subst h1 h2; exact hr
    | succ j => simp at h1⟩
theorem PsS.snoc {vs : List Value} {l : List (Nat × List (List (List UInt8)))} {u v : Value} {p : Nat × List (List (List UInt8))} (h : PsS w S vs l) (hp : PrS w S u v p) : PsS w S (vs ++ [u, v]) (l ++ [p]) := by
  refine ⟨by rw [List.length_append, List.length_append, h.1]; simp; omega, fun j q hq => ?_⟩
  have hl := h.1
  by_cases hj : j < l.length
  · rw [List.getElem?_append_left hj] at hq
    obtain ⟨x, y, h1, h2, h3⟩ := h.2 j q hq
    exact ⟨x, y, by rw [List.getElem?_append_left (by omega)]; exact h1, by rw [List.getElem?_append_left (by omega)]; exact h2, h3⟩
  · rw [List.getElem?_append_right (by omega)] at hq
    have e : j = l.length := by
      rcases Nat.lt_or_ge (j - l.length) 1 with h1 | h1
      · omega
      · rw [List.getElem?_eq_none (by simpa using h1)] at hq; cases hq
    subst e
    simp at hq
    subst hq
    exact ⟨u, v, by rw [List.getElem?_append_right (by omega), show l.length * 2 - vs.length = 0 by omega]; rfl, by rw [List.getElem?_append_right (by omega), show l.length * 2 + 1 - vs.length = 1 by omega]; rfl, hp⟩
theorem PLS.len {A : Option Addr} {n c : Nat} {l : List (Nat × List (List (List UInt8)))} (h : PLS w S A n c l) : l.length = n := by
  obtain ⟨vs, h1, h2⟩ := h
  have := h1.1
  have := h2.1
  omega
theorem RLS.len {A : Option Addr} {n c : Nat} {l : List (List (List UInt8))} (h : RLS w S A n c l) : l.length = n := by
  obtain ⟨vs, h1, h2⟩ := h
  have := h1.1
  have := h2.1
  omega
/-- The k-th piece. -/
theorem PLS.at_ {A : Option Addr} {n c k : Nat} {l : List (Nat × List (List (List UInt8)))} (h : PLS w S A n c l) (hk : k < n) :
    ∃ b off p D m d, A = some ⟨b, off, none⟩ ∧ S b ∧ w.cell? ⟨b, off + k * 2, none⟩ = some (.int .i64 (p.1 : Int)) ∧ w.cell? ⟨b, off + k * 2 + 1, none⟩ = some (.slice D m d) ∧ l[k]? = some p ∧ RLS w S D m d p.2 := by
  have hl := h.len
  obtain ⟨vs, h1, h2⟩ := h
  obtain ⟨b, off, e, hb, hc⟩ := h1.2.2.2 (by omega)
  have hkl : k < l.length := by omega
  obtain ⟨u, v, g1, g2, rfl, D, m, d, rfl, hr⟩ := h2.2 k l[k] (List.getElem?_eq_getElem hkl)
  exact ⟨b, off, l[k], D, m, d, e, hb, hc _ _ g1, by rw [Nat.add_assoc]; exact hc _ _ g2, List.getElem?_eq_getElem hkl, hr⟩
theorem RLS.nil : RLS w S none 0 0 [] := ⟨[], ⟨rfl, Nat.le_refl _, by simp [maxLen], fun h => absurd h (by omega)⟩, RrsS.nil⟩
theorem PLS.nil : PLS w S none 0 0 [] := ⟨[], ⟨rfl, Nat.le_refl _, by simp [maxLen], fun h => absurd h (by omega)⟩, PsS.nil⟩
end
theorem stays_below {w w' : World} {B B' : Nat} (h : Below B w w') (hb : B ≤ B') : Stays w w' (· < B) (· < B') := ⟨fun _ h => Nat.lt_of_lt_of_le h hb, fun _ hp => h.cell hp⟩
theorem PL.below {w w' : World} {B : Nat} {A : Option Addr} {n c : Nat} {l : List (Nat × List (List (List UInt8)))} (h : PL w B A n c l) (hb : Below B w w') : PL w' B A n c l := PLS.keep h (stays_below hb (Nat.le_refl _))
theorem PL.more {w : World} {B B' : Nat} {A : Option Addr} {n c : Nat} {l : List (Nat × List (List (List UInt8)))} (h : PL w B A n c l) (hb : B ≤ B') : PL w B' A n c l := PLS.keep h (stays_below (Below.refl _ _) hb)
/-- Blocks made from 'base' on. -/
def Fr (base : Nat) (w : World) (b : Nat) : Prop := base ≤ b ∧ b < w.heap.size
/-- Blocks made from 'base' on, but for a slice's own. -/
def Sf (base : Nat) (w : World) (A : Option Addr) (b : Nat) : Prop := base ≤ b ∧ b < w.heap.size ∧ some b ≠ ob A
theorem stays_weak {w : World} {S S' : Nat → Prop} (h : ∀ b, S b → S' b) : Stays w w S S' := ⟨h, fun _ _ => rfl⟩
theorem sf_grow {w w' : World} {base : Nat} {A A' : Option Addr} (h : Grows w w' A A') : Stays w w' (Sf base w A) (Sf base w' A') :=
  ⟨fun b ⟨h1, h2, h3⟩ => ⟨h1, Nat.lt_of_lt_of_le h2 h.size, fun e => by
    rcases h.2 with k | ⟨g, k, k2⟩
    · exact h3 (e.trans k)
    · rw [k] at e; injection e with e; omega⟩, fun p ⟨_, h2, h3⟩ => h.cell p h2 h3⟩
theorem sf_below {w w' : World} {base : Nat} {A : Option Addr} (h : Below w.heap.size w w') : Stays w w' (Sf base w A) (Sf base w' A) :=
  ⟨fun _ ⟨h1, h2, h3⟩ => ⟨h1, Nat.lt_of_lt_of_le h2 h.size, h3⟩, fun _ ⟨_, h2, _⟩ => h.cell h2⟩
theorem sf_fr {w : World} {base : Nat} {A : Option Addr} : ∀ b, Sf base w A b → Fr base w b := fun _ h => ⟨h.1, h.2.1⟩
theorem fr_lt {w : World} {base : Nat} : ∀ b, Fr base w b → b < w.heap.size := fun _ h => h.2
/-- Own rows. -/
theorem Oc.rcS {z : Nat} {w : World} {e : TypeId} {base n c : Nat} {A : Option Addr} {vs : List Value} (h : Oc z w e base A n c vs) : RcS z w (Fr base w) A n c vs := by
  have hr := h.rc
  refine ⟨hr.1, hr.2.1, hr.2.2.1, fun hn => ?_⟩
  obtain ⟨b, off, e, hb, hc⟩ := hr.2.2.2 hn
  exact ⟨b, off, e, oc_ob h b (by rw [e]; rfl), hc⟩
/-- A literal of one piece of one line: three new blocks. -/
theorem piece_lit (w : World) (s : List UInt8) (a : Nat) (A : Option Addr) (base : Nat) (te tr tp : TypeId) (hb : base ≤ w.heap.size) (hA : ∀ g, ob A = some g → g < w.heap.size) (w5 w6 w7 : World)
    (h5 : w5 = w.alloc (.cells #[.string ⟨s.toArray⟩] te)) (h6 : w6 = w5.alloc (.cells #[.slice (some ⟨w.heap.size, 0, none⟩) 1 1] tr)) (h7 : w7 = w6.alloc (.cells #[.int .i64 (a : Int), .slice (some ⟨w.heap.size + 1, 0, none⟩) 1 1] tp)) :
    w7.heap.size = w.heap.size + 3 ∧ Below w.heap.size w w7 ∧ Rc 2 w7 w7.heap.size (some ⟨w.heap.size + 2, 0, none⟩) 1 1 [.int .i64 (a : Int), .slice (some ⟨w.heap.size + 1, 0, none⟩) 1 1] ∧
    PrS w7 (Sf base w7 A) (.int .i64 (a : Int)) (.slice (some ⟨w.heap.size + 1, 0, none⟩) 1 1) (a, [[s]]) := by
  have z5 : w5.heap.size = w.heap.size + 1 := by rw [h5]; simp
  have z6 : w6.heap.size = w.heap.size + 2 := by rw [h6]; simp [z5]
  have z7 : w7.heap.size = w.heap.size + 3 := by rw [h7]; simp [z6]
  have b7 : Below w.heap.size w w7 := by
    rw [h7, h6, h5]
    exact (((Below.refl _ _).alloc (Nat.le_refl _) _).alloc (by simp) _).alloc (by simp; omega) _
  have g5 : w5.cell? ⟨w.heap.size, 0, none⟩ = some (.string ⟨s.toArray⟩) := by rw [h5]; simp
  have g6 : w6.cell? ⟨w.heap.size + 1, 0, none⟩ = some (.slice (some ⟨w.heap.size, 0, none⟩) 1 1) := by rw [h6, ← z5]; simp
  have g56 : w6.cell? ⟨w.heap.size, 0, none⟩ = some (.string ⟨s.toArray⟩) := by rw [h6, World.cell?_alloc_lt _ _ _ (by simp [z5])]; exact g5
  have g57 : w7.cell? ⟨w.heap.size, 0, none⟩ = some (.string ⟨s.toArray⟩) := by rw [h7, World.cell?_alloc_lt _ _ _ (by simp [z6])]; exact g56
  have g67 : w7.cell? ⟨w.heap.size + 1, 0, none⟩ = some (.slice (some ⟨w.heap.size, 0, none⟩) 1 1) := by rw [h7, World.cell?_alloc_lt _ _ _ (by simp [z6])]; exact g6
  have hne : ∀ k, some (w.heap.size + k) ≠ ob A := fun k e => by have := hA _ e.symm; omega
  refine ⟨z7, b7, ?_, rfl, _, _, _, rfl, [.slice (some ⟨w.heap.size, 0, none⟩) 1 1], ⟨rfl, Nat.le_refl _, by simp [maxLen], fun _ => ⟨_, _, rfl, ⟨by omega, by omega, hne 1⟩, fun j v hj => ?_⟩⟩, rfl, fun j v r hj hr => ?_⟩
  · have h := Rc.lit (z := 2) w6 tp #[.int .i64 (a : Int), .slice (some ⟨w.heap.size + 1, 0, none⟩) 1 1] 1 rfl (by simp [maxLen])
    rw [← h7, z6] at h
    exact h.more (by omega)
  · cases j with
    | zero => simp at hj; subst hj; exact g67
    | succ j => simp at hj
  · cases j with
    | zero =>
      simp at hj hr
      subst hj hr
      exact ⟨_, _, _, rfl, rfl, Nat.le_refl _, by simp [maxLen], fun _ => ⟨_, _, rfl, ⟨by omega, by omega, hne 0⟩, fun j v hj => by
        cases j with
        | zero => simp [lvs] at hj; subst hj; exact g57
        | succ j => simp [lvs] at hj⟩⟩
    | succ j => simp at hj
/-- A literal of one record of one text: two new blocks. -/
theorem rec_lit (w : World) (s : List UInt8) (A : Option Addr) (base : Nat) (te tr : TypeId) (hb : base ≤ w.heap.size) (hA : ∀ g, ob A = some g → g < w.heap.size) (w5 w6 : World)
    (h5 : w5 = w.alloc (.cells #[.string ⟨s.toArray⟩] te)) (h6 : w6 = w5.alloc (.cells #[.slice (some ⟨w.heap.size, 0, none⟩) 1 1] tr)) :
    w6.heap.size = w.heap.size + 2 ∧ Below w.heap.size w w6 ∧ Rc 1 w6 w6.heap.size (some ⟨w.heap.size + 1, 0, none⟩) 1 1 [.slice (some ⟨w.heap.size, 0, none⟩) 1 1] ∧
    RrS w6 (Sf base w6 A) (.slice (some ⟨w.heap.size, 0, none⟩) 1 1) [s] := by
  have z5 : w5.heap.size = w.heap.size + 1 := by rw [h5]; simp
  have z6 : w6.heap.size = w.heap.size + 2 := by rw [h6]; simp [z5]
  have b6 : Below w.heap.size w w6 := by
    rw [h6, h5]
    exact ((Below.refl _ _).alloc (Nat.le_refl _) _).alloc (by simp) _
  have g5 : w5.cell? ⟨w.heap.size, 0, none⟩ = some (.string ⟨s.toArray⟩) := by rw [h5]; simp
  have g56 : w6.cell? ⟨w.heap.size, 0, none⟩ = some (.string ⟨s.toArray⟩) := by rw [h6, World.cell?_alloc_lt _ _ _ (by simp [z5])]; exact g5
  refine ⟨z6, b6, ?_, _, _, _, rfl, rfl, Nat.le_refl _, by simp [maxLen], fun _ => ⟨_, _, rfl, ⟨by omega, by omega, fun e => by have := hA _ e.symm; omega⟩, fun j v hj => ?_⟩⟩
  · have h := Rc.lit (z := 1) w5 tr #[.slice (some ⟨w.heap.size, 0, none⟩) 1 1] 1 rfl (by simp [maxLen])
    rw [← h6, z5] at h
    exact h.more (by omega)
  · cases j with
    | zero => simp [lvs] at hj; subst hj; exact g56
    | succ j => simp [lvs] at hj

end Go.Proofs.YtkkjgiejnblopaaDoor
