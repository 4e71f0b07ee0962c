import Derived.Test.YtkekmokdlgocaaaGreatDoorJW16
import Derived.Test.YtkekmokdlgocaaaGreatDoorJW2
set_option maxRecDepth 100000
set_option maxHeartbeats 4000000
namespace Go.Proofs.YtkekmokdlgocaaaGreatDoor.Sq.Sm
theorem tk_app (l r : List UInt8) (a s : Nat) (h : Vm.tk l = (a, s, 0)) : Vm.tk (l ++ r) = (a, s, 0) := by
 have h1 := Vm.tk_only l (by rw [h])
 rw [h] at h1
 obtain ⟨h1, h2, h3⟩ := h1
 dsimp only at h1 h2 h3
 have h4 := Vm.tk_back a (l.drop s ++ r) h1
 rw [← List.append_assoc, ← h2, ← h3] at h4
 exact h4
theorem tk_take (l : List UInt8) (m : Nat) (hm : 10 ≤ m) (a s : Nat) (h : Vm.tk l = (a, s, 0)) : Vm.tk (l.take m) = (a, s, 0) := by
 have h1 := Vm.tk_only l (by rw [h])
 have h0 := Vm.tk_size l
 rw [h] at h1 h0
 obtain ⟨h1, h2, h3⟩ := h1
 dsimp only at h1 h2 h3 h0
 have h4 := Vm.tk_back a ((l.drop s).take (m - s)) h1
 have h5 : Vm.vb a ++ (l.drop s).take (m - s) = l.take m := by
  have e1 : (Vm.vb a).take m = Vm.vb a := List.take_of_length_le (by omega)
  conv => rhs; rw [h2, List.take_append, e1, ← h3]
 rw [h5, ← h3] at h4
 exact h4
theorem frameS_inv {l t : List UInt8} {s : Nat} (h : frameS l 1000 = (t, s, 0)) : ∃ a k, Vm.tk l = (a, k, 0) ∧ a ≤ 1000 ∧ k ≤ 10 ∧ k + a ≤ l.length ∧ t = (l.take (k + a)).drop k ∧ s = k + a ∧ 1 ≤ k := by
 rcases tk_cases l with ⟨a, k, htk, ha, hs, hs10⟩ | ⟨x, htk, hx⟩
 ·by_cases h1 : (1000 : Int) < 0 ∨ (1000 : Int) < (a : Int)
  ·rw [frameS_large l 1000 a k htk h1] at h; simp at h
  ·by_cases h2 : l.length - k < a
   ·rw [frameS_short l 1000 a k htk h1 h2] at h; simp at h
   ·rw [frameS_ok l 1000 a k htk h1 h2] at h
    simp only [Prod.mk.injEq, and_true] at h
    have h3 := Vm.tk_only l (by rw [htk])
    rw [htk] at h3
    have h4 := Vm.vb_pos a
    have h5 : k = (Vm.vb a).length := h3.2.2
    exact ⟨a, k, htk, by omega, hs10, by omega, h.1.symm, h.2.symm, by omega⟩
 ·rw [frameS_err l 1000 x htk hx] at h
  simp at h
  omega
theorem frameS_mk {l : List UInt8} {a k : Nat} (h : Vm.tk l = (a, k, 0)) (ha : a ≤ 1000) (hl : k + a ≤ l.length) : frameS l 1000 = ((l.take (k + a)).drop k, k + a, 0) :=
 frameS_ok l 1000 a k h (by omega) (by omega)
theorem frameS_app {l t : List UInt8} {s : Nat} (r : List UInt8) (h : frameS l 1000 = (t, s, 0)) : frameS (l ++ r) 1000 = (t, s, 0) := by
 obtain ⟨a, k, h1, h2, h3, h4, rfl, rfl, _⟩ := frameS_inv h
 rw [frameS_mk (tk_app l r a k h1) h2 (by simp; omega), List.take_append_of_le_length h4]
theorem frameS_take {l t : List UInt8} {s : Nat} (m : Nat) (hm : 1010 ≤ m) (h : frameS l 1000 = (t, s, 0)) : frameS (l.take m) 1000 = (t, s, 0) := by
 obtain ⟨a, k, h1, h2, h3, h4, rfl, rfl, _⟩ := frameS_inv h
 rw [frameS_mk (tk_take l m (by omega) a k h1) h2 (by rw [List.length_take]; omega), List.take_take, Nat.min_eq_left (by omega)]
theorem frameS_cut (l : List UInt8) (m : Nat) (hm : 1010 ≤ m) : (frameS (l.take m) 1000).2.2 = 0 ↔ (frameS l 1000).2.2 = 0 := by
 constructor
 ·intro h
  rcases h1 : frameS (l.take m) 1000 with ⟨a, s, x⟩
  rw [h1] at h
  dsimp only at h
  subst h
  have := frameS_app (l.drop m) h1
  rw [List.take_append_drop] at this
  rw [this]
 ·intro h
  rcases h1 : frameS l 1000 with ⟨a, s, x⟩
  rw [h1] at h
  dsimp only at h
  subst h
  rw [frameS_take m hm h1]
def ok3 {α : Type} (p : α × Nat × Nat) : Option (α × Nat) := if p.2.2 = 0 then some (p.1, p.2.1) else none
theorem ok3_some {α : Type} {p : α × Nat × Nat} {a : α} {s : Nat} : ok3 p = some (a, s) ↔ p = (a, s, 0) := by
 obtain ⟨x, y, z⟩ := p
 unfold ok3
 dsimp only
 split
 ·rename_i h; subst h; simp
 ·rename_i h; simp [h]
def rec1 (l : List UInt8) : Option (R × Nat) := (ok3 (frameS l 1000)).bind fun p => (ok3 (frameS (l.drop p.2) 1000)).map fun q => ([p.1, q.1], p.2 + q.2)
def recN : Nat → List UInt8 → Option (List R × List UInt8)
 | 0, l => some ([], l)
 | k + 1, l => (rec1 l).bind fun p => (recN k (l.drop p.2)).map fun q => (p.1 :: q.1, q.2)
def cont (l : List UInt8) : Option (List R) := (ok3 (Vm.tk l)).bind fun p => if 1 ≤ p.1 ∧ p.1 ≤ 100 then (recN p.1 (l.drop p.2)).bind fun q => if q.2 = [] then some q.1 else none else none
theorem rec1_inv {l : List UInt8} {r : R} {s : Nat} (h : rec1 l = some (r, s)) : ∃ t k u m, frameS l 1000 = (t, k, 0) ∧ frameS (l.drop k) 1000 = (u, m, 0) ∧ r = [t, u] ∧ s = k + m ∧ s ≤ l.length ∧ t.length ≤ 1000 ∧ u.length ≤ 1000 ∧ 1 ≤ k ∧ t.length + u.length + 2 ≤ s := by
 unfold rec1 at h
 obtain ⟨⟨t, k⟩, h1, h2⟩ := Option.bind_eq_some_iff.1 h
 obtain ⟨⟨u, m⟩, h3, h4⟩ := Option.map_eq_some_iff.1 h2
 have g1 := ok3_some.1 h1
 have g2 := ok3_some.1 h3
 simp only [Prod.mk.injEq] at h4
 obtain ⟨a, p, q1, q2, q3, q4, q5, q6, q7⟩ := frameS_inv g1
 obtain ⟨a', p', r1, r2, r3, r4, r5, r6, r7⟩ := frameS_inv g2
 dsimp only at r4
 rw [List.length_drop] at r4
 have e1 : t.length = a := by rw [q5, List.length_drop, List.length_take]; omega
 have e2 : u.length = a' := by
  rw [r5, List.length_drop, List.length_take, List.length_drop]
  dsimp only
  omega
 exact ⟨t, k, u, m, g1, g2, h4.1.symm, h4.2.symm, by omega, by omega, by omega, by omega, by omega⟩
theorem recN_len : ∀ (n : Nat) (l y : List UInt8) (rs : List R), recN n l = some (rs, y) → rs.length = n ∧ y.length ≤ l.length ∧ (∀ r ∈ rs, r.length = 2 ∧ ∀ s ∈ r, s.length ≤ 1000)
 | 0, l, y, rs, h => by simp only [recN, Option.some.injEq, Prod.mk.injEq] at h; obtain ⟨rfl,rfl⟩ := h; exact ⟨rfl, Nat.le_refl _, fun r hr => by cases hr⟩
 | n + 1, l, y, rs, h => by
  simp only [recN] at h
  obtain ⟨⟨r, s⟩, h1, h2⟩ := Option.bind_eq_some_iff.1 h
  obtain ⟨⟨q, z⟩, h3, h4⟩ := Option.map_eq_some_iff.1 h2
  simp only [Prod.mk.injEq] at h4
  obtain ⟨rfl,rfl⟩ := h4
  dsimp only at h3
  have ih := recN_len n _ z q h3
  obtain ⟨t, k, u, m, g1, g2, rfl, g4, g5, g6, g7, _⟩ := rec1_inv h1
  rw [List.length_drop] at ih
  refine ⟨by simp [ih.1], by omega, fun r hr => ?_⟩
  rcases List.mem_cons.1 hr with rfl | hr
  ·exact ⟨rfl, fun s hs => by simp at hs; rcases hs with rfl | rfl <;> assumption⟩
  ·exact ih.2.2 r hr
theorem cont_inv {l : List UInt8} {rs : List R} (h : cont l = some rs) : ∃ n s, Vm.tk l = (n, s, 0) ∧ 1 ≤ n ∧ n ≤ 100 ∧ recN n (l.drop s) = some (rs, []) ∧ s ≤ l.length := by
 unfold cont at h
 obtain ⟨⟨n, s⟩, h1, h2⟩ := Option.bind_eq_some_iff.1 h
 have g1 := ok3_some.1 h1
 dsimp only at h2
 split at h2
 ·rename_i h3
  obtain ⟨⟨q, z⟩, h4, h5⟩ := Option.bind_eq_some_iff.1 h2
  dsimp only at h5
  split at h5
  ·rename_i h6
   injection h5 with h5
   subst h5 h6
   have h0 := Vm.tk_size l
   rw [g1] at h0
   exact ⟨n, s, g1, h3.1, h3.2, h4, h0.1⟩
  ·cases h5
 ·cases h2
theorem cont_mk {l : List UInt8} {rs : List R} {n s : Nat} (h1 : Vm.tk l = (n, s, 0)) (h2 : 1 ≤ n) (h3 : n ≤ 100) (h4 : recN n (l.drop s) = some (rs, [])) : cont l = some rs := by
 unfold cont
 rw [ok3_some.2 h1]
 dsimp only [Option.bind_some]
 rw [if_pos ⟨h2, h3⟩, h4]
 rfl
theorem cont_len {l : List UInt8} {rs : List R} (h : cont l = some rs) : 1 ≤ rs.length ∧ rs.length ≤ 100 ∧ ∀ r ∈ rs, r.length = 2 ∧ ∀ s ∈ r, s.length ≤ 1000 := by
 obtain ⟨n, s, h1, h2, h3, h4, h5⟩ := cont_inv h
 have := recN_len n _ _ _ h4
 exact ⟨by omega, by omega, this.2.2⟩
def opn (l : List UInt8) : Option (List UInt8) := if (Cm.openS Cm.tab l).2 = 0 then some (Cm.openS Cm.tab l).1 else none
theorem opn_some {l c : List UInt8} (h : opn l = some c) : Cm.openS Cm.tab l = (c, 0) := by
 unfold opn at h
 split at h
 ·rename_i h1
  exact Prod.ext (Option.some.inj h) h1
 ·cases h
theorem opn_take {l c : List UInt8} (h : opn l = some c) : 4 ≤ l.length ∧ c = l.take (l.length - 4) := by
 have h1 := opn_some h
 by_cases h4 : l.length < 4
 ·rw [openS_short Cm.tab l Cm.tab_len h4] at h1; simp at h1
 ·by_cases h3 : l.drop (l.length - 4) = Cm.four (Cm.sum Cm.tab (l.take (l.length - 4)))
  ·rw [openS_ok Cm.tab l Cm.tab_len h4 h3] at h1
   simp only [Prod.mk.injEq] at h1
   exact ⟨by omega, h1.1.symm⟩
  ·rw [openS_no Cm.tab l Cm.tab_len h4 h3] at h1; simp at h1
def blk (x : List UInt8) : Option (List R) := if x.take 2 = [255, 83] then (une (x.drop 2)).bind fun s => (opn s).bind cont else none
theorem blk_mk (e : List UInt8) : blk (255 :: 83 :: e) = (une e).bind fun s => (opn s).bind cont := by unfold blk; rw [if_pos (show List.take 2 (255 :: 83 :: e) = [255, 83] from rfl)]; rfl
theorem blk_inv {x : List UInt8} {rs : List R} (h : blk x = some rs) : ∃ e s c, x = 255 :: 83 :: e ∧ une e = some s ∧ opn s = some c ∧ cont c = some rs := by
 unfold blk at h
 split at h
 ·rename_i h1
  obtain ⟨s, h2, h3⟩ := Option.bind_eq_some_iff.1 h
  obtain ⟨c, h4, h5⟩ := Option.bind_eq_some_iff.1 h3
  refine ⟨x.drop 2, s, c, ?_, h2, h4, h5⟩
  have := List.take_append_drop 2 x
  rw [h1] at this
  exact this.symm
 ·cases h
def segs (b : List UInt8) (t : Nat) : Nat → Nat → List (Nat × Nat)
 | 0, _ => []
 | k + 1, f => if f < t then (f, nxt b (f + 1)) :: segs b t k (nxt b (f + 1)) else []
def sg (b : List UInt8) (f t : Nat) : List (Nat × Nat) := segs b t (t - f) f
theorem nxt_gt (b : List UInt8) (f : Nat) : f + 1 ≤ nxt b (f + 1) := by unfold nxt; omega
theorem segs_more (b : List UInt8) (t : Nat) : ∀ (k m f : Nat), t - f ≤ k → t - f ≤ m → segs b t k f = segs b t m f
 | 0, m, f, h1, h2 => by
  cases m with
  | zero => rfl
  | succ m => rw [segs, segs, if_neg (by omega)]
 | k + 1, m, f, h1, h2 => by
  cases m with
  | zero => rw [segs, segs, if_neg (by omega)]
  | succ m =>
   rw [segs, segs]
   split
   ·have := nxt_gt b f
    rw [segs_more b t k m _ (by omega) (by omega)]
   ·rfl
theorem sg_step {b : List UInt8} {f t : Nat} (h : f < t) : sg b f t = (f, nxt b (f + 1)) :: sg b (nxt b (f + 1)) t := by
 have := nxt_gt b f
 unfold sg
 rw [show t - f = (t - f - 1) + 1 by omega, segs, if_pos h, segs_more b t (t - f - 1) (t - nxt b (f + 1)) _ (by omega) (by omega)]
theorem sg_end {b : List UInt8} {f t : Nat} (h : t ≤ f) : sg b f t = [] := by unfold sg; rw [show t - f = 0 by omega, segs]
def val (b : List UInt8) (p : Nat × Nat) : Option (List R) := blk ((b.take p.2).drop p.1)
def pcs (b : List UInt8) (L : List (Nat × Nat)) : List (Nat × List R) := L.map fun p => (p.1, (val b p).getD [])
def run (b : List UInt8) : List (Nat × Nat) → List (Nat × List R) × Nat
 | [] => ([], b.length)
 | p :: L => match val b p with
  | some l => ((p.1, l) :: (run b L).1, (run b L).2)
  | none => ([], p.1)
def hd : List UInt8 := [84, 83, 81, 49]
def ps (b : List UInt8) : List (Nat × List R) × Nat := if b.take 4 = hd then run b (sg b 4 b.length) else ([], 0)
def er (b : List UInt8) : Nat := if b.take 4 = hd ∧ (ps b).2 = b.length then 0 else 3
theorem run_some {b : List UInt8} {p : Nat × Nat} {l : List R} (L : List (Nat × Nat)) (h : val b p = some l) : run b (p :: L) = ((p.1, l) :: (run b L).1, (run b L).2) := by rw [run, h]
theorem run_none {b : List UInt8} {p : Nat × Nat} (L : List (Nat × Nat)) (h : val b p = none) : run b (p :: L) = ([], p.1) := by rw [run, h]
theorem run_app (b : List UInt8) : ∀ q L, (∀ p ∈ q, (val b p).isSome = true) → run b (q ++ L) = (pcs b q ++ (run b L).1, (run b L).2)
 | [], L, _ => rfl
 | p :: q, L, h => by
  obtain ⟨l, hl⟩ := Option.isSome_iff_exists.1 (h p (List.mem_cons_self ..))
  rw [List.cons_append, run_some _ hl, run_app b q L (fun x hx => h x (List.mem_cons_of_mem _ hx))]
  simp [pcs, hl]
theorem run_all (b : List UInt8) (q : List (Nat × Nat)) (h : ∀ p ∈ q, (val b p).isSome = true) : run b q = (pcs b q, b.length) := by
 have := run_app b q [] h
 rw [List.append_nil] at this
 rw [this]
 simp [run]
theorem run_stop (b : List UInt8) (q r : List (Nat × Nat)) (x : Nat × Nat) (h : ∀ p ∈ q, (val b p).isSome = true) (hx : val b x = none) : run b (q ++ x :: r) = (pcs b q, x.1) := by
 rw [run_app b q _ h, run_none _ hx]
 simp
theorem ps_head {b : List UInt8} (h : b.take 4 = hd) : ps b = run b (sg b 4 b.length) := if_pos h
theorem ps_not {b : List UInt8} (h : b.take 4 ≠ hd) : ps b = ([], 0) := if_neg h
theorem er_not {b : List UInt8} (h : b.take 4 ≠ hd) : er b = 3 := if_neg fun e => h e.1
theorem head_len {b : List UInt8} (h : b.take 4 = hd) : 4 ≤ b.length := by
 have := congrArg List.length h
 rw [List.length_take] at this
 have e : hd.length = 4 := rfl
 omega
def Ch (b : List UInt8) : Nat → Nat → List (Nat × Nat) → Prop
 | f, g, [] => f = g
 | f, g, p :: L => p.1 = f ∧ p.2 = nxt b (f + 1) ∧ (val b p).isSome = true ∧ f < b.length ∧ Ch b p.2 g L
theorem val_isM {b : List UInt8} {p : Nat × Nat} (h : (val b p).isSome = true) : p.1 + 2 ≤ p.2 ∧ isM (b.take p.2) p.1 := by
 obtain ⟨l, hl⟩ := Option.isSome_iff_exists.1 h
 obtain ⟨e, s, c, h1, _⟩ := blk_inv hl
 have h2 : ((b.take p.2).drop p.1)[0]? = some 255 := by rw [h1]; rfl
 have h3 : ((b.take p.2).drop p.1)[1]? = some 83 := by rw [h1]; rfl
 rw [List.getElem?_drop] at h2 h3
 have h4 : isM (b.take p.2) p.1 := ⟨h2, h3⟩
 have := isM_lt h4
 rw [List.length_take] at this
 exact ⟨by omega, h4⟩
theorem isM_of_take {b : List UInt8} {k j : Nat} (h : isM (b.take k) j) : isM b j := by
 have h1 := isM_lt h
 rw [List.length_take] at h1
 have h2 := h.1
 have h3 := h.2
 rw [List.getElem?_take, if_pos (by omega)] at h2 h3
 exact ⟨h2, h3⟩
theorem isM_take {b : List UInt8} {k j : Nat} (h : isM b j) (hk : j + 1 < k) : isM (b.take k) j := by
 refine ⟨?_, ?_⟩ <;> rw [List.getElem?_take, if_pos (by omega)]
 ·exact h.1
 ·exact h.2
theorem ch_le {b : List UInt8} : ∀ {L : List (Nat × Nat)} {f g : Nat}, Ch b f g L → f ≤ g ∧ (f ≤ b.length → g ≤ b.length)
 | [], f, g, h => by obtain rfl : f = g := h; exact ⟨Nat.le_refl _, id⟩
 | p :: L, f, g, h => by
  obtain ⟨h1, h2, h3, h4, h5⟩ := h
  have := ch_le h5
  have h6 := nxt_le (b := b) (k := f + 1) (by omega)
  rw [← h2] at h6
  exact ⟨by omega, fun _ => this.2 h6.2⟩
theorem run_ch (b : List UInt8) : ∀ (k f : Nat), f ≤ b.length → b.length - f ≤ k → ∃ L g, Ch b f g L ∧ run b (sg b f b.length) = (pcs b L, g) ∧ f ≤ g ∧ g ≤ b.length ∧ (g < b.length → val b (g, nxt b (g + 1)) = none)
 | 0, f, h1, h2 => ⟨[], f, rfl, by rw [sg_end (by omega), show f = b.length by omega]; rfl, Nat.le_refl _, h1, fun h => by omega⟩
 | k + 1, f, h1, h2 => by
  by_cases h : f < b.length
  ·have h3 := nxt_le (b := b) (k := f + 1) (by omega)
   rcases hv : val b (f, nxt b (f + 1)) with _ | l
   ·exact ⟨[], f, rfl, by rw [sg_step h, run_none _ hv]; rfl, Nat.le_refl _, h1, fun _ => hv⟩
   ·obtain ⟨L, g, g1, g2, g3, g4, g5⟩ := run_ch b k (nxt b (f + 1)) h3.2 (by omega)
    exact ⟨(f, nxt b (f + 1)) :: L, g, ⟨rfl, rfl, by rw [hv]; rfl, h, g1⟩, by rw [sg_step h, run_some _ hv, g2]; simp [pcs, hv], by omega, g4, g5⟩
  ·exact ⟨[], f, rfl, by rw [sg_end (by omega), show f = b.length by omega]; rfl, Nat.le_refl _, h1, fun h => by omega⟩
theorem ps_ch {b : List UInt8} (h : b.take 4 = hd) : ∃ L, Ch b 4 (ps b).2 L ∧ (ps b).1 = pcs b L ∧ 4 ≤ (ps b).2 ∧ (ps b).2 ≤ b.length := by
 obtain ⟨L, g, h1, h2, h3, h4, _⟩ := run_ch b _ 4 (head_len h) (Nat.le_refl _)
 rw [ps_head h, h2]
 exact ⟨L, h1, rfl, h3, h4⟩
theorem ps_good (b : List UInt8) : (ps b).2 ≤ b.length := by
 by_cases h : b.take 4 = hd
 ·obtain ⟨L, _, _, _, h4⟩ := ps_ch h; exact h4
 ·rw [ps_not h]; exact Nat.zero_le _
theorem ch_take {b : List UInt8} : ∀ {L : List (Nat × Nat)} {f g : Nat}, Ch b f g L → g ≤ b.length → Ch (b.take g) f g L ∧ (∀ p ∈ L, val (b.take g) p = val b p) ∧ (f < g → isM (b.take g) f)
 | [], f, g, h, hg => ⟨h, fun p hp => (by cases hp), fun h1 => by have : f = g := h; omega⟩
 | p :: L, f, g, h, hg => by
  obtain ⟨rfl, h2, h3, h4, h5⟩ := h
  have hle := (ch_le h5).1
  obtain ⟨i1, i2, i3⟩ := ch_take h5 hg
  obtain ⟨v1, v2⟩ := val_isM h3
  have hlen : (b.take g).length = g := by rw [List.length_take]; omega
  have hv : val (b.take g) p = val b p := by unfold val; rw [List.take_take, Nat.min_eq_left hle]
  have hn : p.2 = nxt (b.take g) (p.1 + 1) := by
   refine (nxt_eq (by omega) (by omega) (fun j h6 h7 h8 => ?_) (fun h6 => i3 (by omega))).symm
   exact nxt_no (b := b) h6 (by omega) (isM_of_take h8)
  refine ⟨⟨rfl, hn, by rw [hv]; exact h3, by omega, i1⟩, fun q hq => ?_, fun _ => isM_take (isM_of_take v2) (by omega)⟩
  rcases List.mem_cons.1 hq with rfl | hq
  ·exact hv
  ·exact i2 q hq
theorem ch_sg {b : List UInt8} : ∀ {L : List (Nat × Nat)} {f : Nat}, Ch b f b.length L → sg b f b.length = L
 | [], f, h => sg_end (by have : f = b.length := h; omega)
 | p :: L, f, h => by
  obtain ⟨rfl, h2, h3, h4, h5⟩ := h
  rw [sg_step h4, ← h2, ch_sg h5]
theorem ch_places {b : List UInt8} : ∀ {L : List (Nat × Nat)} {f g : Nat}, Ch b f g L → (∀ p ∈ L, f ≤ p.1 ∧ p.1 < g) ∧ L.Pairwise (fun p q => p.1 ≤ q.1)
 | [], f, g, h => ⟨fun p hp => (by cases hp), List.Pairwise.nil⟩
 | p :: L, f, g, h => by
  obtain ⟨rfl, h2, h3, h4, h5⟩ := h
  have hle := (ch_le h5).1
  have hg := nxt_gt b p.1
  obtain ⟨i1, i2⟩ := ch_places h5
  refine ⟨fun q hq => ?_, ?_⟩
  ·rcases List.mem_cons.1 hq with rfl | hq
   ·omega
   ·have := i1 q hq; omega
  ·rw [List.pairwise_cons]
   exact ⟨fun q hq => by have := i1 q hq; omega, i2⟩
theorem ch_filter {b : List UInt8} (a t : Nat) (ha : a ≤ b.length) (ht : t ≤ b.length) : ∀ {L : List (Nat × Nat)} {f : Nat}, f ≤ b.length → Ch b f b.length L → L.filter (fun p => decide (a ≤ p.1) && decide (p.1 < t)) = sg b (nxt b (max a f)) t
 | [], f, hf, h => by
  have e : f = b.length := h
  rw [show max a f = b.length by omega, nxt_end, sg_end ht]; rfl
 | p :: L, f, hf, h => by
  obtain ⟨rfl, h2, h3, h4, h5⟩ := h
  have hM := isM_of_take (val_isM h3).2
  have hn := nxt_le (b := b) (k := p.1 + 1) (by omega)
  rw [← h2] at hn
  have ih := ch_filter a t ha ht hn.2 h5
  rw [List.filter_cons]
  by_cases h6 : a ≤ p.1
  ·rw [show max a p.1 = p.1 by omega, nxt_self hM]
   rw [show max a p.2 = p.2 by omega] at ih
   have e : nxt b p.2 = p.2 := by
    rcases Nat.lt_or_ge p.2 b.length with h7 | h7
    ·exact nxt_self (by have := nxt_at (b := b) (k := p.1 + 1) (by omega); rwa [← h2] at this)
    ·rw [show p.2 = b.length by omega, nxt_end]
   rw [e] at ih
   by_cases h7 : p.1 < t
   ·rw [if_pos (by simp [h6, h7]), sg_step h7, ih, ← h2]
   ·rw [if_neg (by simp [h7]), ih, sg_end (by omega), sg_end (by omega)]
  ·rw [if_neg (by simp [h6]), ih, show max a p.1 = a by omega]
   congr 1
   rcases Nat.lt_or_ge a p.2 with h7 | h7
   ·rw [show max a p.2 = p.2 by omega]
    have e : nxt b p.2 = p.2 := by
     rcases Nat.lt_or_ge p.2 b.length with h8 | h8
     ·exact nxt_self (by have := nxt_at (b := b) (k := p.1 + 1) (by omega); rwa [← h2] at this)
     ·rw [show p.2 = b.length by omega, nxt_end]
    rw [e]
    refine (nxt_eq (by omega) hn.2 (fun j h8 h9 => nxt_no (b := b) (k := p.1 + 1) (by omega) (by omega)) (fun h8 => ?_)).symm
    have := nxt_at (b := b) (k := p.1 + 1) (by omega)
    rwa [← h2] at this
   ·rw [show max a p.2 = a by omega]
theorem ch_some {b : List UInt8} : ∀ {L : List (Nat × Nat)} {f g : Nat}, Ch b f g L → ∀ p ∈ L, (val b p).isSome = true
 | [], f, g, h, p, hp => by cases hp
 | q :: L, f, g, h, p, hp => by
  obtain ⟨_, _, h3, _, h5⟩ := h
  rcases List.mem_cons.1 hp with rfl | hp
  ·exact h3
  ·exact ch_some h5 p hp
theorem head_no {b : List UInt8} (h : b.take 4 = hd) (j : Nat) (hj : j < 4) : ¬ isM b j := fun h1 => by
 have h2 : (b.take 4)[j]? = some 255 := by rw [List.getElem?_take, if_pos hj]; exact h1.1
 rw [h] at h2
 match j, hj with
 | 0, _ => simp [hd] at h2
 | 1, _ => simp [hd] at h2
 | 2, _ => simp [hd] at h2
 | 3, _ => simp [hd] at h2
theorem head_nxt {b : List UInt8} {a : Nat} (h : b.take 4 = hd) (ha : a ≤ 4) : nxt b a = nxt b 4 := by
 have hl := head_len h
 have h1 := nxt_le (b := b) (k := 4) hl
 refine nxt_eq (by omega) h1.2 (fun j h2 h3 => ?_) (fun h2 => nxt_at h2)
 rcases Nat.lt_or_ge j 4 with h4 | h4
 ·exact head_no h j h4
 ·exact nxt_no h4 h3
theorem start_eq {b : List UInt8} {a t : Nat} (ht : t ≤ b.length) (hat : a ≤ t ∨ t = b.length) : sg b (nxt (b.take (min (t + 1) b.length)) (clamp (a : Int) (min (t + 1) b.length))) t = sg b (nxt b (min a b.length)) t := by
 obtain ⟨m, hm⟩ : ∃ m, m = min (t + 1) b.length := ⟨_, rfl⟩
 rw [← hm]
 have hlen : (b.take m).length = m := by rw [List.length_take]; omega
 by_cases h : a ≤ m
 ·rw [clamp_at a m h, show min a b.length = a by omega]
  have h1 := nxt_le (b := b.take m) (k := a) (by omega)
  have h2 := nxt_le (b := b) (k := a) (by omega)
  by_cases hy : nxt b a < t
  ·have hM := nxt_at (b := b) (k := a) (by omega)
   have := isM_lt hM
   rw [nxt_eq (b := b.take m) (m := nxt b a) h2.1 (by omega) (fun j h3 h4 h5 => nxt_no h3 h4 (isM_of_take h5)) (fun _ => isM_take hM (by omega))]
  ·rw [sg_end (f := nxt b a) (by omega)]
   refine sg_end ?_
   rcases Nat.lt_or_ge (nxt (b.take m) a) t with h3 | h3
   ·have hM := isM_of_take (nxt_at (b := b.take m) (k := a) (by omega))
    exact absurd hM (nxt_no h1.1 (by omega))
   ·exact h3
 ·have e : t = b.length := by omega
  have e2 : m = b.length := by omega
  have hc : clamp (a : Int) m = m := by unfold clamp; omega
  have h1 := nxt_end (b.take m)
  rw [hlen] at h1
  rw [hc, h1, show min a b.length = b.length by omega, nxt_end, e2]
def rv (b : List UInt8) (a t : Nat) : List R := (sg b (nxt (b.take (min (t + 1) b.length)) (clamp (a : Int) (min (t + 1) b.length))) t).flatMap fun p => (val b p).getD []
theorem rv_eq (b : List UInt8) (a t : Nat) (hat : a ≤ t) (_ht : t ≤ b.length) :
  rv (b.take (ps b).2) a (min t (ps b).2) = Tm.all (Tm.btw a t (ps b).1) ∧ ∀ p ∈ sg (b.take (ps b).2) (nxt ((b.take (ps b).2).take (min (min t (ps b).2 + 1) (ps b).2)) (clamp (a : Int) (min (min t (ps b).2 + 1) (ps b).2))) (min t (ps b).2), (val (b.take (ps b).2) p).isSome = true := by
 have hg := ps_good b
 by_cases h : b.take 4 = hd
 ·obtain ⟨L, h1, h2, h3, h4⟩ := ps_ch h
  obtain ⟨g, hge⟩ : ∃ g, g = (ps b).2 := ⟨_, rfl⟩
  rw [h2]
  rw [← hge] at h1 h3 h4 hg ⊢
  obtain ⟨c1, c2, _⟩ := ch_take h1 h4
  have hlen : (b.take g).length = g := by rw [List.length_take]; omega
  have c3 : Ch (b.take g) 4 (b.take g).length L := by rw [hlen]; exact c1
  have hf := ch_filter (b := b.take g) (min a g) (min t g) (by omega) (by omega) (by omega) c3
  have hs := start_eq (b := b.take g) (a := a) (t := min t g) (by omega) (by omega)
  rw [hlen] at hs
  have hmx : nxt (b.take g) (max (min a g) 4) = nxt (b.take g) (min a g) := by
   rcases Nat.lt_or_ge (min a g) 4 with h5 | h5
   ·rw [show max (min a g) 4 = 4 by omega]
    exact (head_nxt (by rw [List.take_take, Nat.min_eq_left h3]; exact h) (by omega)).symm
   ·rw [show max (min a g) 4 = min a g by omega]
  rw [hmx, ← hs] at hf
  have hL : ∀ p ∈ L, (val (b.take g) p).isSome = true := ch_some c1
  constructor
  ·unfold rv
   rw [hlen, ← hf]
   have hpl := (ch_places h1).1
   clear hf hs hmx c3 c1 h1 hL h2
   revert c2 hpl
   induction L with
   | nil => intro _ _; rfl
   | cons p L ih =>
    intro c2 hpl
    have ih := ih (fun q hq => c2 q (List.mem_cons_of_mem _ hq)) (fun q hq => hpl q (List.mem_cons_of_mem _ hq))
    have e1 := c2 p (List.mem_cons_self ..)
    have e2 := hpl p (List.mem_cons_self ..)
    unfold Tm.btw pcs at ih ⊢
    rw [List.map_cons, List.filter_cons, List.filter_cons]
    by_cases h6 : a ≤ p.1 ∧ p.1 < t
    ·rw [if_pos (by simp; omega), if_pos (by simp [h6]), List.flatMap_cons, ih, e1]
     rfl
    ·rw [if_neg (by simp; omega), if_neg (by simpa using h6), ih]
  ·intro p hp
   rw [← hf] at hp
   exact hL p (List.mem_filter.1 hp).1
 ·rw [ps_not h]
  have e : ∀ x, sg (b.take 0) x (min t 0) = [] := fun x => sg_end (by omega)
  refine ⟨?_, fun p hp => ?_⟩
  ·unfold rv
   rw [e]
   rfl
  ·dsimp only at hp
   rw [e] at hp
   cases hp
theorem ch_len {b : List UInt8} : ∀ {L : List (Nat × Nat)} {f g : Nat}, Ch b f g L → L.length ≤ g - f
 | [], f, g, h => by simp
 | p :: L, f, g, h => by
  obtain ⟨rfl, h2, h3, h4, h5⟩ := h
  have hle := (ch_le h5).1
  have hg := nxt_gt b p.1
  have ih := ch_len h5
  rw [List.length_cons]
  omega
theorem ps_facts (b : List UInt8) : (ps b).1.Pairwise (fun p q => p.1 ≤ q.1) ∧ (∀ p ∈ (ps b).1, p.1 < b.length) ∧ (ps b).1.length ≤ b.length ∧ ∀ p ∈ (ps b).1, p.2.length ≤ 100 ∧ ∀ r ∈ p.2, r.length = 2 := by
 by_cases h : b.take 4 = hd
 ·obtain ⟨L, hch, hp, hg1, hg2⟩ := ps_ch h
  rw [hp]
  obtain ⟨i1, i2⟩ := ch_places hch
  refine ⟨?_, ?_, ?_, ?_⟩
  ·unfold pcs
   rw [List.pairwise_map]
   exact i2
  ·intro p hp
   obtain ⟨q, hq, rfl⟩ := List.mem_map.1 hp
   have := i1 q hq
   show q.1 < _
   omega
  ·have := ch_len hch
   simp only [pcs, List.length_map]
   omega
  ·intro p hp
   obtain ⟨q, hq, rfl⟩ := List.mem_map.1 hp
   obtain ⟨rs, hrs⟩ := Option.isSome_iff_exists.1 (ch_some hch q hq)
   obtain ⟨e, s, c, _, _, _, h4⟩ := blk_inv hrs
   have := cont_len h4
   dsimp only
   rw [hrs]
   exact ⟨this.2.1, fun r hr => (this.2.2 r hr).1⟩
 ·rw [ps_not h]
  exact ⟨List.Pairwise.nil, by simp, Nat.zero_le _, by simp⟩
theorem all_small : ∀ (l : List (Nat × List R)), (∀ p ∈ l, p.2.length ≤ 100) → (Tm.all l).length ≤ 100 * l.length
 | [], _ => by simp [Tm.all]
 | p :: l, h => by
  have ih := all_small l fun q hq => h q (List.mem_cons_of_mem _ hq)
  have h1 := h p (List.mem_cons_self ..)
  have e : Tm.all (p :: l) = p.2 ++ Tm.all l := rfl
  rw [e, List.length_append, List.length_cons]
  omega
theorem ps_all (b : List UInt8) : (Tm.all (ps b).1).length ≤ 100 * b.length ∧ ∀ r ∈ Tm.all (ps b).1, r.length ≤ 1000000 := by
 obtain ⟨_, _, h3, h4⟩ := ps_facts b
 have h := all_small _ fun p hp => (h4 p hp).1
 refine ⟨by omega, fun r hr => ?_⟩
 obtain ⟨p, hp, hr⟩ := List.mem_flatMap.1 hr
 have := (h4 p hp).2 r hr
 omega
theorem ch_run {b : List UInt8} : ∀ {L : List (Nat × Nat)} {f g : Nat}, Ch b f g L → g < b.length → sg b f b.length = L ++ sg b g b.length
 | [], f, g, h, hg => by
  have e : f = g := h
  subst e; rfl
 | p :: L, f, g, h, hg => by
  obtain ⟨h1, h2, h3, h4, h5⟩ := h
  have hp : p = (f, nxt b (f + 1)) := Prod.ext h1 h2
  rw [sg_step h4, ← h2, ch_run h5 hg, hp]
  rfl
end Go.Proofs.YtkekmokdlgocaaaGreatDoor.Sq.Sm
