/-
  The live question of seq's statements.
-/
import Derived.Test.YtddnlimkaagpdaaDoorUk
import Derived.Test.YtddnlimkaagpdaaDoorUc
import Derived.Test.YtddnlimkaagpdaaDoorSq
import Derived.BigQuiet
namespace Go.Proofs.YtddnlimkaagpdaaDoor
open Go.RowKit Go.Shelf

/-- The records of a chunk. -/
def chk (l : List Sm.R) (p : Nat × Nat) : List Sm.R := (l.take p.2).drop p.1
theorem RL.chunk {w : World} {B n c i e : Nat} {A : Option Addr} {l : List Sm.R} (h : RL w B A n c l) (hi : i ≤ e) (he : e ≤ n) : RL w B (cutA A e i) (e - i) (e - i) (chk l (i, e)) := by
  have hl := h.len
  obtain ⟨vs, h1, h2⟩ := h
  have hvl := h1.len1
  refine ⟨(vs.take e).drop i, ⟨by rw [List.length_drop, List.length_take]; omega, Nat.le_refl _, by have := h1.2.1; have := h1.2.2.1; omega, fun hp => ?_⟩, by rw [List.length_drop, List.length_take]; unfold chk; rw [List.length_drop, List.length_take]; dsimp only; omega, fun j v r g1 g2 => ?_⟩
  · obtain ⟨b, off, rfl, hb, hc⟩ := h1.2.2.2 (by omega)
    refine ⟨b, off + i, ?_, hb, fun j v hj => ?_⟩
    · unfold cutA
      rw [if_neg (by omega)]
      by_cases h0 : i = 0
      · subst h0; simp [Addr.add]
      · simp [Addr.add, h0]
    · rw [List.getElem?_drop, List.getElem?_take] at hj
      split at hj
      · rw [Nat.add_assoc]; exact hc _ v hj
      · cases hj
  · unfold chk at g2
    rw [List.getElem?_drop, List.getElem?_take] at g1 g2
    dsimp only at g2
    split at g1
    · rw [if_pos (by assumption)] at g2
      exact h2.2 _ v r g1 g2
    · cases g1
/-- What is written for chunks. -/
def wck (l : List Sm.R) (L : List (Nat × Nat)) : List UInt8 := L.flatMap fun p => Sm.blkw (chk l p)
theorem wck_snoc (l : List Sm.R) (L : List (Nat × Nat)) (p : Nat × Nat) : wck l (L ++ [p]) = wck l L ++ Sm.blkw (chk l p) := by simp [wck]
theorem chk_three (l : List Sm.R) (i : Nat) : chk l (i, min (i + 3) l.length) = (l.drop i).take 3 := by
  unfold chk
  dsimp only
  rw [List.drop_take]
  by_cases h : i + 3 ≤ l.length
  · rw [Nat.min_eq_left h]; congr 1; omega
  · rw [Nat.min_eq_right (by omega), List.take_of_length_le (by rw [List.length_drop]; omega), List.take_of_length_le (by rw [List.length_drop]; omega)]
theorem wck_all (l : List Sm.R) : ∀ (k i : Nat), l.length - i ≤ k → wck l (ck l.length i) = Sm.wch k (l.drop i)
  | 0, i, h => by rw [ck_end (by omega), List.drop_of_length_le (by omega), Sm.wch_nil]; rfl
  | k + 1, i, h => by
    by_cases hi : i < l.length
    · have hne : l.drop i ≠ [] := fun e => by have := congrArg List.length e; rw [List.length_drop] at this; simp at this; omega
      rw [ck_step hi, Sm.wch_step hne, List.drop_drop]
      have ih := wck_all l k (i + 3) (by omega)
      show Sm.blkw (chk l (i, min (i + 3) l.length)) ++ wck l (ck l.length (i + 3)) = _
      rw [ih, chk_three]
    · rw [ck_end (by omega), List.drop_of_length_le (by omega), Sm.wch_nil]; rfl
theorem wck_wr (l : List Sm.R) : Sm.hd ++ wck l (ck l.length 0) = Sm.wr l := by
  rw [wck_all l l.length 0 (by omega), List.drop_zero]; rfl
theorem chk_all (l : List Sm.R) : ∀ (k i : Nat), l.length - i ≤ k → (∀ p ∈ ck l.length i, (chk l p).all Sm.okR = true) → (l.drop i).all Sm.okR = true
  | 0, i, h, _ => by rw [List.drop_of_length_le (by omega)]; rfl
  | k + 1, i, h, hall => by
    by_cases hi : i < l.length
    · rw [ck_step hi] at hall
      have h1 := hall _ (List.mem_cons_self ..)
      have ih := chk_all l k (i + 3) (by omega) (fun p hp => hall p (List.mem_cons_of_mem _ hp))
      rw [chk_three] at h1
      rw [← List.drop_drop] at ih
      exact (Sm.all_take_drop 3).2 ⟨h1, ih⟩
    · rw [List.drop_of_length_le (by omega)]; rfl
theorem chk_bad (l : List Sm.R) (p : Nat × Nat) (h : (chk l p).all Sm.okR = false) : l.all Sm.okR = false := by
  rw [List.all_eq_false] at h ⊢
  obtain ⟨r, hr, h2⟩ := h
  exact ⟨r, List.mem_of_mem_take (List.mem_of_mem_drop hr), h2⟩
/-- Fresh bytes that may be written to. -/
def Wt (w : World) (base : Nat) (A : Option Addr) (n c : Nat) (l : List UInt8) : Prop :=
  Rb w w.heap.size A n c l ∧ (0 < n → ∃ g, A = some ⟨g, 0, none⟩ ∧ base ≤ g ∧ g < w.heap.size ∧ ∀ j, j < n → w.frozen? ⟨g, j, none⟩ = false)
theorem Own.wt {w : World} {e : TypeId} {base c : Nat} {A : Option Addr} {l : List UInt8} (h : Own w e base A c l) : Wt w base A l.length c l :=
  ⟨h.rb, fun hn => by
    obtain ⟨g, rfl, hb⟩ := h.at_base hn
    exact ⟨g, rfl, hb, (own_ob h g rfl).2, fun j _ => Own.frozenAt h j⟩⟩
/-- What Write comes to. -/
def RetW (w : World) (p : List UInt8 × Nat) (e : Ending) (w' : World) : Prop :=
  ∃ A c, e = .returned (.tuple #[.slice A p.1.length c, .int .i64 (p.2 : Int)]) ∧ Wt w' w.heap.size A p.1.length c p.1 ∧ Below w.heap.size w w'
/-- What the loop of Write carries. -/
def WrI (l : List Sm.R) (n s ob n₀ : Nat) (wL : World) (pre : List (Bk n)) (W : World) : Prop :=
  ∃ A c L, Boxed W ob 22 (.slice A (List.length L) c) ∧ ((pre = [] ∧ A = some ⟨s + 1 + 1, 0, none⟩ ∧ c = 4) ∨ Own W 5 n₀ A c L) ∧ L = Sm.hd ++ wck l (pre.map (·.1)) ∧ L.length ≤ 4 + 602000 * pre.length ∧
    W.heap[s + 1 + 1]? = some (.cells #[.int .u8 84, .int .u8 83, .int .u8 81, .int .u8 49] 5 (4, 5)) ∧ But s (ob + 1) n₀ wL W ∧ n₀ ≤ W.heap.size ∧
    Boxed W s 22 (.slice none 0 0) ∧ Boxed W (s + 1) 25 (.int .i64 0) ∧ ∀ p ∈ pre, (chk l p.1).all Sm.okR = true
def WrX (l : List Sm.R) (n s ob n₀ : Nat) (wL : World) (j : Code) (pre : List (Bk n)) (W : World) : Prop :=
  j = .ret ∧ (∃ p ∈ pre, (chk l p.1).all Sm.okR = false) ∧ But s (ob + 1) n₀ wL W ∧ n₀ ≤ W.heap.size ∧ Boxed W s 22 (.slice none 0 0) ∧ Boxed W (s + 1) 25 (.int .i64 10)
theorem heap_turn {W W' : World} {row : Option Nat} {b : Nat} {o : Obj} (h : W.heap[b]? = some o) (hg : W.grownBy W' row) (hne : ∀ r, row = some r → b ≠ r) : W'.heap[b]? = some o :=
  (hg.block b (Array.getElem?_eq_some_iff.1 h).1 (fun e => hne b e.symm rfl)).trans h
theorem wrI_own (l : List Sm.R) (n s ob n₀ : Nat) (wL : World) (hlo : ob + 1 ≤ n₀) (hsb : s + 3 ≤ ob) : OwnFrom n₀ (WrI l n s ob n₀ wL) := by
  rintro pre W W' row ⟨A, c, L, h1, h2, h3, h3l, h4, h5, h6, h7, h8, h9⟩ hg hr
  have hk : ∀ {b : Nat} {t : TypeId} {v : Value}, Boxed W b t v → b < n₀ → Boxed W' b t v := fun {b} _ _ h hb => h.kept hg (fun e => by have := (hr b e.symm).1; omega)
  refine ⟨A, c, L, hk h1 (by omega), ?_, h3, h3l, heap_turn h4 hg (fun r e => by have := (hr r e).1; omega), but_turn h5 hg (fun r e => (hr r e).1) h6, Nat.le_trans h6 hg.size, hk h7 (by omega), hk h8 (by omega), h9⟩
  rcases h2 with h2 | h2
  · exact .inl h2
  · exact .inr (oc_turn (z := 1) (vs := bvs L) h2 hg (fun r e => (hr r e).2))
theorem wrX_own (l : List Sm.R) (n s ob n₀ : Nat) (wL : World) (hlo : ob + 1 ≤ n₀) (hsb : s + 3 ≤ ob) (j : Code) : OwnFrom n₀ (WrX l n s ob n₀ wL j) := by
  rintro pre W W' row ⟨hj, h1, h5, h6, h7, h8⟩ hg hr
  have hk : ∀ {b : Nat} {t : TypeId} {v : Value}, Boxed W b t v → b < n₀ → Boxed W' b t v := fun {b} _ _ h hb => h.kept hg (fun e => by have := (hr b e.symm).1; omega)
  exact ⟨hj, h1, but_turn h5 hg (fun r e => (hr r e).1) h6, Nat.le_trans h6 hg.size, hk h7 (by omega), hk h8 (by omega)⟩
end Go.Proofs.YtddnlimkaagpdaaDoor

namespace Go.Proofs.YtddnlimkaagpdaaDoor
open Go.RowKit Go.Shelf
attribute [local go_sem] Oper.semAt_some

set_option maxRecDepth 100000 in
set_option maxHeartbeats 4000000 in
/-- Write -/
theorem write_c (A : Option Addr) (n c : Nat) (l : List Sm.R) (w : World) (hr : RL w w.heap.size A n c l) (hn : n ≤ 150) (hnc : n ≤ c) (hx : Mx w) :
    Calls Tryd.prog 15 #[.slice A n c] w (RetW w (Sm.wrS l)) := by
  have hl := hr.len
  have hw0 := hx.2
  obtain ⟨w1, hw1⟩ : ∃ w1, w1 = (w.alloc (.cells #[.slice none 0 0] 22)).alloc (.cells #[.int .i64 0] 25) := ⟨_, rfl⟩
  have z1 : w1.heap.size = w.heap.size + 1 + 1 := by rw [hw1]; simp
  have b1 : Below w.heap.size w w1 := by rw [hw1]; exact ((Below.refl _ _).alloc (Nat.le_refl _) _).alloc (by simp) _
  have c1 : Boxed w1 w.heap.size 22 (.slice none 0 0) := by rw [hw1]; exact (Boxed.new w _ _).alloc _
  have c2 : Boxed w1 (w.heap.size + 1) 25 (.int .i64 0) := by
    rw [hw1]
    have := Boxed.new (w.alloc (.cells #[.slice none 0 0] 22)) 25 (.int .i64 0)
    rwa [World.size_alloc] at this
  obtain ⟨w2, hw2⟩ : ∃ w2, w2 = w1.alloc (.cells #[.int .u8 84, .int .u8 83, .int .u8 81, .int .u8 49] 5 (4, 5)) := ⟨_, rfl⟩
  have z2 : w2.heap.size = w1.heap.size + 1 := by rw [hw2]; simp
  have b2 : Below w1.heap.size w1 w2 := by rw [hw2]; exact (Below.refl _ _).alloc (Nat.le_refl _) _
  have hk2 : w2.heap[w1.heap.size]? = some (.cells #[.int .u8 84, .int .u8 83, .int .u8 81, .int .u8 49] 5 (4, 5)) := by rw [hw2]; exact World.alloc_heap_new w1 _
  have hcv : (convert 22 22 (.slice (some ⟨w1.heap.size, 0, none⟩) 4 4)).run Tryd.prog (w1.alloc (.cells #[.int .u8 84, .int .u8 83, .int .u8 81, .int .u8 49] 5)) = .ok (.slice (some ⟨w1.heap.size, 0, none⟩) 4 4) w2 := by
    rw [hw2]; exact Lib.run_convert_bytes_const (P := Tryd.prog) w1 22 5 #[.int .u8 84, .int .u8 83, .int .u8 81, .int .u8 49] 4 4 Tryd.underlying22 Tryd.underlying5
  rw [z1] at hcv hk2
  rw [hw1] at hcv
  have q2 : w.heap.size + 3 ≤ w2.heap.size := by omega
  have b02 : Below w.heap.size w w2 := b1.trans (b2.mono (by omega))
  have Hr := Lib.hid hr; have Hx := Lib.hid hx; have Hl := Lib.hid hl; have B02 := Lib.hid b02; have C1 := Lib.hid (boxed_below c1 b2 (by omega)); have C2 := Lib.hid (boxed_below c2 b2 (by omega)); have K2 := Lib.hid hk2
  clear hr hx hl b1 b2 b02 hw1 hw2 c1 c2 z1 z2 hk2
  refine (callsIn_wide (n := 9)).1 ?_
  refine callsIn_of_wp_marks Tryd.func15 rfl trivial ?_ rfl
  simp only [Tryd.ntmps15, List.size_toArray, List.length_cons, List.length_nil, Nat.reduceAdd, Nat.reduceSub, Array.replicate_succ, Array.replicate_zero, List.push_toArray, List.append_toArray, List.nil_append, List.cons_append]
  gi_wp2
  obtain ⟨w3, hw3⟩ : ∃ w3, w3 = w2.alloc (.cells #[.slice (some ⟨w.heap.size + 1 + 1, 0, none⟩) 4 4] 22) := ⟨_, rfl⟩
  have b23 : Below w2.heap.size w2 w3 := by rw [hw3]; exact (Below.refl _ _).alloc (Nat.le_refl _) _
  have z3 : w3.heap.size = w2.heap.size + 1 := by rw [hw3]; simp
  have hl3 : Boxed w3 w2.heap.size 22 (.slice (some ⟨w.heap.size + 1 + 1, 0, none⟩) 4 4) := by rw [hw3]; exact Boxed.new w2 _ _
  rw [← hw3]
  clear hw3 hcv
  refine ⟨trivial, (callsIn_wide.2 (table_c w3)).mono ?_⟩
  rintro e w4 ⟨rfl, ht4, hb4, hz4⟩
  have HL3 := Lib.hid (boxed_below hl3 hb4 (by omega))
  rw [z3] at ht4 hb4
  rw [z3]
  have HT4 := Lib.hid ht4; have HB4 := Lib.hid hb4
  clear hl3 ht4
  have q4 : w2.heap.size + 1 < w4.heap.size := by omega
  clear hz4 z3 hb4
  gi_wp2
  obtain ⟨w5, hw5⟩ : ∃ w5, w5 = w4.alloc (.cells #[.slice (some ⟨w2.heap.size + 1, 0, none⟩) 256 256] 56) := ⟨_, rfl⟩
  have ht5 : Boxed w5 w4.heap.size 56 (.slice (some ⟨w2.heap.size + 1, 0, none⟩) 256 256) := by rw [hw5]; exact Boxed.new w4 _ _
  have b45 : Below w4.heap.size w4 w5 := by rw [hw5]; exact (Below.refl _ _).alloc (Nat.le_refl _) _
  have z5 : w5.heap.size = w4.heap.size + 1 := by rw [hw5]; simp
  rw [← hw5]
  clear hw5
  refine ⟨trivial, (callsIn_wide.2 (chunk_c A n c w5)).mono ?_⟩
  rintro e w6 ⟨rfl, hw6⟩
  have z6 : w6.heap.size = w5.heap.size + 2 := by rw [hw6]; simp
  have b56 : Below w5.heap.size w5 w6 := by rw [hw6]; exact ((Below.refl _ _).alloc (Nat.le_refl _) _).alloc (by simp) _
  have hBs : w6.cell? ⟨w5.heap.size, 0, none⟩ = some (.slice A n c) := by
    rw [hw6, World.cell?_alloc_lt _ _ _ (by simp)]; simp
  have hBn : w6.cell? ⟨w5.heap.size + 1, 0, none⟩ = some (.int .i64 3) := by
    rw [hw6]
    have := (Boxed.new (w5.alloc (.cells #[.slice A n c] 28)) 3 (.int .i64 3)).cell
    rwa [World.size_alloc] at this
  clear hw6
  have b26 : Below (w2.heap.size + 1) w4 w6 := (b45.trans (b56.mono (by omega))).mono (by omega)
  have b46 : Below w4.heap.size w4 w6 := b45.trans (b56.mono (by omega))
  have b36 : Below (w2.heap.size + 1) w3 w6 := HB4.out.trans b26
  have b06 : Below w.heap.size w w6 := (B02.out.trans (b23.mono (by omega))).trans (b36.mono (by omega))
  have hl6 : Boxed w6 w2.heap.size 22 (.slice (some ⟨w.heap.size + 1 + 1, 0, none⟩) 4 4) := boxed_below HL3.out b46 (by omega)
  have ht6 : Boxed w6 w4.heap.size 56 (.slice (some ⟨w2.heap.size + 1, 0, none⟩) 256 256) := boxed_below ht5 b56 (by omega)
  have hT6 : Rn w6 w4.heap.size (some ⟨w2.heap.size + 1, 0, none⟩) 256 256 Cm.tab := HT4.out.below b46
  have b2to6 : Below w2.heap.size w2 w6 := b23.trans (b36.mono (by omega))
  have c1 := boxed_below C1.out b2to6 (by omega)
  have c2 := boxed_below C2.out b2to6 (by omega)
  have hk6 : w6.heap[w.heap.size + 1 + 1]? = some (.cells #[.int .u8 84, .int .u8 83, .int .u8 81, .int .u8 49] 5 (4, 5)) := (b2to6.block _ (by omega)).trans K2.out
  have q6 : w5.heap.size + 2 ≤ w6.heap.size := by omega
  have q5 : w4.heap.size + 1 ≤ w5.heap.size := by omega
  clear z6 z5 b56 b45 b23 b2to6
  gi_wp2
  refine wpIn_rangeFunc_ownG rfl (by omega) (gf := 48) (lb := #[.pointer (some ⟨w5.heap.size, 0, none⟩), .pointer (some ⟨w5.heap.size + 1, 0, none⟩)]) rfl trivial
    (enters_of Tryd.func48 (by kernel_rfl) rfl)
    (chunk_stops A n c w.heap.size (w2.heap.size + 1) w6 (by omega) hnc w5.heap.size (w5.heap.size + 1) ⟨hBs, by omega, by omega⟩ ⟨hBn, by omega, by omega⟩ 7)
    (fun h k => h.trans k) (fun W L o o' h1 h2 _ _ => but_put h1 h2) (Below.refl _ _) (fun _ => rfl)
    (WrI l n w.heap.size w2.heap.size w6.heap.size w6) (WrX l n w.heap.size w2.heap.size w6.heap.size w6) (wrI_own l n _ _ _ w6 (by omega) (by omega)) (wrX_own l n _ _ _ w6 (by omega) (by omega))
    ⟨some ⟨w.heap.size + 1 + 1, 0, none⟩, 4, Sm.hd, hl6, .inl ⟨rfl, rfl, rfl⟩, by simp [wck], by simp [Sm.hd], hk6, But.refl _, Nat.le_refl _, c1, c2, fun p hp => by cases hp⟩
    (fun x => { tmps := #[.slice A n c, undef, .pointer (some ⟨w.heap.size, 0, none⟩), .pointer (some ⟨w.heap.size + 1, 0, none⟩), .pointer (some ⟨w2.heap.size, 0, none⟩), .pointer (some ⟨w4.heap.size, 0, none⟩),
      .slice (cutA A x.1.2 x.1.1) (x.1.2 - x.1.1) (x.1.2 - x.1.1), .slice (some ⟨w.heap.size + 1 + 1, 0, none⟩) 4 4, .slice (some ⟨w.heap.size + 1 + 1, 0, none⟩) 4 4, .slice (some ⟨w2.heap.size + 1, 0, none⟩) 256 256, .slice A n c,
      .func (.func 48) #[] #[.pointer (some ⟨w5.heap.size, 0, none⟩), .pointer (some ⟨w5.heap.size + 1, 0, none⟩)], .slice (cutA A x.1.2 x.1.1) (x.1.2 - x.1.1) (x.1.2 - x.1.1),
      undef, undef, undef, undef, undef, undef, undef, undef], defers := [] }) ?assign ?body ?done ?stop
  case assign =>
    intro L x W K hK
    simp only [encC]
    gi_wp2
    exact hK
  case body =>
    rintro j pre x W ⟨A2, c2, L, hbx, hown, hL, hLl, hkc, hbut, hsz, r1, r2, hall⟩ hlen
    have hbel : Below w.heap.size w W := b06.trans (hbut.below (by omega))
    have hchk : RL W W.heap.size (cutA A x.1.2 x.1.1) (x.1.2 - x.1.1) (x.1.2 - x.1.1) (chk l x.1) := ((Hr.out.below hbel).more hbel.size).chunk x.2.1 x.2.2
    have hmay := may_c (cutA A x.1.2 x.1.1) (x.1.2 - x.1.1) (x.1.2 - x.1.1) _ (chk l x.1) W hchk _ rfl
    have hTW := (hT6.other (hbut.block (w2.heap.size + 1) (by omega) (by omega))).more (B' := W.heap.size) (by omega)
    have hct := (boxed_but ht6 hbut (by omega) (by omega)).cell
    have hl2 := hbx.cell
    cases hok : (chk l x.1).all Sm.okR with
    | false =>
      rw [hok] at hmay
      have Hmay := Lib.hid hmay; have Hok := Lib.hid hok; have R1 := Lib.hid r1; have R2 := Lib.hid r2
      have g1c := r1.cell
      have g1f := r1.frozen
      have g2c := r2.cell
      have g2f := r2.frozen
      clear hmay hok r1 r2 hown hkc hbx hTW hchk
      gi_wp2_with (refine ⟨trivial, ?_⟩; gi_at_call 32; refine (CallsIn.inRound j (callsIn_wide.2 Hmay.out)).mono ?_; rintro e w7 ⟨rfl, rfl⟩)
      refine ⟨((KeepsOthers.setCell _ _ _).from _).trans ((KeepsOthers.setCell _ _ _).from _), rfl, ⟨x, by simp, Hok.out⟩, ?_, by simp; omega, (R1.out.set _).other (by omega) _, (R2.out.other (by omega) _).set _⟩
      exact hbut.trans ((But.set _ (by omega) _).trans (But.set _ (by omega) _))
    | true =>
      rw [hok] at hmay
      have hox : OwnX W 5 w6.heap.size A2 c2 L := by
        rcases hown with ⟨h1, h2, h3⟩ | h
        · subst h1 h2 h3
          have hLh : L = Sm.hd := by rw [hL]; simp [wck]
          subst hLh
          refine .inr ⟨by decide, rfl, _, rfl, (Array.getElem?_eq_some_iff.1 hkc).1, fun q y hq => ?_⟩
          rw [cell_of_row W _ q _ _ _ hkc]
          match q, hq with
          | 0, hq => simp [Sm.hd] at hq; subst hq; rfl
          | 1, hq => simp [Sm.hd] at hq; subst hq; rfl
          | 2, hq => simp [Sm.hd] at hq; subst hq; rfl
          | 3, hq => simp [Sm.hd] at hq; subst hq; rfl
        · exact .inl h
      have hxw : Mx W := Hx.out.below' hbel
      have hbl : (Sm.blkw (chk l x.1)).length ≤ 602000 := by
        have h1 := Sm.recsB_len _ hok
        have h0 := hchk.len
        have hx2 := x.2.2
        have h2 := Sm.vb_three (chk l x.1).length (by omega)
        have h3 := Sm.esc_len (Sm.sealed (Sm.conts (chk l x.1)))
        have h4 : (Sm.sealed (Sm.conts (chk l x.1))).length = (Sm.conts (chk l x.1)).length + 4 := by simp [Sm.sealed, Cm.four_len]
        have h5 : (Sm.conts (chk l x.1)).length = (Vm.vb (chk l x.1).length).length + (Sm.recsB (chk l x.1)).length := by simp [Sm.conts]
        unfold Sm.blkw
        rw [List.length_cons, List.length_cons]
        omega
      have hadd := addBlock_c A2 c2 w6.heap.size L (some ⟨w2.heap.size + 1, 0, none⟩) 256 (cutA A x.1.2 x.1.1) (x.1.2 - x.1.1) (x.1.2 - x.1.1) (chk l x.1) W hox hsz (by omega) hTW hchk hok (by have := x.2.2; omega) (by omega) hxw
      obtain ⟨N, hN⟩ : ∃ N, N = L ++ Sm.blkw (chk l x.1) := ⟨_, rfl⟩
      rw [← hN] at hadd
      have hNl : N.length ≤ 4 + 602000 * (pre.length + 1) := by rw [hN, List.length_append]; omega
      have Hmay := Lib.hid hmay; have Hok := Lib.hid hok; have R1 := Lib.hid r1; have R2 := Lib.hid r2; have Hadd := Lib.hid hadd; have HN := Lib.hid hN; have HL := Lib.hid hL; have Hbx := Lib.hid hbx; have Hkc := Lib.hid hkc
      clear hmay hok r1 r2 hown hkc hTW hchk hadd hN hL hbx hox hbl
      gi_wp2_with (first
        | (refine ⟨trivial, ?_⟩; gi_at_call 32; refine (CallsIn.inRound j (callsIn_wide.2 Hmay.out)).mono ?_; rintro e w7 ⟨rfl, rfl⟩)
        | (refine ⟨trivial, ?_⟩; gi_at_call 33; refine (CallsIn.inRound j (callsIn_wide.2 Hadd.out)).mono ?_; rintro e w8 ⟨A8, c8, rfl, ho8, hb8, hk8⟩; have hB8 : Boxed w8 w2.heap.size 22 (.slice A2 L.length c2) := boxed_below Hbx.out hb8 (by omega); have hl8 := hB8.cell; have hf8 := hB8.frozen))
      have hbo : But w.heap.size (w2.heap.size + 1) w6.heap.size W w8 := but_of hb8 (Nat.le_refl _)
      have hsv : But w.heap.size (w2.heap.size + 1) w6.heap.size W (w8.setCell ⟨w2.heap.size, 0, none⟩ (.slice A8 N.length c8)) := hbo.trans (But.set w8 (by omega) _)
      have z8 := hb8.size
      refine ⟨(⟨hk8.size, fun k o _ => hk8.same k o (Nat.zero_le _)⟩ : KeepsFrom w6.heap.size W w8).trans ((KeepsOthers.setCell w8 ⟨w2.heap.size, 0, none⟩ (.slice A8 N.length c8)).from _), hsv, A8, c8, N, hB8.set _, .inr (ho8.setLow (by show w2.heap.size < w6.heap.size; omega) _), ?_, by rw [List.length_append]; simpa using hNl, ?_, hbut.trans hsv, by simp; omega,
        (boxed_below R1.out hb8 (by omega)).other (by omega) _, (boxed_below R2.out hb8 (by omega)).other (by omega) _, fun p hp => ?_⟩
      · rw [HN.out, HL.out, List.map_append, List.map_cons, List.map_nil, wck_snoc, List.append_assoc]
      · have h1 : w8.heap[w.heap.size + 1 + 1]? = _ := (hb8.block _ (by omega)).trans Hkc.out
        exact heap_turn h1 (grownBy_setCell' w8 w2.heap.size _) (fun r e => by cases e; omega)
      · rcases List.mem_append.1 hp with hp | hp
        · exact hall p hp
        · simp at hp; subst hp; exact Hok.out
  case done =>
    rintro D xs W hD hS ⟨A2, c2, L, hbx, hown, hL, hLl, hkc, hbut, hsz, r1, r2, hall⟩ hK
    have hl2 := hbx.cell
    have g1c := r1.cell
    have g1f := r1.frozen
    have g2c := r2.cell
    have g2f := r2.frozen
    have hokall : l.all Sm.okR = true := by
      have h1 := chk_all l l.length 0 (by omega) (fun p hp => by
        rw [Hl.out, ← hS] at hp
        obtain ⟨q, hq, rfl⟩ := List.mem_map.1 hp
        exact hall q hq)
      rwa [List.drop_zero] at h1
    have hwr : Sm.wrS l = (L, 0) := by
      rw [Sm.wrS_ok hokall, hL, hS, ← Hl.out, wck_wr]
    have hxs : xs = [] → n = 0 := fun e => by
      subst e
      rcases Nat.eq_zero_or_pos n with h | h
      · exact h
      · rw [ck_step h] at hS; cases hS
    have Hwr := Lib.hid hwr; have Hown := Lib.hid hown; have HL := Lib.hid hL; have Hkc := Lib.hid hkc; have Hbut := Lib.hid hbut
    clear hwr hown hL hkc hokall hbut
    gi_wp2
    obtain ⟨W3, hW3⟩ : ∃ W3, W3 = (W.setCell ⟨w.heap.size, 0, none⟩ (.slice A2 L.length c2)).setCell ⟨w.heap.size + 1, 0, none⟩ (.int .i64 0) := ⟨_, rfl⟩
    have hK3 : W3.heap[D]? = some (.deferred (some [])) := by
      rw [hW3]
      exact ((KeepsOthers.setCell W ⟨w.heap.size, 0, none⟩ (.slice A2 L.length c2)).trans (KeepsOthers.setCell _ _ _)).same D _ hK rfl
    have g1 : Boxed W3 w.heap.size 22 (.slice A2 L.length c2) := by rw [hW3]; exact (r1.set _).other (by omega) _
    have g2 : Boxed W3 (w.heap.size + 1) 25 (.int .i64 0) := by rw [hW3]; exact (r2.other (by omega) _).set _
    have ho3 : (xs = [] ∧ A2 = some ⟨w.heap.size + 1 + 1, 0, none⟩ ∧ c2 = 4) ∨ Own W3 5 w6.heap.size A2 c2 L := by
      rcases Hown.out with h | h
      · exact .inl h
      · exact .inr (by rw [hW3]; exact (h.setLow (by show w.heap.size < w6.heap.size; omega) _).setLow (by show w.heap.size + 1 < w6.heap.size; omega) _)
    have hk3 : W3.heap[w.heap.size + 1 + 1]? = some (.cells #[.int .u8 84, .int .u8 83, .int .u8 81, .int .u8 49] 5 (4, 5)) := by
      rw [hW3]
      exact heap_turn (heap_turn Hkc.out (grownBy_setCell' W w.heap.size _) (fun r e => by cases e; omega)) (grownBy_setCell' _ (w.heap.size + 1) _) (fun r e => by cases e; omega)
    have hb3 : But w.heap.size (w2.heap.size + 1) w6.heap.size w6 W3 := by
      rw [hW3]
      exact Hbut.out.trans ((But.set W (by omega) _).trans (But.set _ (by omega) _))
    have hs3 : w6.heap.size ≤ W3.heap.size := by rw [hW3]; simp; omega
    rw [← hW3]
    have hg := grownBy_putObj' W3 D (.deferred none)
    have hnc : ∀ r, some D = some r → ∃ o : Obj, W3.heap[r]? = some o ∧ o.isCells = false := fun r e => by cases e; exact ⟨_, hK3, rfl⟩
    have hne : ∀ b, b < w6.heap.size → some b ≠ some D := fun b hb e => by cases e; omega
    refine ⟨by simp, .inl ⟨_, _, rfl, run_takeDeferred hK3, ?_⟩⟩
    refine ⟨_, results_cells2 rfl rfl rfl (g1.kept hg (hne _ (by omega))).cell (g2.kept hg (hne _ (by omega))).cell Tryd.isAgg22 Tryd.isAgg25, A2, c2, ?_, ?_, ?_⟩
    · rw [Hwr.out]; rfl
    · rw [Hwr.out]
      dsimp only
      rcases ho3 with ⟨h1, h2, h3⟩ | h
      · subst h2 h3
        have hLh : L = Sm.hd := by rw [HL.out, h1]; simp [wck]
        have hk4 := heap_turn hk3 hg (fun r e => by cases e; omega)
        subst hLh
        refine ⟨⟨rfl, Nat.le_refl _, by simp [maxLen], fun _ => ⟨_, 0, rfl, (Array.getElem?_eq_some_iff.1 hk4).1, fun q y hq => ?_⟩⟩, fun _ => ⟨_, rfl, by omega, (Array.getElem?_eq_some_iff.1 hk4).1, fun q hq => ?_⟩⟩
        · rw [cell_of_row _ _ (0 + q) _ _ _ hk4]
          match q, hq with
          | 0, hq => simp [Sm.hd] at hq; subst hq; rfl
          | 1, hq => simp [Sm.hd] at hq; subst hq; rfl
          | 2, hq => simp [Sm.hd] at hq; subst hq; rfl
          | 3, hq => simp [Sm.hd] at hq; subst hq; rfl
        · have hq4 : q < 4 := hq
          simp only [World.frozen?, hk4]
          simp
          omega
      · have h4 : Own (W3.putObj D (.deferred none)) 5 w6.heap.size A2 c2 L := oc_turn (z := 1) (vs := bvs L) h hg hnc
        exact (h4.mono (by omega)).wt
    · exact (b06.trans (hb3.below (by omega))).trans ((but_put (lo := w.heap.size) (hi := w2.heap.size + 1) (o' := .deferred none) hD hK3).below (by omega))
  case stop =>
    rintro D j pre W hD hpre ⟨rfl, ⟨p, hp, hpn⟩, hbut, hsz, r1, r2⟩ hK
    have hwr : Sm.wrS l = ([], 10) := Sm.wrS_err (chk_bad l p.1 hpn)
    have Hwr := Lib.hid hwr; clear hwr
    gi_wp2
    have hg := grownBy_putObj' W D (.deferred none)
    have hne : ∀ b, b < w6.heap.size → some b ≠ some D := fun b hb e => by cases e; omega
    refine ⟨by simp, .inl ⟨_, _, rfl, run_takeDeferred hK, ?_⟩⟩
    refine ⟨_, results_cells2 rfl rfl rfl (r1.kept hg (hne _ (by omega))).cell (r2.kept hg (hne _ (by omega))).cell Tryd.isAgg22 Tryd.isAgg25, none, 0, ?_, ?_, ?_⟩
    · rw [Hwr.out]; rfl
    · rw [Hwr.out]; exact ⟨Rb.nil _ _, fun h => absurd h (by simp)⟩
    · exact (b06.trans (hbut.below (by omega))).trans ((but_put (lo := w.heap.size) (hi := w2.heap.size + 1) (o' := .deferred none) hD hK).below (by omega))
end Go.Proofs.YtddnlimkaagpdaaDoor

namespace Go.Proofs.YtddnlimkaagpdaaDoor
open Go.RowKit

theorem RL.nil (w : World) (B : Nat) : RL w B none 0 0 [] := ⟨[], Rc.nil _ _ _, Rrs.nil _ _⟩
def R0 : Sm.R := [[97], [255, 83]]
theorem wrS_nil : Sm.wrS [] = ([84, 83, 81, 49], 0) := by rw [Sm.wrS_ok rfl]; rfl
theorem wrS_R0 : Sm.wrS [R0] = (Sm.wr [R0], 0) := Sm.wrS_ok (by decide)

set_option maxRecDepth 100000 in
set_option maxHeartbeats 2000000 in
/-- alive -/
theorem alive_c (w : World) (hx : Mx w) : Calls Tryd.prog 9 #[] w fun e w' => e = .returned (.bool true) ∧ Below w.heap.size w w' := by
  have h0 := write_c none 0 0 [] w (RL.nil _ _) (by omega) (Nat.le_refl _) hx
  rw [wrS_nil] at h0
  have Hx := Lib.hid hx; have H0 := Lib.hid h0; clear hx h0
  go_enter Tryd.func9, Tryd.ntmps9
  go_wp2_with fail
  refine H0.out.mono ?_
  rintro e w1 ⟨A1, c1, rfl, hw1, hb1⟩
  have z1 := hb1.size
  have hr1 := hw1.1
  obtain ⟨w2, hw2⟩ : ∃ w2, w2 = w1.alloc (.cells #[.string ⟨#[97]⟩, .string ⟨#[255, 83]⟩] 9) := ⟨_, rfl⟩
  obtain ⟨w3, hw3⟩ : ∃ w3, w3 = w2.alloc (.cells #[.slice (some ⟨w1.heap.size, 0, none⟩) 2 2] 50) := ⟨_, rfl⟩
  have z2 : w2.heap.size = w1.heap.size + 1 := by rw [hw2]; simp
  have z3 : w3.heap.size = w1.heap.size + 2 := by rw [hw3]; simp [z2]
  have b12 : Below w1.heap.size w1 w2 := by rw [hw2]; exact (Below.refl _ _).alloc (Nat.le_refl _) _
  have b23 : Below w2.heap.size w2 w3 := by rw [hw3]; exact (Below.refl _ _).alloc (Nat.le_refl _) _
  have b13 : Below w1.heap.size w1 w3 := b12.trans (b23.mono (by omega))
  have hrec : Rc 1 w2 (w1.heap.size + 1) (some ⟨w1.heap.size, 0, none⟩) 2 2 (lvs R0) := by
    rw [hw2]; exact Rc.lit (z := 1) w1 9 #[.string ⟨#[97]⟩, .string ⟨#[255, 83]⟩] 2 rfl (by simp [maxLen])
  have hrl : RL w3 w3.heap.size (some ⟨w1.heap.size + 1, 0, none⟩) 1 1 [R0] := by
    refine ⟨[.slice (some ⟨w1.heap.size, 0, none⟩) 2 2], ?_, rfl, fun j v r g1 g2 => ?_⟩
    · have := Rc.lit (z := 1) w2 50 #[.slice (some ⟨w1.heap.size, 0, none⟩) 2 2] 1 rfl (by simp [maxLen])
      rw [← hw3, z2] at this
      exact this.more (by omega)
    · cases j with
      | zero =>
        simp at g1 g2
        subst g1 g2
        exact ⟨_, _, _, rfl, (hrec.below (b23.mono (by omega))).more (by omega)⟩
      | succ j => simp at g1
  have b03 : Below w.heap.size w w3 := hb1.trans (b13.mono z1)
  have h2 := write_c (some ⟨w1.heap.size + 1, 0, none⟩) 1 1 [R0] w3 hrl (by omega) (Nat.le_refl _) (Hx.out.below' b03)
  rw [wrS_R0] at h2
  obtain ⟨X, hX⟩ : ∃ X, X = Sm.wr [R0] := ⟨_, rfl⟩
  rw [← hX] at h2
  have hps := Sm.ps_one R0 (by decide)
  rw [← hX] at hps
  have hXl : X.length ≤ 20000 := by
    rw [hX]
    have h1 : (Sm.wr [R0]) = Sm.hd ++ Sm.blkw [R0] := by
      unfold Sm.wr
      rw [List.length_singleton, Sm.wch_step (by simp)]
      simp [Sm.wch]
    rw [h1, List.length_append]
    have := Sm.blkw_len3 [R0] (by decide) (by simp)
    have : Sm.hd.length = 4 := rfl
    omega
  rw [hw3, hw2] at h2
  have H2 := Lib.hid h2; have HPS := Lib.hid hps; have Hr1 := Lib.hid (hr1.below b13); have B03 := Lib.hid b03; have Z3 := Lib.hid z3
  clear h2 hps hr1 hrl hrec hX b12 b23 z2 hw1 b03 z3
  go_wp2_with fail
  refine H2.out.mono ?_
  rw [← hw2, ← hw3]
  clear hw2 hw3
  rintro e w4 ⟨A4, c4, rfl, hw4, hb4⟩
  have z4 := hb4.size
  have b04 : Below w.heap.size w w4 := B03.out.trans (hb4.mono (by have := Z3.out; omega))
  have hsc := scan_c A4 X.length c4 X w4 hw4.1 (by omega) (Hx.out.below' b04)
  have Hsc := Lib.hid hsc; have Hr4 := Lib.hid (Hr1.out.below (hb4.mono (by have := Z3.out; omega))); clear hsc hw4
  go_wp2_with fail
  refine Hsc.out.mono ?_
  rintro e w5 ⟨A5, c5, rfl, hpl, hb5⟩
  have z5 := hb5.size
  have hcv : (convert 22 9 (.slice A1 4 c1)).run Tryd.prog w5 = .ok (.string ⟨#[84, 83, 81, 49]⟩) w5 := bty.conv (Hr4.out.below (hb5.mono (by have := Z3.out; omega)))
  obtain ⟨p1, p2, p3, p4⟩ := HPS.out
  rw [p3, p4]
  rw [p1] at hpl ⊢
  obtain ⟨b, off, p, D, m, d, rfl, hbS, hca, hcb, hp0, _⟩ := hpl.at_ (k := 0) (by omega)
  rw [p2 p hp0] at hca
  have hca' : w5.cell? ⟨b, off, none⟩ = some (.int .i64 4) := by simpa using hca
  have bz := b04.trans (hb5.mono b04.size)
  clear hpl hca hcb hp0 p1 p2 p3 p4
  go_wp2
  go_ret
  exact ⟨rfl, bz⟩
end Go.Proofs.YtddnlimkaagpdaaDoor
