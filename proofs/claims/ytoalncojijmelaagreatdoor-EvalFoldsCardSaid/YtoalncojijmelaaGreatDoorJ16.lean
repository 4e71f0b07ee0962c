/-
  Joined: PH PI PJ.
-/
import Derived.Test.YtoalncojijmelaaGreatDoorJ6
import Derived.Test.YtoalncojijmelaaGreatDoorJ14
import Derived.Test.YtoalncojijmelaaGreatDoorJ15
import Derived.Test.YtoalncojijmelaaGreatDoorJ4
import Derived.Shelf.Abstract
/-
  The program's methods of arguments: slice, upper, lower, num, text, hash, find.
-/
namespace Go.Proofs.YtoalncojijmelaaGreatDoor
open Go.RowKit Vl

theorem decDigits_figs : ∀ (k n : Nat), n ≤ k → Lib.decDigits n = figs n
  | k, n, hk => by
    by_cases h : n < 10
    · rw [figs_small h, Lib.decDigits_one h]
    · cases k with
      | zero => omega
      | succ k => rw [figs_big h, Lib.decDigits, dif_neg h, decDigits_figs k (n / 10) (by omega)]
theorem itoa_figures (n : Int) : Lib.itoa n = figures n := by
  unfold Lib.itoa figures
  by_cases h : n < 0
  · rw [if_pos h, if_pos h, decDigits_figs _ _ (Nat.le_refl _), show n.natAbs = (-n).toNat by omega]
  · rw [if_neg h, if_neg h, decDigits_figs _ _ (Nat.le_refl _)]
theorem occ_iff (s t : List UInt8) (i : Nat) : Lib.occAt s t i = true ↔ (s.drop i).take t.length = t := by
  unfold Lib.occAt
  rw [List.isPrefixOf_iff_prefix, List.prefix_iff_eq_take]
  exact ⟨fun h => h.symm, fun h => h.symm⟩
theorem index_fnd (s t : List UInt8) : ∀ (k i : Nat), i + k = s.length + 1 → (∀ j, j < i → Lib.occAt s t j = false) → Lib.index s t = fnd s t i k
  | 0, i, hi, h => by
    show _ = (-1 : Int)
    exact Lib.index_none fun j hj => h j (by omega)
  | k + 1, i, hi, h => by
    unfold fnd
    by_cases hle : i + t.length ≤ s.length
    · rw [if_pos hle]
      by_cases ho : (s.drop i).take t.length = t
      · rw [if_pos ho]
        exact Lib.index_first (by omega) ((occ_iff s t i).2 ho) h
      · rw [if_neg ho]
        refine index_fnd s t k (i + 1) (by omega) fun j hj => ?_
        by_cases hji : j = i
        · subst hji; exact Bool.eq_false_iff.2 fun q => ho ((occ_iff s t j).1 q)
        · exact h j (by omega)
    · rw [if_neg hle]
      refine Lib.index_none fun j hj => ?_
      by_cases hji : j < i
      · exact h j hji
      · refine Bool.eq_false_iff.2 fun q => ?_
        have := congrArg List.length ((occ_iff s t j).1 q)
        rw [List.length_take, List.length_drop] at this
        omega
theorem index_find (s t : List UInt8) : Lib.index s t = find s t := index_fnd s t (s.length + 1) 0 (by omega) (fun j hj => absurd hj (by omega))
theorem pfigs_len (n : Nat) (h : n < 100000000000000000000) : (figs n).length ≤ 20 := (digs_figs 19 n (by rw [pow20]; exact h)).2.1
theorem pfig_len {n : Int} (h : I n) : (figures n).length ≤ 1000000 := by
  unfold figures I at *
  split
  · have := pfigs_len (-n).toNat (by omega); rw [List.length_cons]; omega
  · have := pfigs_len n.toNat (by omega); omega
theorem figures_short {n : Int} (h : I n) : figures n = (figures n).take 1000 := by
  symm; apply List.take_of_length_le
  unfold figures I at *
  split
  · have := pfigs_len (-n).toNat (by omega); rw [List.length_cons]; omega
  · have := pfigs_len n.toNat (by omega); omega

theorem below_grow (w : World) (k : Nat) (os : Array Obj) : Below w.heap.size w (Sort.grow (w.drewN k) os) := by
  refine ⟨rfl, rfl, rfl, ?_, fun j hj => ?_⟩
  · simp [Sort.grow]
  · simp [Sort.grow]
    exact Array.getElem?_append_left hj
set_option maxRecDepth 100000 in
set_option maxHeartbeats 1000000 in
theorem p_upper (x y z : V) (hx : x.s.length ≤ 1000000) (w : World) : Calls Tryz.prog 79 #[ar9 x y z] w (RetV w (vv (txt (turned x.s 97)))) := by
  obtain ⟨w1, w2, W1, W2, Z1, BB, A2, X2⟩ := open9 w x y z
  have XX := Lib.hid X2
  have AA := Lib.hid A2
  obtain ⟨-, c0, c1, c2, c3, c4, c5, c6, c7, c8⟩ := A2
  obtain ⟨e0, e1, e2, f0, f1, f2, hlt⟩ := X2
  obtain ⟨U, hU⟩ : ∃ U, U = turned x.s 97 := ⟨_, rfl⟩
  have HU := Lib.hid hU
  have Hoc := Lib.hid (fun W => (show Calls Tryz.prog 93 #[st x.s, .int .u8 97, .int .u8 122] W (RetV W (st U)) from by rw [hU]; exact otherCase_c x.s hx 97 97 122 rfl rfl W))
  rw [← hU]
  clear hU
  go_enter Tryz.func79, Tryz.ntmps79
  go_wp2_with (first | rw [← W1.out, ← W2.out, Z1.out] | rw [← W1.out, ← W2.out])
  refine (Hoc.out _).mono ?_
  rintro e w3 ⟨rfl, bq⟩
  have xq := XX.out.below bq XX.out.lt
  have BB := Lib.hid (BB.out.trans (bq.mono BB.out.size))
  have XX := Lib.hid xq
  clear e0 e1 e2 f0 f1 f2 hlt bq c0 c1 c2 c3 c4 c5 c6 c7 c8
  obtain ⟨e0, e1, e2, f0, f1, f2, hlt⟩ := xq
  go_wp2_with (fail)
  refine (ptext_c U (by rw [HU.out, turned_len]; exact hx) _).mono ?_
  rintro e w4 ⟨rfl, bq⟩
  have xq := XX.out.below bq XX.out.lt
  have BB := Lib.hid (BB.out.trans (bq.mono BB.out.size))
  have XX := Lib.hid xq
  clear e0 e1 e2 f0 f1 f2 hlt bq
  obtain ⟨e0, e1, e2, f0, f1, f2, hlt⟩ := xq
  go_wp2
  change bodyPost _ _ _ _ _ (put3 w4 (w.heap.size + 1) _ _ _)
  have s0 := fun v0 v1 v2 => (put3_box XX.out v0 v1 v2).c0
  have s1 := fun v0 v1 v2 => (put3_box XX.out v0 v1 v2).c1
  have s2 := fun v0 v1 v2 => (put3_box XX.out v0 v1 v2).c2
  refine bodyPost_ret (v := .agg #[.bool true, .int .i64 0, .string ⟨(U.take 1000).toArray⟩]) ?_ rfl ⟨rfl, BB.out.trans ((put3_below _ _ _ _ _).mono (by omega))⟩
  simp [results, Tryz.results79, go_sem, s0, s1, s2]

set_option maxRecDepth 100000 in
set_option maxHeartbeats 1000000 in
theorem p_lower (x y z : V) (hx : x.s.length ≤ 1000000) (w : World) : Calls Tryz.prog 80 #[ar9 x y z] w (RetV w (vv (txt (turned x.s 65)))) := by
  obtain ⟨w1, w2, W1, W2, Z1, BB, A2, X2⟩ := open9 w x y z
  have XX := Lib.hid X2
  have AA := Lib.hid A2
  obtain ⟨-, c0, c1, c2, c3, c4, c5, c6, c7, c8⟩ := A2
  obtain ⟨e0, e1, e2, f0, f1, f2, hlt⟩ := X2
  obtain ⟨U, hU⟩ : ∃ U, U = turned x.s 65 := ⟨_, rfl⟩
  have HU := Lib.hid hU
  have Hoc := Lib.hid (fun W => (show Calls Tryz.prog 93 #[st x.s, .int .u8 65, .int .u8 90] W (RetV W (st U)) from by rw [hU]; exact otherCase_c x.s hx 65 65 90 rfl rfl W))
  rw [← hU]
  clear hU
  go_enter Tryz.func80, Tryz.ntmps80
  go_wp2_with (first | rw [← W1.out, ← W2.out, Z1.out] | rw [← W1.out, ← W2.out])
  refine (Hoc.out _).mono ?_
  rintro e w3 ⟨rfl, bq⟩
  have xq := XX.out.below bq XX.out.lt
  have BB := Lib.hid (BB.out.trans (bq.mono BB.out.size))
  have XX := Lib.hid xq
  clear e0 e1 e2 f0 f1 f2 hlt bq c0 c1 c2 c3 c4 c5 c6 c7 c8
  obtain ⟨e0, e1, e2, f0, f1, f2, hlt⟩ := xq
  go_wp2_with (fail)
  refine (ptext_c U (by rw [HU.out, turned_len]; exact hx) _).mono ?_
  rintro e w4 ⟨rfl, bq⟩
  have xq := XX.out.below bq XX.out.lt
  have BB := Lib.hid (BB.out.trans (bq.mono BB.out.size))
  have XX := Lib.hid xq
  clear e0 e1 e2 f0 f1 f2 hlt bq
  obtain ⟨e0, e1, e2, f0, f1, f2, hlt⟩ := xq
  go_wp2
  change bodyPost _ _ _ _ _ (put3 w4 (w.heap.size + 1) _ _ _)
  have s0 := fun v0 v1 v2 => (put3_box XX.out v0 v1 v2).c0
  have s1 := fun v0 v1 v2 => (put3_box XX.out v0 v1 v2).c1
  have s2 := fun v0 v1 v2 => (put3_box XX.out v0 v1 v2).c2
  refine bodyPost_ret (v := .agg #[.bool true, .int .i64 0, .string ⟨(U.take 1000).toArray⟩]) ?_ rfl ⟨rfl, BB.out.trans ((put3_below _ _ _ _ _).mono (by omega))⟩
  simp [results, Tryz.results80, go_sem, s0, s1, s2]

set_option maxRecDepth 100000 in
set_option maxHeartbeats 1000000 in
theorem p_num (x y z : V) (hx : x.s.length ≤ 1000000) (w : World) : Calls Tryz.prog 85 #[ar9 x y z] w (RetV w (vv (num (number x.s)))) := by
  obtain ⟨w1, w2, W1, W2, Z1, BB, A2, X2⟩ := open9 w x y z
  have XX := Lib.hid X2
  have AA := Lib.hid A2
  obtain ⟨-, c0, c1, c2, c3, c4, c5, c6, c7, c8⟩ := A2
  obtain ⟨e0, e1, e2, f0, f1, f2, hlt⟩ := X2
  obtain ⟨N, hN⟩ : ∃ N : Int, N = number x.s := ⟨_, rfl⟩
  rw [← hN]
  have hc := (show Calls Tryz.prog 96 #[st x.s] w2 fun e w' => e = .returned (.int .i64 N) ∧ w2 = w' from by rw [hN]; exact represented_c x.s hx w2)
  have Hc := Lib.hid hc
  clear hN hc
  go_enter Tryz.func85, Tryz.ntmps85
  go_wp2_with (first | rw [← W1.out, ← W2.out, Z1.out] | rw [← W1.out, ← W2.out])
  refine Hc.out.mono ?_
  rintro e w2' ⟨rfl, rfl⟩
  go_wp2_with (fail)
  refine (pnum_c N _).mono ?_
  rintro e w3 ⟨rfl, bq⟩
  have xq := XX.out.below bq XX.out.lt
  have BB := Lib.hid (BB.out.trans (bq.mono BB.out.size))
  have XX := Lib.hid xq
  clear e0 e1 e2 f0 f1 f2 hlt bq c0 c1 c2 c3 c4 c5 c6 c7 c8
  obtain ⟨e0, e1, e2, f0, f1, f2, hlt⟩ := xq
  go_wp2
  change bodyPost _ _ _ _ _ (put3 w3 (w.heap.size + 1) _ _ _)
  have s0 := fun v0 v1 v2 => (put3_box XX.out v0 v1 v2).c0
  have s1 := fun v0 v1 v2 => (put3_box XX.out v0 v1 v2).c1
  have s2 := fun v0 v1 v2 => (put3_box XX.out v0 v1 v2).c2
  refine bodyPost_ret (v := .agg #[.bool false, .int .i64 N, .string ⟨#[]⟩]) ?_ rfl ⟨rfl, BB.out.trans ((put3_below _ _ _ _ _).mono (by omega))⟩
  simp [results, Tryz.results85, go_sem, s0, s1, s2]

set_option maxRecDepth 100000 in
set_option maxHeartbeats 1000000 in
theorem p_hash (x y z : V) (hx : x.s.length ≤ 1000000) (w : World) : Calls Tryz.prog 87 #[ar9 x y z] w (RetV w (vv (num ((Vl.hash x.s : Int))))) := by
  obtain ⟨w1, w2, W1, W2, Z1, BB, A2, X2⟩ := open9 w x y z
  have XX := Lib.hid X2
  have AA := Lib.hid A2
  obtain ⟨-, c0, c1, c2, c3, c4, c5, c6, c7, c8⟩ := A2
  obtain ⟨e0, e1, e2, f0, f1, f2, hlt⟩ := X2
  obtain ⟨N, hN⟩ : ∃ N : Int, N = (Vl.hash x.s : Int) := ⟨_, rfl⟩
  rw [← hN]
  have hc := (show Calls Tryz.prog 98 #[st x.s] w2 fun e w' => e = .returned (.int .i64 N) ∧ w2 = w' from by rw [hN]; exact pHash_c x.s hx w2)
  have Hc := Lib.hid hc
  clear hN hc
  go_enter Tryz.func87, Tryz.ntmps87
  go_wp2_with (first | rw [← W1.out, ← W2.out, Z1.out] | rw [← W1.out, ← W2.out])
  refine Hc.out.mono ?_
  rintro e w2' ⟨rfl, rfl⟩
  go_wp2_with (fail)
  refine (pnum_c N _).mono ?_
  rintro e w3 ⟨rfl, bq⟩
  have xq := XX.out.below bq XX.out.lt
  have BB := Lib.hid (BB.out.trans (bq.mono BB.out.size))
  have XX := Lib.hid xq
  clear e0 e1 e2 f0 f1 f2 hlt bq c0 c1 c2 c3 c4 c5 c6 c7 c8
  obtain ⟨e0, e1, e2, f0, f1, f2, hlt⟩ := xq
  go_wp2
  change bodyPost _ _ _ _ _ (put3 w3 (w.heap.size + 1) _ _ _)
  have s0 := fun v0 v1 v2 => (put3_box XX.out v0 v1 v2).c0
  have s1 := fun v0 v1 v2 => (put3_box XX.out v0 v1 v2).c1
  have s2 := fun v0 v1 v2 => (put3_box XX.out v0 v1 v2).c2
  refine bodyPost_ret (v := .agg #[.bool false, .int .i64 N, .string ⟨#[]⟩]) ?_ rfl ⟨rfl, BB.out.trans ((put3_below _ _ _ _ _).mono (by omega))⟩
  simp [results, Tryz.results87, go_sem, s0, s1, s2]

set_option maxRecDepth 100000 in
set_option maxHeartbeats 1000000 in
theorem p_find (x y z : V) (hx : x.s.length ≤ 1000000) (w : World) (hg : Gl w) : Calls Tryz.prog 88 #[ar9 x y z] w (RetV w (vv (num (find x.s y.s)))) := by
  obtain ⟨w1, w2, W1, W2, Z1, BB, A2, X2⟩ := open9 w x y z
  have XX := Lib.hid X2
  have AA := Lib.hid A2
  obtain ⟨-, c0, c1, c2, c3, c4, c5, c6, c7, c8⟩ := A2
  obtain ⟨e0, e1, e2, f0, f1, f2, hlt⟩ := X2
  obtain ⟨N, hN⟩ : ∃ N : Int, N = find x.s y.s := ⟨_, rfl⟩
  rw [← hN]
  have hc := (show Calls Tryz.prog 99 #[st x.s, st y.s] w2 fun e w' => e = .returned (.int .i64 N) ∧ w' = w2 from by have g2 := hg.below' BB.out; obtain ⟨m, hm⟩ := g2.mx; rw [hN, ← index_find]; exact Tryz.strings_Index ⟨x.s.toArray⟩ ⟨y.s.toArray⟩ m w2 (by show x.s.length < _; omega) hm)
  have Hc := Lib.hid hc
  clear hN hc
  go_enter Tryz.func88, Tryz.ntmps88
  go_wp2_with (first | rw [← W1.out, ← W2.out, Z1.out] | rw [← W1.out, ← W2.out])
  refine Hc.out.mono ?_
  rintro e w2' ⟨rfl, rfl⟩
  go_wp2_with (fail)
  refine (pnum_c N _).mono ?_
  rintro e w3 ⟨rfl, bq⟩
  have xq := XX.out.below bq XX.out.lt
  have BB := Lib.hid (BB.out.trans (bq.mono BB.out.size))
  have XX := Lib.hid xq
  clear e0 e1 e2 f0 f1 f2 hlt bq c0 c1 c2 c3 c4 c5 c6 c7 c8
  obtain ⟨e0, e1, e2, f0, f1, f2, hlt⟩ := xq
  go_wp2
  change bodyPost _ _ _ _ _ (put3 w3 (w.heap.size + 1) _ _ _)
  have s0 := fun v0 v1 v2 => (put3_box XX.out v0 v1 v2).c0
  have s1 := fun v0 v1 v2 => (put3_box XX.out v0 v1 v2).c1
  have s2 := fun v0 v1 v2 => (put3_box XX.out v0 v1 v2).c2
  refine bodyPost_ret (v := .agg #[.bool false, .int .i64 N, .string ⟨#[]⟩]) ?_ rfl ⟨rfl, BB.out.trans ((put3_below _ _ _ _ _).mono (by omega))⟩
  simp [results, Tryz.results88, go_sem, s0, s1, s2]

set_option maxRecDepth 100000 in
set_option maxHeartbeats 1000000 in
theorem p_text (x y z : V) (hx : I x.n) (w : World) (hg : Gl w) : Calls Tryz.prog 86 #[ar9 x y z] w (RetV w (vv (txt (figures x.n)))) := by
  obtain ⟨w1, w2, W1, W2, Z1, BB, A2, X2⟩ := open9 w x y z
  have XX := Lib.hid X2
  have AA := Lib.hid A2
  obtain ⟨-, c0, c1, c2, c3, c4, c5, c6, c7, c8⟩ := A2
  obtain ⟨e0, e1, e2, f0, f1, f2, hlt⟩ := X2
  obtain ⟨U, hU⟩ : ∃ U, U = figures x.n := ⟨_, rfl⟩
  have HU := Lib.hid (show U.length ≤ 1000000 by rw [hU]; exact pfig_len hx)
  have Hit := Lib.hid (show Calls Tryz.prog 97 #[.int .i64 x.n] w2 (RetV w2 (st U)) from (Tryz.strconv_Itoa x.n (by unfold I at hx; omega) (by unfold I at hx; omega) w2 (hg.below' BB.out).tab).mono fun e w' ⟨h1, k, os, h2⟩ => by
    refine ⟨?_, ?_⟩
    · rw [h1, itoa_figures, ← hU]
    · subst h2; exact below_grow _ _ _)
  rw [← hU]
  clear hU
  go_enter Tryz.func86, Tryz.ntmps86
  go_wp2_with (first | rw [← W1.out, ← W2.out, Z1.out] | rw [← W1.out, ← W2.out])
  refine (Hit.out).mono ?_
  rintro e w3 ⟨rfl, bq⟩
  have xq := XX.out.below bq XX.out.lt
  have BB := Lib.hid (BB.out.trans (bq.mono BB.out.size))
  have XX := Lib.hid xq
  clear e0 e1 e2 f0 f1 f2 hlt bq c0 c1 c2 c3 c4 c5 c6 c7 c8
  obtain ⟨e0, e1, e2, f0, f1, f2, hlt⟩ := xq
  go_wp2_with (fail)
  refine (ptext_c U HU.out _).mono ?_
  rintro e w4 ⟨rfl, bq⟩
  have xq := XX.out.below bq XX.out.lt
  have BB := Lib.hid (BB.out.trans (bq.mono BB.out.size))
  have XX := Lib.hid xq
  clear e0 e1 e2 f0 f1 f2 hlt bq
  obtain ⟨e0, e1, e2, f0, f1, f2, hlt⟩ := xq
  go_wp2
  change bodyPost _ _ _ _ _ (put3 w4 (w.heap.size + 1) _ _ _)
  have s0 := fun v0 v1 v2 => (put3_box XX.out v0 v1 v2).c0
  have s1 := fun v0 v1 v2 => (put3_box XX.out v0 v1 v2).c1
  have s2 := fun v0 v1 v2 => (put3_box XX.out v0 v1 v2).c2
  refine bodyPost_ret (v := .agg #[.bool true, .int .i64 0, .string ⟨(U.take 1000).toArray⟩]) ?_ rfl ⟨rfl, BB.out.trans ((put3_below _ _ _ _ _).mono (by omega))⟩
  simp [results, Tryz.results86, go_sem, s0, s1, s2]

set_option maxRecDepth 100000 in
set_option maxHeartbeats 1000000 in
theorem p_slice (x y z : V) (hx : x.s.length ≤ 1000000) (w : World) : Calls Tryz.prog 78 #[ar9 x y z] w (RetV w (vv (txt (slc x.s y.n z.n)))) := by
  obtain ⟨w1, w2, W1, W2, Z1, BB, A2, X2⟩ := open9 w x y z
  have XX := Lib.hid X2
  have AA := Lib.hid A2
  obtain ⟨-, c0, c1, c2, c3, c4, c5, c6, c7, c8⟩ := A2
  obtain ⟨e0, e1, e2, f0, f1, f2, hlt⟩ := X2
  obtain ⟨X, hX⟩ : ∃ X : ByteArray, X = ⟨x.s.toArray⟩ := ⟨_, rfl⟩
  have hXs : X.size = x.s.length := by rw [hX]; rfl
  obtain ⟨a, ha⟩ : ∃ a, a = (min (max y.n 0) (x.s.length : Int)).toNat := ⟨_, rfl⟩
  obtain ⟨k, hk⟩ : ∃ k, k = (min (max z.n 0) ((x.s.length : Int) - (a : Int))).toNat := ⟨_, rfl⟩
  obtain ⟨U, hU⟩ : ∃ U, U = slc x.s y.n z.n := ⟨_, rfl⟩
  obtain ⟨Y, hY⟩ : ∃ Y, Y = X.extract a X.size := ⟨_, rfl⟩
  have hYs : Y.size = X.size - a := by rw [hY, ByteArray.size_extract]; omega
  have e1 : Y.extract 0 k = ⟨U.toArray⟩ := by
    rw [hY, hX, ext_eq, ext_eq, hU]; unfold slc; dsimp only; rw [← ha, ← hk, List.drop_zero, show (ByteArray.mk x.s.toArray).size = x.s.length from rfl, List.take_of_length_le (Nat.le_refl _), List.drop_take]; congr 2; congr 1; omega
  have e2 : min (max y.n 0) (X.size : Int) = (a : Int) := by omega
  have e3 : a ≤ X.size := by omega
  have e5 : min (max z.n 0) (Y.size : Int) = (k : Int) := by omega
  have e6 : k ≤ Y.size := by omega
  have e7 : X.size ≤ 1000000 := by omega
  have eY := hY.symm
  rw [← hX] at c2
  have Hs := Lib.hid (fun W => (show Calls Tryz.prog 35 #[.string (Y.extract 0 k)] W (RetV W (.agg #[.bool true, .int .i64 0, .string ⟨(U.take 1000).toArray⟩])) from by rw [e1]; exact ptext_c U (by rw [hU]; exact Nat.le_trans (slc_len _ _ _) hx) W))
  rw [← hU]
  clear e1 hXs hX ha hk hY hYs hU
  go_enter Tryz.func78, Tryz.ntmps78
  go_wp2_with (first | rw [← W1.out, ← W2.out, Z1.out] | rw [← W1.out, ← W2.out])
  refine (Hs.out _).mono ?_
  rintro e w3 ⟨rfl, bq⟩
  have xq := XX.out.below bq XX.out.lt
  have BB := Lib.hid (BB.out.trans (bq.mono BB.out.size))
  have XX := Lib.hid xq
  clear e0 e1 e2 f0 f1 f2 hlt bq c0 c1 c2 c3 c4 c5 c6 c7 c8
  obtain ⟨e0, e1, e2, f0, f1, f2, hlt⟩ := xq
  go_wp2
  change bodyPost _ _ _ _ _ (put3 w3 (w.heap.size + 1) _ _ _)
  have s0 := fun v0 v1 v2 => (put3_box XX.out v0 v1 v2).c0
  have s1 := fun v0 v1 v2 => (put3_box XX.out v0 v1 v2).c1
  have s2 := fun v0 v1 v2 => (put3_box XX.out v0 v1 v2).c2
  refine bodyPost_ret (v := .agg #[.bool true, .int .i64 0, .string ⟨(U.take 1000).toArray⟩]) ?_ rfl ⟨rfl, BB.out.trans ((put3_below _ _ _ _ _).mono (by omega))⟩
  simp [results, Tryz.results78, go_sem, s0, s1, s2]

end Go.Proofs.YtoalncojijmelaaGreatDoor

/-
  What Do rests on: a row of flags, copy of values into an array, whatever operation its method does.
-/
namespace Go.Proofs.YtoalncojijmelaaGreatDoor
open Go.RowKit Vl

/-- A row of flags in a block of the call's own, which may be written on. -/
structure Br (w : World) (g : Nat) (l : List Bool) : Prop where
  lt : g < w.heap.size
  at_ : ∀ (j : Nat) (x : Bool), l[j]? = some x → w.cell? ⟨g, j, none⟩ = some (.bool x)
  fr : ∀ j, j < l.length → w.frozen? ⟨g, j, none⟩ = false
theorem Br.set {w : World} {g : Nat} {l : List Bool} (h : Br w g l) {k : Nat} (hk : k < l.length) (x : Bool) : Br (w.setCell ⟨g, k, none⟩ (.bool x)) g (l.set k x) := by
  refine ⟨by simpa using h.lt, fun j y hy => ?_, fun j hj => ?_⟩
  · by_cases hjk : j = k
    · subst hjk
      rw [List.getElem?_set_self hk] at hy
      injection hy with hy
      subst hy
      exact World.cell?_setCell_same _ _ _ (h.at_ j _ (List.getElem?_eq_getElem hk))
    · rw [List.getElem?_set_ne (Ne.symm hjk)] at hy
      rw [World.cell?_setCell_other _ _ _ _ (by simp only [ne_eq, Addr.mk.injEq, true_and, and_true]; omega)]
      exact h.at_ j y hy
  · rw [World.frozen?_setCell]
    rw [List.length_set] at hj
    exact h.fr j hj
theorem Br.below {w w' : World} {g B : Nat} {l : List Bool} (h : Br w g l) (hb : Below B w w') (hg : g < B) : Br w' g l := by
  have hq := hb.block g hg
  have c : ∀ k, w'.cell? ⟨g, k, none⟩ = w.cell? ⟨g, k, none⟩ := fun k => by unfold World.cell?; rw [hq]
  have f : ∀ k, w'.frozen? ⟨g, k, none⟩ = w.frozen? ⟨g, k, none⟩ := fun k => by unfold World.frozen?; rw [hq]
  exact ⟨Nat.lt_of_lt_of_le h.lt hb.size, fun j x hx => (c j).trans (h.at_ j x hx), fun j hj => (f j).trans (h.fr j hj)⟩
theorem Br.rc {w : World} {g n c : Nat} {l : List Bool} (h : Br w g l) (hn : l.length = n) (h1 : n ≤ c) (h2 : c ≤ maxLen) : Rc 1 w w.heap.size (some ⟨g, 0, none⟩) n c (lvb l) :=
  ⟨by unfold lvb; rw [List.length_map, hn, Nat.mul_one], h1, h2, fun _ => ⟨g, 0, rfl, h.lt, fun j v hv => by
    rw [Nat.zero_add]
    unfold lvb at hv
    rw [List.getElem?_map] at hv
    obtain ⟨x, hx, rfl⟩ := Option.map_eq_some_iff.1 hv
    exact h.at_ j x hx⟩⟩
theorem make_bools (w : World) (m : Nat) (hm : m ≤ 1000000) :
    (Instr.makeSlice 47 (.int .i64 (m : Int)) (.int .i64 (m : Int))).run Tryz.prog w = .ok (.slice (some ⟨w.heap.size, 0, none⟩) m m) (w.alloc (.cells (Array.replicate m (.bool false)) 4)) := by
  obtain ⟨i, hi, hz0, hz1, hz2⟩ := info_parts bsty.inf
  have h := run_make (P := Tryz.prog) w 47 4 i (.bool false) bsty.sl hi hz0 .i64 .i64 (m : Int) (m : Int) (by omega) (by omega) (by rw [hz2]; omega) (by omega)
  simp only [Int.toNat_natCast, hz1, Nat.mul_one] at h
  rw [h]
  have e1 : madeCells (Value.bool false).cells m = Array.replicate m (.bool false) := by
    apply Array.toList_inj.1
    rw [show (Value.bool false).cells = #[Value.bool false] from rfl, toList_madeCells_one]
    simp
  rw [e1]
theorem bools_made (w : World) (m : Nat) : Br (w.alloc (.cells (Array.replicate m (.bool false)) 4)) w.heap.size (List.replicate m false) := by
  refine ⟨by simp, fun j x hx => ?_, fun j hj => by simp⟩
  rw [List.getElem?_replicate] at hx
  split at hx
  · injection hx with hx
    subst hx
    simp [*]
  · cases hx

set_option maxRecDepth 100000 in
/-- 'copy(a[:], l)' of at most three values of three cells into a block that was just made. -/
theorem run_copy3 (w0 : World) (ty T : TypeId) (cur : Array Value) (n c b2 o2 : Nat) (cs : List Value)
    (hn : n ≤ 3) (hcs : cs.length = n * 3) (hcur : cur.size = 9) (hsrc : ∀ j v, cs[j]? = some v → (w0.alloc (.cells cur T)).cell? ⟨b2, o2 + j, none⟩ = some v) (h1 : ∀ v ∈ cs, v.oneCell' = true)
    (row : Array Value) (hrow : (cs ++ cur.toList.drop cs.length).toArray = row) :
    (Builtin.copy_ #[27, 27] ty #[.slice (some ⟨w0.heap.size, 0, none⟩) 3 3, .slice (some ⟨b2, o2, none⟩) n c]).run Tryz.prog (w0.alloc (.cells cur T)) = .ok (goInt n) (w0.alloc (.cells row T)) := by
  have hs : (Tryz.prog.info? 32).map (·.size) = some 3 := by kernel_rfl
  have hl := run_loadCells_list (P := Tryz.prog) (w0.alloc (.cells cur T)) ⟨b2, o2, none⟩ cs (fun j v hv => by
    have e : (⟨b2, o2, none⟩ : Addr).add j = ⟨b2, o2 + j, none⟩ := by unfold Addr.add; split <;> simp_all
    rw [e]; exact hsrc j v hv)
  have hst := run_storeCells_at Tryz.prog w0.heap.size 0 T cs 0 cur (w0.alloc (.cells cur T)) (heap_alloc_last w0 _) (by simp; omega) h1
  have hw : (w0.alloc (.cells cur T)).setRow w0.heap.size (cur.toList.take (0 + 0) ++ cs ++ cur.toList.drop (0 + 0 + cs.length)).toArray = w0.alloc (.cells row T) := by
    rw [World.setRow_alloc_new]
    congr 2
    rw [← hrow]
    simp
  rw [hw] at hst
  cases hq : Tryz.prog.info? 32 with
  | none => simp [hq] at hs
  | some i =>
    have hi : i.size = 3 := by simpa [hq] using hs
    have hmin : Nat.min n 3 = n := Nat.min_eq_left hn
    simp [Builtin.copy_, run_underlying Tryz.underlying27, Builtin.lenOf, Builtin.firstCells, sizeOf, typeInfo, hq, hi, hmin, ← hcs, hl, hst]

theorem fn_enter (m : Nat) (h1 : 4 ≤ m) (h2 : m ≤ 21) : ∀ args w, (callFunc (kf m) args).run Tryz.prog w = .ok (.enter (kf m) args) w := by
  rcases op_cases h1 h2 with rfl | rfl | rfl | rfl | rfl | rfl | rfl | rfl | rfl | rfl | rfl | rfl | rfl | rfl | rfl | rfl | rfl | rfl
  · exact enters_of Tryz.func71 (by kernel_rfl) rfl
  · exact enters_of Tryz.func72 (by kernel_rfl) rfl
  · exact enters_of Tryz.func73 (by kernel_rfl) rfl
  · exact enters_of Tryz.func74 (by kernel_rfl) rfl
  · exact enters_of Tryz.func75 (by kernel_rfl) rfl
  · exact enters_of Tryz.func76 (by kernel_rfl) rfl
  · exact enters_of Tryz.func77 (by kernel_rfl) rfl
  · exact enters_of Tryz.func78 (by kernel_rfl) rfl
  · exact enters_of Tryz.func79 (by kernel_rfl) rfl
  · exact enters_of Tryz.func80 (by kernel_rfl) rfl
  · exact enters_of Tryz.func81 (by kernel_rfl) rfl
  · exact enters_of Tryz.func82 (by kernel_rfl) rfl
  · exact enters_of Tryz.func83 (by kernel_rfl) rfl
  · exact enters_of Tryz.func84 (by kernel_rfl) rfl
  · exact enters_of Tryz.func85 (by kernel_rfl) rfl
  · exact enters_of Tryz.func86 (by kernel_rfl) rfl
  · exact enters_of Tryz.func87 (by kernel_rfl) rfl
  · exact enters_of Tryz.func88 (by kernel_rfl) rfl

/-- What operation m comes to over three values. -/
def opV (m : Nat) (a b c : V) : V := if (m : Int) ≤ 8 ∨ 14 ≤ (m : Int) ∧ (m : Int) ≤ 17 then rek m a b c else tex m a b c
theorem meth_c (m : Nat) (h1 : 4 ≤ m) (h2 : m ≤ 21) (a b c : V) (ha : isV a = true) (hb : isV b = true) (ia : I a.n) (ib : I b.n) (w : World) (hg : Gl w) :
    Calls Tryz.prog (kf m) #[ar9 a b c] w (RetV w (vv (opV m a b c))) := by
  have la := isV_len ha
  have lb := isV_len hb
  have sa : a.s.length ≤ 1000000 := by omega
  rcases op_cases h1 h2 with rfl | rfl | rfl | rfl | rfl | rfl | rfl | rfl | rfl | rfl | rfl | rfl | rfl | rfl | rfl | rfl | rfl | rfl
  · exact p_add a b c w
  · exact p_sub a b c w
  · exact p_mul a b c w
  · exact p_div a b c ia w
  · exact p_mod a b c ib w
  · exact p_join a b c (by omega) w
  · exact p_length a b c w
  · exact p_slice a b c sa w
  · exact p_upper a b c sa w
  · exact p_lower a b c sa w
  · exact p_eq a b c ha hb w
  · exact p_less a b c ha hb w
  · exact p_not a b c w
  · exact p_choose a b c w
  · exact p_num a b c sa w
  · exact p_text a b c ia w hg
  · exact p_hash a b c sa w
  · exact p_find a b c sa w hg
end Go.Proofs.YtoalncojijmelaaGreatDoor

/-
  The program's Do.
-/
namespace Go.Proofs.YtoalncojijmelaaGreatDoor
open Go.RowKit Vl

def PdRel (base : Nat) (w : World) (n : Nat) (l : List V) (i : Value) (wr : World) : Prop :=
  ∃ k : Nat, i = .int .i64 (k : Int) ∧ k ≤ n ∧ Br wr (base + 1) ((l.take k).map (·.t) ++ List.replicate (n - k) false) ∧ (l.take k).all isV = true ∧ Below base w wr ∧ Bx wr base (.bool false) (.int .i64 0) (.string ⟨#[]⟩)
/-- What may be thought of a call's way through the operation. -/
theorem doV_bad {op : Int} {l : List V} {k : Nat} {v : V} (hv : l[k]? = some v) (h : isV v = false) : doV op l = (v0, 1) := by
  unfold doV
  rw [if_neg]
  intro q
  have := List.all_eq_true.1 q v (List.mem_of_getElem? hv)
  rw [h] at this; cases this
theorem doV_err {op : Int} {l : List V} (h : l.all isV = true) (h0 : (res op (l.map (·.t))).2 ≠ 0) : doV op l = (v0, (res op (l.map (·.t))).2) := by
  unfold doV; rw [if_pos h, if_neg h0]
theorem doV_ok {m : Nat} {l : List V} (h : l.all isV = true) (h0 : (res (m : Int) (l.map (·.t))).2 = 0) : doV (m : Int) l = (opV m (l.getD 0 v0) (l.getD 1 v0) (l.getD 2 v0), 0) := by
  unfold doV opV; rw [if_pos h, if_pos h0]
theorem res_ok {op : Int} {L : List Bool} (h : (res op L).2 = 0) : 4 ≤ op ∧ op ≤ 21 ∧ L.length = ar op := by
  by_cases hop : 4 ≤ op ∧ op ≤ 21
  · refine ⟨hop.1, hop.2, ?_⟩
    obtain ⟨m, rfl⟩ : ∃ m : Nat, op = m := ⟨op.toNat, by omega⟩
    rw [res_mt m (by omega) (by omega)] at h
    by_cases hm : mt (k0 m) (k1 m) (k2 m) L = true
    · rw [ar_nz m (by omega) (by omega)]
      by_cases hq : L.length = nz (k0 m) (k1 m) (k2 m)
      · exact hq
      · rw [mt_long hq] at hm; cases hm
    · rw [if_neg hm] at h; cases h
  · rw [res_out hop] at h; cases h
theorem nine_row (l : List V) (h : 0 < l.length) (h3 : l.length ≤ 3) :
    (vvs l ++ [Value.bool false, .int .i64 0, .string ⟨#[]⟩, .bool false, .int .i64 0, .string ⟨#[]⟩, .bool false, .int .i64 0, .string ⟨#[]⟩].drop (vvs l).length).toArray =
      #[.bool (l.getD 0 v0).t, .int .i64 (l.getD 0 v0).n, st (l.getD 0 v0).s, .bool (l.getD 1 v0).t, .int .i64 (l.getD 1 v0).n, st (l.getD 1 v0).s, .bool (l.getD 2 v0).t, .int .i64 (l.getD 2 v0).n, st (l.getD 2 v0).s] := by
  rcases l with _ | ⟨x, _ | ⟨y, _ | ⟨z, _ | ⟨u, r⟩⟩⟩⟩
  · simp at h
  · rfl
  · rfl
  · rfl
  · simp at h3
theorem vvs_one (l : List V) : ∀ v ∈ vvs l, v.oneCell' = true := by
  intro v hv
  unfold vvs at hv
  obtain ⟨x, -, hx⟩ := List.mem_flatMap.1 hv
  simp at hx
  rcases hx with rfl | rfl | rfl <;> rfl

set_option maxRecDepth 100000 in
set_option maxHeartbeats 4000000 in
theorem pDo_c (op : Int) (A : Option Addr) (n c : Nat) (l : List V) (w : World) (hg : Gl w) (hr : Rc 3 w w.heap.size A n c (vvs l)) (hn : n ≤ 1000000) (hI : ∀ v ∈ l, I v.n) :
    Calls Tryz.prog 58 #[.int .i64 op, .slice A n c] w (RetD w (doV op l)) := by
  have hl : l.length = n := by have := hr.1; rw [vvs_len] at this; omega
  obtain ⟨w0, hw0⟩ : ∃ w0, w0 = w.alloc (.cells #[.bool false, .int .i64 0, .string ⟨#[]⟩] 32) := ⟨_, rfl⟩
  have z0 : w0.heap.size = w.heap.size + 1 := by rw [hw0]; simp
  have b0 : Below w.heap.size w w0 := by rw [hw0]; exact (Below.refl _ _).alloc (Nat.le_refl _) _
  have x0 : Bx w0 w.heap.size (.bool false) (.int .i64 0) (.string ⟨#[]⟩) := by rw [hw0]; exact Bx.made _ _ _ _ _
  have hmk := make_bools w0 n hn
  obtain ⟨w1, hw1⟩ : ∃ w1, w1 = w0.alloc (.cells (Array.replicate n (.bool false)) 4) := ⟨_, rfl⟩
  have b1 : Below w0.heap.size w0 w1 := by rw [hw1]; exact (Below.refl _ _).alloc (Nat.le_refl _) _
  have r1 : Br w1 (w.heap.size + 1) (List.replicate n false) := by rw [hw1, ← z0]; exact bools_made w0 n
  rw [← hw1, z0] at hmk
  have x1 := x0.below b1 x0.lt
  have bb1 := b0.trans (b1.mono (by omega))
  obtain ⟨R, hR⟩ : ∃ R, R = doV op l := ⟨_, rfl⟩
  rw [← hR]
  have W0 := Lib.hid hw0; have B1 := Lib.hid bb1; have X1 := Lib.hid x1; have R1 := Lib.hid r1; have Hg := Lib.hid hg; have HI := Lib.hid hI; have HR := Lib.hid hR; have Hr := Lib.hid hr; have Hl := Lib.hid hl
  clear hw0 z0 b0 x0 hw1 b1 r1 x1 bb1 hR hg hI hr hl
  go_enter Tryz.func58, Tryz.ntmps58
  go_wp2_with (rw [← W0.out])
  go_loopw [7, 8, 19] (fun _ _ i wr => PdRel w.heap.size w n l i wr) (fun _ _ i _ => n - (intOf i).toNat)
  case atStart => exact ⟨0, rfl, Nat.zero_le _, R1.out, rfl, B1.out, X1.out⟩
  case round =>
    obtain ⟨k, rfl, hk, hbr, hall, hbel, hbx⟩ := hrel
    rename World => wr
    have z3 := hbel.size
    by_cases hlt : k < n
    · obtain ⟨b, o, v, rfl, hb, hc0, hc1, hc2, hv⟩ := vvs_at (Hr.out.below hbel) hlt
      have htk : l.take (k + 1) = l.take k ++ [v] := by rw [List.take_add_one, hv]; rfl
      have hbw : b < wr.heap.size := by omega
      have hkl : (l.take k).length = k := by rw [List.length_take, Hl.out]; omega
      obtain ⟨t, m, s⟩ := v
      dsimp only at hc0 hc1 hc2
      have hct : wr.cell? ⟨b, o + k * 3, none⟩ = some (.bool t) := hc0
      obtain ⟨w2, hw2⟩ : ∃ w2, w2 = wr.alloc (.cells #[.bool t, .int .i64 m, .string ⟨s.toArray⟩] 32) := ⟨_, rfl⟩
      have b2 : Below wr.heap.size wr w2 := by rw [hw2]; exact (Below.refl _ _).alloc (Nat.le_refl _) _
      have y2 : Bx w2 wr.heap.size (.bool t) (.int .i64 m) (.string ⟨s.toArray⟩) := by rw [hw2]; exact Bx.made _ _ _ _ _
      obtain ⟨ok, hok⟩ : ∃ ok, ok = isV ⟨t, m, s⟩ := ⟨_, rfl⟩
      have his := isValue_c ⟨t, m, s⟩ w2
      rw [← hok] at his
      have bx2 := hbx.below b2 hbx.lt
      have br2 := hbr.below b2 hbr.lt
      have W2 := Lib.hid hw2; have His := Lib.hid his; have Hok := Lib.hid hok; have Htk := Lib.hid htk; have Hv := Lib.hid hv; have Hall := Lib.hid hall; have Hkl := Lib.hid hkl
      have BB2 := Lib.hid (hbel.trans (b2.mono z3)); have Br2 := Lib.hid br2; have Bx2 := Lib.hid bx2; have Y2 := Lib.hid y2
      obtain ⟨y0, y1, y2, g0, g1, g2, gl⟩ := y2
      clear hw2 b2 his hok htk hv hall hkl hbel hbr hbx br2 bx2 hb
      go_wp2_with (rw [← W2.out])
      refine His.out.mono ?_
      rintro e w4 ⟨rfl, b4⟩
      have bx4 := Bx2.out.below b4 Bx2.out.lt
      have br4 := Br2.out.below b4 Br2.out.lt
      have y4 := Y2.out.below b4 Y2.out.lt
      have BB4 := Lib.hid (BB2.out.trans (b4.mono BB2.out.size))
      have Bx4 := Lib.hid bx4; have Br4 := Lib.hid br4
      clear y0 y1 y2 g0 g1 g2 gl b4 hc0 hc1 hc2 hct
      cases ok with
      | false =>
        have hR : R = (v0, 1) := by rw [HR.out]; exact doV_bad Hv.out Hok.out.symm
        subst hR
        obtain ⟨c0, c1, c2, f0, f1, f2, -⟩ := bx4
        clear br4 y4
        go_wp2
        change bodyPost _ _ _ _ _ (put3 w4 w.heap.size _ _ _)
        refine bodyPost_ret (v := .tuple #[vv v0, .int .i64 1]) ?_ rfl ⟨rfl, BB4.out.trans (put3_below _ _ _ _ _)⟩
        have s0 := fun v0 v1 v2 => (put3_box Bx4.out v0 v1 v2).c0
        have s1 := fun v0 v1 v2 => (put3_box Bx4.out v0 v1 v2).c1
        have s2 := fun v0 v1 v2 => (put3_box Bx4.out v0 v1 v2).c2
        simp [results, Tryz.results58, go_sem, s0, s1, s2, v0]
      | true =>
        obtain ⟨e0, e1, e2, -, -, -, -⟩ := y4
        have hkL : k < ((l.take k).map (·.t) ++ List.replicate (n - k) false).length := by rw [List.length_append, List.length_map, Hkl.out, List.length_replicate]; omega
        have cz : w4.cell? ⟨w.heap.size + 1, k, none⟩ = some (.bool false) := br4.at_ k false (by
          rw [List.getElem?_append_right (by rw [List.length_map, Hkl.out]; exact Nat.le_refl _), List.length_map, Hkl.out, Nat.sub_self, List.getElem?_replicate, if_pos (by omega)])
        have fz : w4.frozen? ⟨w.heap.size + 1, k, none⟩ = false := br4.fr k hkL
        have HkL := Lib.hid hkL
        clear bx4 br4 hkL
        go_wp2
        go_roundw
        case rel =>
          refine ⟨k + 1, by go_num, hlt, ?_, ?_, BB4.out.trans ((below_set1 w4 (w.heap.size + 1) k (.bool t)).mono (by omega)), Bx4.out.keep (by simp) ((below_set1 w4 (w.heap.size + 1) k (.bool t)).block w.heap.size (by omega))⟩
          · have h := Br4.out.set (k := k) HkL.out t
            have e : ((l.take k).map (·.t) ++ List.replicate (n - k) false).set k t = (l.take (k + 1)).map (·.t) ++ List.replicate (n - (k + 1)) false := by
              rw [Htk.out, List.set_append_right _ _ (by rw [List.length_map, Hkl.out]; exact Nat.le_refl _), List.length_map, Hkl.out, Nat.sub_self, show n - k = (n - (k + 1)) + 1 by omega, List.replicate_succ]
              simp
            rw [e] at h
            exact h
          · rw [Htk.out, List.all_append, Hall.out]; simp [← Hok.out]
        case measure => simp [intOf]; omega
    · obtain rfl : k = n := by omega
      rw [List.take_of_length_le (by rw [Hl.out]; exact Nat.le_refl _)] at hall hbr
      rw [Nat.sub_self, List.replicate_zero, List.append_nil] at hbr
      have hLl : (l.map (·.t)).length = k := by rw [List.length_map, Hl.out]
      have hrc := hbr.rc hLl (Nat.le_refl _) (by unfold maxLen; omega)
      have hrs := pResult_c op (some ⟨w.heap.size + 1, 0, none⟩) k k (l.map (·.t)) wr hrc hn
      obtain ⟨rt, re, hRS⟩ : ∃ x y, res op (l.map (·.t)) = (x, y) := ⟨_, _, rfl⟩
      rw [hRS] at hrs
      have Hrs := Lib.hid hrs; have HRS := Lib.hid hRS; have Hall := Lib.hid hall; have Hbel := Lib.hid hbel; have Hbx := Lib.hid hbx; have HLl := Lib.hid hLl
      clear hrs hRS hall hbel hbx hbr hrc hLl
      go_wp2_with fail
      refine Hrs.out.mono ?_
      rintro e w5 ⟨rfl, b5⟩
      dsimp only
      have bx5 := Hbx.out.below b5 Hbx.out.lt
      have BB5 := Lib.hid (Hbel.out.trans (b5.mono z3))
      have Bx5 := Lib.hid bx5
      have b5z := b5.size
      clear b5
      by_cases he : re = 0
      · subst he
        have hr0 : (res op (l.map (·.t))).2 = 0 := by rw [HRS.out]
        obtain ⟨o1, o2, o3⟩ := res_ok hr0
        obtain ⟨m, rfl⟩ : ∃ m : Nat, op = m := ⟨op.toNat, by omega⟩
        have hm1 : 4 ≤ m := by omega
        have hm2 : m ≤ 21 := by omega
        have hk3 : k ≤ 3 ∧ 0 < k := by
          rw [HLl.out, ar_nz m hm1 hm2] at o3
          have h3 := nz_le (k0 m) (k1 m) (k2 m)
          refine ⟨by omega, ?_⟩
          rw [o3]
          rcases op_cases hm1 hm2 with rfl | rfl | rfl | rfl | rfl | rfl | rfl | rfl | rfl | rfl | rfl | rfl | rfl | rfl | rfl | rfl | rfl | rfl
          all_goals decide
        have hRR : R = (opV m (l.getD 0 v0) (l.getD 1 v0) (l.getD 2 v0), 0) := by rw [HR.out]; exact doV_ok Hall.out hr0
        obtain ⟨rv, hrv⟩ : ∃ rv, rv = opV m (l.getD 0 v0) (l.getD 1 v0) (l.getD 2 v0) := ⟨_, rfl⟩
        rw [← hrv] at hRR
        subst hRR
        have hd : ∀ j, isV (l.getD j v0) = true := getD_V Hall.out
        have hid : ∀ j, I (l.getD j v0).n := fun j => by
          rw [List.getD_eq_getElem?_getD]
          cases hq : l[j]? with
          | none => show I (0 : Int); unfold I; omega
          | some v => exact HI.out v (List.mem_of_getElem? hq)
        have hme := fun W (hW : Gl W) => meth_c m hm1 hm2 (l.getD 0 v0) (l.getD 1 v0) (l.getD 2 v0) (hd 0) (hd 1) (hid 0) (hid 1) W hW
        rw [← hrv] at hme
        have hen := fn_enter m hm1 hm2
        have hop := opOf_in m hm1 hm2 w5
        have hnine := nine_row l (by rw [Hl.out]; exact hk3.2) (by rw [Hl.out]; exact hk3.1)
        obtain ⟨a, ha⟩ : ∃ a, a = l.getD 0 v0 := ⟨_, rfl⟩
        obtain ⟨b, hb⟩ : ∃ a, a = l.getD 1 v0 := ⟨_, rfl⟩
        obtain ⟨d, hdd⟩ : ∃ a, a = l.getD 2 v0 := ⟨_, rfl⟩
        rw [← ha, ← hb, ← hdd] at hme hnine
        obtain ⟨a0, ha0⟩ : ∃ a, a = k0 m := ⟨_, rfl⟩
        obtain ⟨a1, ha1⟩ : ∃ a, a = k1 m := ⟨_, rfl⟩
        obtain ⟨a2, ha2⟩ : ∃ a, a = k2 m := ⟨_, rfl⟩
        obtain ⟨a3, ha3⟩ : ∃ a, a = kr m := ⟨_, rfl⟩
        obtain ⟨FF, ha4⟩ : ∃ a, a = kf m := ⟨_, rfl⟩
        rw [← ha0, ← ha1, ← ha2, ← ha3, ← ha4] at hop
        rw [← ha4] at hme hen
        obtain ⟨bb, oo, hA, hbb, hcc⟩ := Hr.out.2.2.2 hk3.2
        have Hop := Lib.hid hop; have Hme := Lib.hid hme; have Hen := Lib.hid hen; have Hnine := Lib.hid hnine; have Hcc := Lib.hid hcc
        have hk3' := hk3.1
        clear hop hme hnine ha hb hdd ha0 ha1 ha2 ha3 ha4 hrv hd hid o1 o2 o3 hr0 HRS Hrs hm1 hm2 hk3 bx5 hcc hen
        subst hA
        go_wp2_with fail
        refine Hop.out.mono ?_
        rintro e w6 ⟨rfl, b6⟩
        obtain ⟨w7, hw7⟩ : ∃ w7, w7 = w6.alloc (.cells #[.int .u8 (a0 : Int), .int .u8 (a1 : Int), .int .u8 (a2 : Int), .int .u8 (a3 : Int), fu FF] 94) := ⟨_, rfl⟩
        have z7 : w7.heap.size = w6.heap.size + 1 := by rw [hw7]; simp
        have b7 : Below w6.heap.size w6 w7 := by rw [hw7]; exact (Below.refl _ _).alloc (Nat.le_refl _) _
        have c4 : w7.cell? ⟨w6.heap.size, 4, none⟩ = some (fu FF) := by rw [hw7]; simp
        have bx6 := Bx5.out.below b6 Bx5.out.lt
        have bx7 := bx6.below b7 bx6.lt
        have BB7 := Lib.hid (BB5.out.trans ((b6.trans (b7.mono b6.size)).mono BB5.out.size))
        obtain ⟨w9, hw9⟩ : ∃ w9, w9 = w7.alloc (.cells #[.bool a.t, .int .i64 a.n, st a.s, .bool b.t, .int .i64 b.n, st b.s, .bool d.t, .int .i64 d.n, st d.s] 112) := ⟨_, rfl⟩
        have b9 : Below w7.heap.size w7 w9 := by rw [hw9]; exact (Below.refl _ _).alloc (Nat.le_refl _) _
        have a9 : Ar9 w9 w7.heap.size a b d := by rw [hw9]; exact Ar9.made _ _ _ _ _
        have q4 := (b9.cell (p := ⟨w6.heap.size, 4, none⟩) (show w6.heap.size < w7.heap.size by omega)).trans c4
        have bx9 := bx7.below b9 bx7.lt
        have BB9 := Lib.hid (BB7.out.trans (b9.mono BB7.out.size))
        have hsrc : ∀ j v, (vvs l)[j]? = some v → (w7.alloc (.cells #[.bool false, .int .i64 0, .string ⟨#[]⟩, .bool false, .int .i64 0, .string ⟨#[]⟩, .bool false, .int .i64 0, .string ⟨#[]⟩] 112)).cell? ⟨bb, oo + j, none⟩ = some v := fun j v hj => by
          rw [World.cell?_alloc_lt _ _ _ (show bb < w7.heap.size by have := BB7.out.size; omega)]
          exact (BB7.out.cell (p := ⟨bb, oo + j, none⟩) hbb).trans (Hcc.out j v hj)
        have hln : (vvs l).length = k * 3 := by rw [vvs_len, Hl.out]
        have hcp := run_copy3 w7 3 112 #[.bool false, .int .i64 0, .string ⟨#[]⟩, .bool false, .int .i64 0, .string ⟨#[]⟩, .bool false, .int .i64 0, .string ⟨#[]⟩] k c bb oo (vvs l) hk3' hln rfl hsrc (vvs_one l) _ Hnine.out
        rw [← hw9] at hcp
        have W7 := Lib.hid hw7; have W9 := Lib.hid hw9; have Z7 := Lib.hid z7; have Bx9 := Lib.hid bx9
        have Hme9 := Lib.hid (Hme.out w9 (Hg.out.below' BB9.out))
        obtain ⟨-, s0, s1, s2, s3, s4, s5, s6, s7, s8⟩ := a9
        clear hw7 hw9 b7 b9 c4 bx6 bx7 hsrc z7 b6 hln bx9
        have hen := Hen.out
        go_wp2_with (rw [← W7.out])
        refine Hme9.out.mono ?_
        rintro e wa ⟨rfl, ba⟩
        obtain ⟨rt', rn, rs⟩ := rv
        have bxa := Bx9.out.below ba Bx9.out.lt
        have BBa := Lib.hid (BB9.out.trans (ba.mono BB9.out.size))
        have Bxa := Lib.hid bxa
        obtain ⟨t0, t1, t2, f0, f1, f2, -⟩ := bxa
        clear ba s0 s1 s2 s3 s4 s5 s6 s7 s8 q4 hcp hen
        go_wp2
        change bodyPost _ _ _ _ _ (put3 wa w.heap.size _ _ _)
        refine bodyPost_ret (v := .tuple #[vv ⟨rt', rn, rs⟩, .int .i64 0]) ?_ rfl ⟨rfl, BBa.out.trans (put3_below _ _ _ _ _)⟩
        have s0 := fun v0 v1 v2 => (put3_box Bxa.out v0 v1 v2).c0
        have s1 := fun v0 v1 v2 => (put3_box Bxa.out v0 v1 v2).c1
        have s2 := fun v0 v1 v2 => (put3_box Bxa.out v0 v1 v2).c2
        simp [results, Tryz.results58, go_sem, s0, s1, s2]
      · have hR : R = (v0, re) := by rw [HR.out]; have := doV_err (op := op) Hall.out (by rw [HRS.out]; exact he); rw [HRS.out] at this; exact this
        subst hR
        have d1 : ((re : Int) != 0) = true := by simp; omega
        obtain ⟨c0, c1, c2, f0, f1, f2, -⟩ := bx5
        clear he
        go_wp2
        change bodyPost _ _ _ _ _ (put3 w5 w.heap.size _ _ _)
        refine bodyPost_ret (v := .tuple #[vv v0, .int .i64 (re : Int)]) ?_ rfl ⟨rfl, BB5.out.trans (put3_below _ _ _ _ _)⟩
        have s0 := fun v0 v1 v2 => (put3_box Bx5.out v0 v1 v2).c0
        have s1 := fun v0 v1 v2 => (put3_box Bx5.out v0 v1 v2).c1
        have s2 := fun v0 v1 v2 => (put3_box Bx5.out v0 v1 v2).c2
        simp [results, Tryz.results58, go_sem, s0, s1, s2, v0]
end Go.Proofs.YtoalncojijmelaaGreatDoor
