/-
  The program's methods of arguments: slice, upper, lower, num, text, hash, find.
-/
import Derived.Test.YtkkjgiejnblopaaDoorPE
import Derived.Test.YtkkjgiejnblopaaDoorPG
import Derived.Test.YtkkjgiejnblopaaDoorGl
namespace Go.Proofs.YtkkjgiejnblopaaDoor
open Go.RowKit Vl

theorem decDigits_figs : ∀ (k n : Nat), n ≤ k → Lib.decDigits n = figs n
  | k, n, hk => by
    by_cases h : n < 10
    · rw [figs_small h, Lib.decDigits_one h]
    · cases k with
      | zero => omega
      | succ k => rw [figs_big h, Lib.decDigits, dif_neg h, decDigits_figs k (n / 10) (by omega)]
theorem itoa_figures (n : Int) : Lib.itoa n = figures n := by
  unfold Lib.itoa figures
  by_cases h : n < 0
  · rw [if_pos h, if_pos h, decDigits_figs _ _ (Nat.le_refl _), show n.natAbs = (-n).toNat by omega]
  · rw [if_neg h, if_neg h, decDigits_figs _ _ (Nat.le_refl _)]
theorem occ_iff (s t : List UInt8) (i : Nat) : Lib.occAt s t i = true ↔ (s.drop i).take t.length = t := by
  unfold Lib.occAt
  rw [List.isPrefixOf_iff_prefix, List.prefix_iff_eq_take]
  exact ⟨fun h => h.symm, fun h => h.symm⟩
theorem index_fnd (s t : List UInt8) : ∀ (k i : Nat), i + k = s.length + 1 → (∀ j, j < i → Lib.occAt s t j = false) → Lib.index s t = fnd s t i k
  | 0, i, hi, h => by
    show _ = (-1 : Int)
    exact Lib.index_none fun j hj => h j (by omega)
  | k + 1, i, hi, h => by
    unfold fnd
    by_cases hle : i + t.length ≤ s.length
    · rw [if_pos hle]
      by_cases ho : (s.drop i).take t.length = t
      · rw [if_pos ho]
        exact Lib.index_first (by omega) ((occ_iff s t i).2 ho) h
      · rw [if_neg ho]
        refine index_fnd s t k (i + 1) (by omega) fun j hj => ?_
        by_cases hji : j = i
        · subst hji; exact Bool.eq_false_iff.2 fun q => ho ((occ_iff s t j).1 q)
        · exact h j (by omega)
    · rw [if_neg hle]
      refine Lib.index_none fun j hj => ?_
      by_cases hji : j < i
      · exact h j hji
      · refine Bool.eq_false_iff.2 fun q => ?_
        have := congrArg List.length ((occ_iff s t j).1 q)
        rw [List.length_take, List.length_drop] at this
        omega
theorem index_find (s t : List UInt8) : Lib.index s t = find s t := index_fnd s t (s.length + 1) 0 (by omega) (fun j hj => absurd hj (by omega))
theorem pfigs_len (n : Nat) (h : n < 100000000000000000000) : (figs n).length ≤ 20 := (digs_figs 19 n (by rw [pow20]; exact h)).2.1
theorem pfig_len {n : Int} (h : I n) : (figures n).length ≤ 1000000 := by
  unfold figures I at *
  split
  · have := pfigs_len (-n).toNat (by omega); rw [List.length_cons]; omega
  · have := pfigs_len n.toNat (by omega); omega
theorem figures_short {n : Int} (h : I n) : figures n = (figures n).take 1000 := by
  symm; apply List.take_of_length_le
  unfold figures I at *
  split
  · have := pfigs_len (-n).toNat (by omega); rw [List.length_cons]; omega
  · have := pfigs_len n.toNat (by omega); omega

theorem below_grow (w : World) (k : Nat) (os : Array Obj) : Below w.heap.size w (Sort.grow (w.drewN k) os) := by
  refine ⟨rfl, rfl, rfl, ?_, fun j hj => ?_⟩
  · simp [Sort.grow]
  · simp [Sort.grow]
    exact Array.getElem?_append_left hj
set_option maxRecDepth 100000 in
set_option maxHeartbeats 1000000 in
theorem p_upper (x y z : V) (hx : x.s.length ≤ 1000000) (w : World) : Calls Tryd.prog 39 #[ar9 x y z] w (RetV w (vv (txt (turned x.s 97)))) := by
  obtain ⟨w1, w2, W1, W2, Z1, BB, A2, X2⟩ := open9 w x y z
  have XX := Lib.hid X2
  have AA := Lib.hid A2
  obtain ⟨-, c0, c1, c2, c3, c4, c5, c6, c7, c8⟩ := A2
  obtain ⟨e0, e1, e2, f0, f1, f2, hlt⟩ := X2
  obtain ⟨U, hU⟩ : ∃ U, U = turned x.s 97 := ⟨_, rfl⟩
  have HU := Lib.hid hU
  have Hoc := Lib.hid (fun W => (show Calls Tryd.prog 64 #[st x.s, .int .u8 97, .int .u8 122] W (RetV W (st U)) from by rw [hU]; exact otherCase_c x.s hx 97 97 122 rfl rfl W))
  rw [← hU]
  clear hU
  go_enter Tryd.func39, Tryd.ntmps39
  go_wp2_with (first | rw [← W1.out, ← W2.out, Z1.out] | rw [← W1.out, ← W2.out])
  refine (Hoc.out _).mono ?_
  rintro e w3 ⟨rfl, bq⟩
  have xq := XX.out.below bq XX.out.lt
  have BB := Lib.hid (BB.out.trans (bq.mono BB.out.size))
  have XX := Lib.hid xq
  clear e0 e1 e2 f0 f1 f2 hlt bq c0 c1 c2 c3 c4 c5 c6 c7 c8
  obtain ⟨e0, e1, e2, f0, f1, f2, hlt⟩ := xq
  go_wp2_with (fail)
  refine (ptext_c U (by rw [HU.out, turned_len]; exact hx) _).mono ?_
  rintro e w4 ⟨rfl, bq⟩
  have xq := XX.out.below bq XX.out.lt
  have BB := Lib.hid (BB.out.trans (bq.mono BB.out.size))
  have XX := Lib.hid xq
  clear e0 e1 e2 f0 f1 f2 hlt bq
  obtain ⟨e0, e1, e2, f0, f1, f2, hlt⟩ := xq
  go_wp2
  change bodyPost _ _ _ _ _ (put3 w4 (w.heap.size + 1) _ _ _)
  have s0 := fun v0 v1 v2 => (put3_box XX.out v0 v1 v2).c0
  have s1 := fun v0 v1 v2 => (put3_box XX.out v0 v1 v2).c1
  have s2 := fun v0 v1 v2 => (put3_box XX.out v0 v1 v2).c2
  refine bodyPost_ret (v := .agg #[.bool true, .int .i64 0, .string ⟨(U.take 1000).toArray⟩]) ?_ rfl ⟨rfl, BB.out.trans ((put3_below _ _ _ _ _).mono (by omega))⟩
  simp [results, Tryd.results39, go_sem, s0, s1, s2]

set_option maxRecDepth 100000 in
set_option maxHeartbeats 1000000 in
theorem p_lower (x y z : V) (hx : x.s.length ≤ 1000000) (w : World) : Calls Tryd.prog 40 #[ar9 x y z] w (RetV w (vv (txt (turned x.s 65)))) := by
  obtain ⟨w1, w2, W1, W2, Z1, BB, A2, X2⟩ := open9 w x y z
  have XX := Lib.hid X2
  have AA := Lib.hid A2
  obtain ⟨-, c0, c1, c2, c3, c4, c5, c6, c7, c8⟩ := A2
  obtain ⟨e0, e1, e2, f0, f1, f2, hlt⟩ := X2
  obtain ⟨U, hU⟩ : ∃ U, U = turned x.s 65 := ⟨_, rfl⟩
  have HU := Lib.hid hU
  have Hoc := Lib.hid (fun W => (show Calls Tryd.prog 64 #[st x.s, .int .u8 65, .int .u8 90] W (RetV W (st U)) from by rw [hU]; exact otherCase_c x.s hx 65 65 90 rfl rfl W))
  rw [← hU]
  clear hU
  go_enter Tryd.func40, Tryd.ntmps40
  go_wp2_with (first | rw [← W1.out, ← W2.out, Z1.out] | rw [← W1.out, ← W2.out])
  refine (Hoc.out _).mono ?_
  rintro e w3 ⟨rfl, bq⟩
  have xq := XX.out.below bq XX.out.lt
  have BB := Lib.hid (BB.out.trans (bq.mono BB.out.size))
  have XX := Lib.hid xq
  clear e0 e1 e2 f0 f1 f2 hlt bq c0 c1 c2 c3 c4 c5 c6 c7 c8
  obtain ⟨e0, e1, e2, f0, f1, f2, hlt⟩ := xq
  go_wp2_with (fail)
  refine (ptext_c U (by rw [HU.out, turned_len]; exact hx) _).mono ?_
  rintro e w4 ⟨rfl, bq⟩
  have xq := XX.out.below bq XX.out.lt
  have BB := Lib.hid (BB.out.trans (bq.mono BB.out.size))
  have XX := Lib.hid xq
  clear e0 e1 e2 f0 f1 f2 hlt bq
  obtain ⟨e0, e1, e2, f0, f1, f2, hlt⟩ := xq
  go_wp2
  change bodyPost _ _ _ _ _ (put3 w4 (w.heap.size + 1) _ _ _)
  have s0 := fun v0 v1 v2 => (put3_box XX.out v0 v1 v2).c0
  have s1 := fun v0 v1 v2 => (put3_box XX.out v0 v1 v2).c1
  have s2 := fun v0 v1 v2 => (put3_box XX.out v0 v1 v2).c2
  refine bodyPost_ret (v := .agg #[.bool true, .int .i64 0, .string ⟨(U.take 1000).toArray⟩]) ?_ rfl ⟨rfl, BB.out.trans ((put3_below _ _ _ _ _).mono (by omega))⟩
  simp [results, Tryd.results40, go_sem, s0, s1, s2]

set_option maxRecDepth 100000 in
set_option maxHeartbeats 1000000 in
theorem p_num (x y z : V) (hx : x.s.length ≤ 1000000) (w : World) : Calls Tryd.prog 45 #[ar9 x y z] w (RetV w (vv (num (number x.s)))) := by
  obtain ⟨w1, w2, W1, W2, Z1, BB, A2, X2⟩ := open9 w x y z
  have XX := Lib.hid X2
  have AA := Lib.hid A2
  obtain ⟨-, c0, c1, c2, c3, c4, c5, c6, c7, c8⟩ := A2
  obtain ⟨e0, e1, e2, f0, f1, f2, hlt⟩ := X2
  obtain ⟨N, hN⟩ : ∃ N : Int, N = number x.s := ⟨_, rfl⟩
  rw [← hN]
  have hc := (show Calls Tryd.prog 66 #[st x.s] w2 fun e w' => e = .returned (.int .i64 N) ∧ w2 = w' from by rw [hN]; exact represented_c x.s hx w2)
  have Hc := Lib.hid hc
  clear hN hc
  go_enter Tryd.func45, Tryd.ntmps45
  go_wp2_with (first | rw [← W1.out, ← W2.out, Z1.out] | rw [← W1.out, ← W2.out])
  refine Hc.out.mono ?_
  rintro e w2' ⟨rfl, rfl⟩
  go_wp2_with (fail)
  refine (pnum_c N _).mono ?_
  rintro e w3 ⟨rfl, bq⟩
  have xq := XX.out.below bq XX.out.lt
  have BB := Lib.hid (BB.out.trans (bq.mono BB.out.size))
  have XX := Lib.hid xq
  clear e0 e1 e2 f0 f1 f2 hlt bq c0 c1 c2 c3 c4 c5 c6 c7 c8
  obtain ⟨e0, e1, e2, f0, f1, f2, hlt⟩ := xq
  go_wp2
  change bodyPost _ _ _ _ _ (put3 w3 (w.heap.size + 1) _ _ _)
  have s0 := fun v0 v1 v2 => (put3_box XX.out v0 v1 v2).c0
  have s1 := fun v0 v1 v2 => (put3_box XX.out v0 v1 v2).c1
  have s2 := fun v0 v1 v2 => (put3_box XX.out v0 v1 v2).c2
  refine bodyPost_ret (v := .agg #[.bool false, .int .i64 N, .string ⟨#[]⟩]) ?_ rfl ⟨rfl, BB.out.trans ((put3_below _ _ _ _ _).mono (by omega))⟩
  simp [results, Tryd.results45, go_sem, s0, s1, s2]

set_option maxRecDepth 100000 in
set_option maxHeartbeats 1000000 in
theorem p_hash (x y z : V) (hx : x.s.length ≤ 1000000) (w : World) : Calls Tryd.prog 47 #[ar9 x y z] w (RetV w (vv (num ((Vl.hash x.s : Int))))) := by
  obtain ⟨w1, w2, W1, W2, Z1, BB, A2, X2⟩ := open9 w x y z
  have XX := Lib.hid X2
  have AA := Lib.hid A2
  obtain ⟨-, c0, c1, c2, c3, c4, c5, c6, c7, c8⟩ := A2
  obtain ⟨e0, e1, e2, f0, f1, f2, hlt⟩ := X2
  obtain ⟨N, hN⟩ : ∃ N : Int, N = (Vl.hash x.s : Int) := ⟨_, rfl⟩
  rw [← hN]
  have hc := (show Calls Tryd.prog 20 #[st x.s] w2 fun e w' => e = .returned (.int .i64 N) ∧ w2 = w' from by rw [hN]; exact pHash_c x.s hx w2)
  have Hc := Lib.hid hc
  clear hN hc
  go_enter Tryd.func47, Tryd.ntmps47
  go_wp2_with (first | rw [← W1.out, ← W2.out, Z1.out] | rw [← W1.out, ← W2.out])
  refine Hc.out.mono ?_
  rintro e w2' ⟨rfl, rfl⟩
  go_wp2_with (fail)
  refine (pnum_c N _).mono ?_
  rintro e w3 ⟨rfl, bq⟩
  have xq := XX.out.below bq XX.out.lt
  have BB := Lib.hid (BB.out.trans (bq.mono BB.out.size))
  have XX := Lib.hid xq
  clear e0 e1 e2 f0 f1 f2 hlt bq c0 c1 c2 c3 c4 c5 c6 c7 c8
  obtain ⟨e0, e1, e2, f0, f1, f2, hlt⟩ := xq
  go_wp2
  change bodyPost _ _ _ _ _ (put3 w3 (w.heap.size + 1) _ _ _)
  have s0 := fun v0 v1 v2 => (put3_box XX.out v0 v1 v2).c0
  have s1 := fun v0 v1 v2 => (put3_box XX.out v0 v1 v2).c1
  have s2 := fun v0 v1 v2 => (put3_box XX.out v0 v1 v2).c2
  refine bodyPost_ret (v := .agg #[.bool false, .int .i64 N, .string ⟨#[]⟩]) ?_ rfl ⟨rfl, BB.out.trans ((put3_below _ _ _ _ _).mono (by omega))⟩
  simp [results, Tryd.results47, go_sem, s0, s1, s2]

set_option maxRecDepth 100000 in
set_option maxHeartbeats 1000000 in
theorem p_find (x y z : V) (hx : x.s.length ≤ 1000000) (w : World) (hg : Gl w) : Calls Tryd.prog 48 #[ar9 x y z] w (RetV w (vv (num (find x.s y.s)))) := by
  obtain ⟨w1, w2, W1, W2, Z1, BB, A2, X2⟩ := open9 w x y z
  have XX := Lib.hid X2
  have AA := Lib.hid A2
  obtain ⟨-, c0, c1, c2, c3, c4, c5, c6, c7, c8⟩ := A2
  obtain ⟨e0, e1, e2, f0, f1, f2, hlt⟩ := X2
  obtain ⟨N, hN⟩ : ∃ N : Int, N = find x.s y.s := ⟨_, rfl⟩
  rw [← hN]
  have hc := (show Calls Tryd.prog 68 #[st x.s, st y.s] w2 fun e w' => e = .returned (.int .i64 N) ∧ w' = w2 from by have g2 := hg.below' BB.out; obtain ⟨m, hm⟩ := g2.mx; rw [hN, ← index_find]; exact Tryd.strings_Index ⟨x.s.toArray⟩ ⟨y.s.toArray⟩ m w2 (by show x.s.length < _; omega) hm)
  have Hc := Lib.hid hc
  clear hN hc
  go_enter Tryd.func48, Tryd.ntmps48
  go_wp2_with (first | rw [← W1.out, ← W2.out, Z1.out] | rw [← W1.out, ← W2.out])
  refine Hc.out.mono ?_
  rintro e w2' ⟨rfl, rfl⟩
  go_wp2_with (fail)
  refine (pnum_c N _).mono ?_
  rintro e w3 ⟨rfl, bq⟩
  have xq := XX.out.below bq XX.out.lt
  have BB := Lib.hid (BB.out.trans (bq.mono BB.out.size))
  have XX := Lib.hid xq
  clear e0 e1 e2 f0 f1 f2 hlt bq c0 c1 c2 c3 c4 c5 c6 c7 c8
  obtain ⟨e0, e1, e2, f0, f1, f2, hlt⟩ := xq
  go_wp2
  change bodyPost _ _ _ _ _ (put3 w3 (w.heap.size + 1) _ _ _)
  have s0 := fun v0 v1 v2 => (put3_box XX.out v0 v1 v2).c0
  have s1 := fun v0 v1 v2 => (put3_box XX.out v0 v1 v2).c1
  have s2 := fun v0 v1 v2 => (put3_box XX.out v0 v1 v2).c2
  refine bodyPost_ret (v := .agg #[.bool false, .int .i64 N, .string ⟨#[]⟩]) ?_ rfl ⟨rfl, BB.out.trans ((put3_below _ _ _ _ _).mono (by omega))⟩
  simp [results, Tryd.results48, go_sem, s0, s1, s2]

set_option maxRecDepth 100000 in
set_option maxHeartbeats 1000000 in
theorem p_text (x y z : V) (hx : I x.n) (w : World) (hg : Gl w) : Calls Tryd.prog 46 #[ar9 x y z] w (RetV w (vv (txt (figures x.n)))) := by
  obtain ⟨w1, w2, W1, W2, Z1, BB, A2, X2⟩ := open9 w x y z
  have XX := Lib.hid X2
  have AA := Lib.hid A2
  obtain ⟨-, c0, c1, c2, c3, c4, c5, c6, c7, c8⟩ := A2
  obtain ⟨e0, e1, e2, f0, f1, f2, hlt⟩ := X2
  obtain ⟨U, hU⟩ : ∃ U, U = figures x.n := ⟨_, rfl⟩
  have HU := Lib.hid (show U.length ≤ 1000000 by rw [hU]; exact pfig_len hx)
  have Hit := Lib.hid (show Calls Tryd.prog 67 #[.int .i64 x.n] w2 (RetV w2 (st U)) from (Tryd.strconv_Itoa x.n (by unfold I at hx; omega) (by unfold I at hx; omega) w2 (hg.below' BB.out).tab).mono fun e w' ⟨h1, k, os, h2⟩ => by
    refine ⟨?_, ?_⟩
    · rw [h1, itoa_figures, ← hU]
    · subst h2; exact below_grow _ _ _)
  rw [← hU]
  clear hU
  go_enter Tryd.func46, Tryd.ntmps46
  go_wp2_with (first | rw [← W1.out, ← W2.out, Z1.out] | rw [← W1.out, ← W2.out])
  refine (Hit.out).mono ?_
  rintro e w3 ⟨rfl, bq⟩
  have xq := XX.out.below bq XX.out.lt
  have BB := Lib.hid (BB.out.trans (bq.mono BB.out.size))
  have XX := Lib.hid xq
  clear e0 e1 e2 f0 f1 f2 hlt bq c0 c1 c2 c3 c4 c5 c6 c7 c8
  obtain ⟨e0, e1, e2, f0, f1, f2, hlt⟩ := xq
  go_wp2_with (fail)
  refine (ptext_c U HU.out _).mono ?_
  rintro e w4 ⟨rfl, bq⟩
  have xq := XX.out.below bq XX.out.lt
  have BB := Lib.hid (BB.out.trans (bq.mono BB.out.size))
  have XX := Lib.hid xq
  clear e0 e1 e2 f0 f1 f2 hlt bq
  obtain ⟨e0, e1, e2, f0, f1, f2, hlt⟩ := xq
  go_wp2
  change bodyPost _ _ _ _ _ (put3 w4 (w.heap.size + 1) _ _ _)
  have s0 := fun v0 v1 v2 => (put3_box XX.out v0 v1 v2).c0
  have s1 := fun v0 v1 v2 => (put3_box XX.out v0 v1 v2).c1
  have s2 := fun v0 v1 v2 => (put3_box XX.out v0 v1 v2).c2
  refine bodyPost_ret (v := .agg #[.bool true, .int .i64 0, .string ⟨(U.take 1000).toArray⟩]) ?_ rfl ⟨rfl, BB.out.trans ((put3_below _ _ _ _ _).mono (by omega))⟩
  simp [results, Tryd.results46, go_sem, s0, s1, s2]

set_option maxRecDepth 100000 in
set_option maxHeartbeats 1000000 in
theorem p_slice (x y z : V) (hx : x.s.length ≤ 1000000) (w : World) : Calls Tryd.prog 38 #[ar9 x y z] w (RetV w (vv (txt (slc x.s y.n z.n)))) := by
  obtain ⟨w1, w2, W1, W2, Z1, BB, A2, X2⟩ := open9 w x y z
  have XX := Lib.hid X2
  have AA := Lib.hid A2
  obtain ⟨-, c0, c1, c2, c3, c4, c5, c6, c7, c8⟩ := A2
  obtain ⟨e0, e1, e2, f0, f1, f2, hlt⟩ := X2
  obtain ⟨X, hX⟩ : ∃ X : ByteArray, X = ⟨x.s.toArray⟩ := ⟨_, rfl⟩
  have hXs : X.size = x.s.length := by rw [hX]; rfl
  obtain ⟨a, ha⟩ : ∃ a, a = (min (max y.n 0) (x.s.length : Int)).toNat := ⟨_, rfl⟩
  obtain ⟨k, hk⟩ : ∃ k, k = (min (max z.n 0) ((x.s.length : Int) - (a : Int))).toNat := ⟨_, rfl⟩
  obtain ⟨U, hU⟩ : ∃ U, U = slc x.s y.n z.n := ⟨_, rfl⟩
  obtain ⟨Y, hY⟩ : ∃ Y, Y = X.extract a X.size := ⟨_, rfl⟩
  have hYs : Y.size = X.size - a := by rw [hY, ByteArray.size_extract]; omega
  have e1 : Y.extract 0 k = ⟨U.toArray⟩ := by
    rw [hY, hX, ext_eq, ext_eq, hU]; unfold slc; dsimp only; rw [← ha, ← hk, List.drop_zero, show (ByteArray.mk x.s.toArray).size = x.s.length from rfl, List.take_of_length_le (Nat.le_refl _), List.drop_take]; congr 2; congr 1; omega
  have e2 : min (max y.n 0) (X.size : Int) = (a : Int) := by omega
  have e3 : a ≤ X.size := by omega
  have e5 : min (max z.n 0) (Y.size : Int) = (k : Int) := by omega
  have e6 : k ≤ Y.size := by omega
  have e7 : X.size ≤ 1000000 := by omega
  have eY := hY.symm
  rw [← hX] at c2
  have Hs := Lib.hid (fun W => (show Calls Tryd.prog 18 #[.string (Y.extract 0 k)] W (RetV W (.agg #[.bool true, .int .i64 0, .string ⟨(U.take 1000).toArray⟩])) from by rw [e1]; exact ptext_c U (by rw [hU]; exact Nat.le_trans (slc_len _ _ _) hx) W))
  rw [← hU]
  clear e1 hXs hX ha hk hY hYs hU
  go_enter Tryd.func38, Tryd.ntmps38
  go_wp2_with (first | rw [← W1.out, ← W2.out, Z1.out] | rw [← W1.out, ← W2.out])
  refine (Hs.out _).mono ?_
  rintro e w3 ⟨rfl, bq⟩
  have xq := XX.out.below bq XX.out.lt
  have BB := Lib.hid (BB.out.trans (bq.mono BB.out.size))
  have XX := Lib.hid xq
  clear e0 e1 e2 f0 f1 f2 hlt bq c0 c1 c2 c3 c4 c5 c6 c7 c8
  obtain ⟨e0, e1, e2, f0, f1, f2, hlt⟩ := xq
  go_wp2
  change bodyPost _ _ _ _ _ (put3 w3 (w.heap.size + 1) _ _ _)
  have s0 := fun v0 v1 v2 => (put3_box XX.out v0 v1 v2).c0
  have s1 := fun v0 v1 v2 => (put3_box XX.out v0 v1 v2).c1
  have s2 := fun v0 v1 v2 => (put3_box XX.out v0 v1 v2).c2
  refine bodyPost_ret (v := .agg #[.bool true, .int .i64 0, .string ⟨(U.take 1000).toArray⟩]) ?_ rfl ⟨rfl, BB.out.trans ((put3_below _ _ _ _ _).mono (by omega))⟩
  simp [results, Tryd.results38, go_sem, s0, s1, s2]

end Go.Proofs.YtkkjgiejnblopaaDoor
