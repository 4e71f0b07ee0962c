/-
  The program's mayTake, resultOf, Arity, Result.
-/
import Derived.Test.YthkjhenaicbepaaDoorKg
namespace Go.Proofs.YthkjhenaicbepaaDoor
open Go.RowKit Vl Cd

def okAt (a b c : Nat) (L : List Bool) (i : Nat) : Bool := kb (L.getD i false) == dk ([a, b, c].getD i 0) L
theorem mt_no {a b c : Nat} {L : List Bool} {k : Nat} (hk : k < L.length) (h : okAt a b c L k = false) : mt a b c L = false := by
  cases hm : mt a b c L with
  | false => rfl
  | true =>
    unfold mt at hm
    rw [Bool.and_eq_true] at hm
    have := List.all_eq_true.1 hm.2 k (List.mem_range.2 hk)
    have h2 : okAt a b c L k = true := this
    rw [h] at h2; cases h2
theorem mt_yes {a b c : Nat} {L : List Bool} (hl : L.length = nz a b c) (h : ∀ i, i < L.length → okAt a b c L i = true) : mt a b c L = true := by
  unfold mt
  rw [Bool.and_eq_true]
  exact ⟨decide_eq_true hl, List.all_eq_true.2 fun i hi => h i (List.mem_range.1 hi)⟩
def MtRel (a b c : Nat) (L : List Bool) (n : Nat) (w : World) (i : Value) (wr : World) : Prop :=
  ∃ k : Nat, k ≤ n ∧ i = .int .i64 (k : Int) ∧ Hid (∀ j, j < k → okAt a b c L j = true) ∧ ∃ q, wr = w.drewN q

set_option maxRecDepth 100000 in
set_option maxHeartbeats 2000000 in
theorem mayTake_c (a b c r : Nat) (f : Value) (A : Option Addr) (n cp : Nat) (L : List Bool) (w : World) (hr : Rc 1 w w.heap.size A n cp (lvb L)) (hn : n ≤ 1000000) :
    Calls Tryd.prog 36 #[ov a b c r f, .slice A n cp] w (RetV w (.bool (mt a b c L))) := by
  have hl := lvb_len1 hr
  have h3 := nz_le a b c
  obtain ⟨M, hM⟩ : ∃ M, M = mt a b c L := ⟨_, rfl⟩
  rw [← hM]
  obtain ⟨w0, hw0⟩ : ∃ w0, w0 = w.alloc (.cells #[.int .u8 (a : Int), .int .u8 (b : Int), .int .u8 (c : Int), .int .u8 (r : Int), f] 66) := ⟨_, rfl⟩
  have b0 : Below w.heap.size w w0 := by rw [hw0]; exact (Below.refl _ _).alloc (Nat.le_refl _) _
  have lt0 : w.heap.size < w0.heap.size := by rw [hw0]; simp
  have c0 : w0.cell? ⟨w.heap.size, 0, none⟩ = some (.int .u8 (a : Int)) := by rw [hw0]; simp
  have c1 : w0.cell? ⟨w.heap.size, 1, none⟩ = some (.int .u8 (b : Int)) := by rw [hw0]; simp
  have c2 : w0.cell? ⟨w.heap.size, 2, none⟩ = some (.int .u8 (c : Int)) := by rw [hw0]; simp
  have c3 : w0.cell? ⟨w.heap.size, 3, none⟩ = some (.int .u8 (r : Int)) := by rw [hw0]; simp
  have c4 : w0.cell? ⟨w.heap.size, 4, none⟩ = some f := by rw [hw0]; simp
  have har := fun W => parity_c a b c r f W
  obtain ⟨N, hN⟩ : ∃ N, N = nz a b c := ⟨_, rfl⟩
  rw [← hN] at har h3
  have Har := Lib.hid har; have HN := Lib.hid hN; have HM := Lib.hid hM; have Hl := Lib.hid hl
  have W0 := Lib.hid hw0; have B0 := Lib.hid b0; have Hr0 := Lib.hid (hr.below b0)
  clear hw0 b0 har hN hM hl hr
  go_enter Tryd.func36, Tryd.ntmps36
  go_wp2_with (rw [← W0.out])
  refine (Har.out _).mono ?_
  rintro e w1 ⟨rfl, b1⟩
  have hr1 := Hr0.out.below (b1.mono (Nat.le_of_lt lt0))
  have B1 := Lib.hid (B0.out.trans (b1.mono B0.out.size))
  have k0 := (b1.cell (p := ⟨w.heap.size, 0, none⟩) lt0).trans c0
  have k1 := (b1.cell (p := ⟨w.heap.size, 1, none⟩) lt0).trans c1
  have k2 := (b1.cell (p := ⟨w.heap.size, 2, none⟩) lt0).trans c2
  have Hr1 := Lib.hid hr1
  clear c0 c1 c2 c3 c4 b1 hr1 lt0 Hr0
  by_cases hnN : n = N
  · subst hnN
    have hK : ∀ k, k < n → w1.cell? ⟨w.heap.size, k, none⟩ = some (.int .u8 (([a, b, c].getD k 0 : Nat) : Int)) := fun k hk => by
      rcases (show k = 0 ∨ k = 1 ∨ k = 2 by omega) with rfl | rfl | rfl
      · exact k0
      · exact k1
      · exact k2
    have HK := Lib.hid hK
    clear k0 k1 k2 hK
    go_wp2_with fail
    go_loopw [5, 6, 14] (fun _ _ i wr => MtRel a b c L n w1 i wr) (fun _ _ i _ => n - (intOf i).toNat)
    case atStart => exact ⟨0, Nat.zero_le _, rfl, Lib.hid (fun j hj => absurd hj (by omega)), 0, rfl⟩
    case round =>
      obtain ⟨k, hk, rfl, Hall, q, rfl⟩ := hrel
      by_cases hlt : k < n
      · have hrW : Rc 1 (w1.drewN q) w.heap.size A n cp (lvb L) := Hr1.out
        obtain ⟨b2, o2, x, rfl, hb2, hc2, hx⟩ := lvb_at hrW hlt
        obtain ⟨kk, hkk⟩ : ∃ kk, kk = [a, b, c].getD k 0 := ⟨_, rfl⟩
        have hck : w1.cell? ⟨w.heap.size, k, none⟩ = some (.int .u8 (kk : Int)) := by rw [hkk]; exact HK.out k hlt
        have hko := fun W => kindOf_c x W
        rw [show ((if x then 2 else 1 : Int)) = (kb x : Int) by cases x <;> rfl] at hko
        obtain ⟨D, hD⟩ : ∃ D, D = dk kk L := ⟨_, rfl⟩
        have hde := fun qq => decided_c kk (some ⟨b2, o2, none⟩) n cp w.heap.size L (w1.drewN qq) Hr1.out hn (by omega)
        rw [← hD] at hde
        obtain ⟨E, hE⟩ : ∃ E, E = kb x := ⟨_, rfl⟩
        rw [← hE] at hko
        have hok : okAt a b c L k = (E == D) := by
          unfold okAt
          rw [← hkk, ← hD, hE, List.getD_eq_getElem?_getD, hx]; rfl
        have hb3 : k < 3 := by omega
        have hb3i : (k : Int) < 3 := by omega
        have Hok := Lib.hid hok; have Hko := Lib.hid hko; have Hde := Lib.hid hde
        clear hok hko hde hE hD hkk hx hrW h3
        by_cases hED : E = D
        · subst hED
          go_wp2_with fail
          go_quiet (first | (go_at_call 56; exact (Hko.out _).mono fun _ _ h => ⟨h.1, _, h.2⟩) | (go_at_call 57; exact (Hde.out _).mono fun _ _ h => ⟨h.1, _, h.2⟩))
          go_wp2
          go_roundw
          case rel => exact ⟨k + 1, hlt, by go_num, Lib.hid (fun j hj => by
            by_cases hjk : j = k
            · subst hjk; rw [Hok.out]; simp
            · exact Hall.out j (by omega)), _, rfl⟩
          case measure => simp [intOf]; omega
        · have hm : M = false := by rw [HM.out]; exact mt_no (k := k) (by rw [Hl.out]; exact hlt) (by rw [Hok.out]; simp [hED])
          subst hm
          have d1 : ((E : Int) != (D : Int)) = true := by simp; omega
          clear hED
          go_wp2_with fail
          go_quiet (first | (go_at_call 56; exact (Hko.out _).mono fun _ _ h => ⟨h.1, _, h.2⟩) | (go_at_call 57; exact (Hde.out _).mono fun _ _ h => ⟨h.1, _, h.2⟩))
          go_wp2
          go_ret
          exact ⟨rfl, below_drewN (below_drewN B1.out _) _⟩
      · obtain rfl : k = n := by omega
        have hm : M = true := by rw [HM.out]; exact mt_yes (by rw [Hl.out, ← HN.out]) (fun i hi => Hall.out i (by rw [Hl.out] at hi; exact hi))
        subst hm
        go_wp2
        go_ret
        exact ⟨rfl, below_drewN B1.out q⟩
  · have hm : M = false := by rw [HM.out]; exact mt_long (by rw [Hl.out, ← HN.out]; exact hnN)
    subst hm
    have d1 : ((n : Int) != (N : Int)) = true := by simp; omega
    clear hnN
    go_wp2
    go_ret
    exact ⟨rfl, B1.out⟩

set_option maxRecDepth 100000 in
theorem resultOf_c (a b c r : Nat) (f : Value) (A : Option Addr) (n cp : Nat) (L : List Bool) (w : World) (hr : Rc 1 w w.heap.size A n cp (lvb L)) (hn : n ≤ 1000000) (h0 : 0 < n) :
    Calls Tryd.prog 37 #[ov a b c r f, .slice A n cp] w (RetV w (.int .u8 (dk r L : Int))) := by
  obtain ⟨w0, hw0⟩ : ∃ w0, w0 = w.alloc (.cells #[.int .u8 (a : Int), .int .u8 (b : Int), .int .u8 (c : Int), .int .u8 (r : Int), f] 66) := ⟨_, rfl⟩
  have b0 : Below w.heap.size w w0 := by rw [hw0]; exact (Below.refl _ _).alloc (Nat.le_refl _) _
  have c3 : w0.cell? ⟨w.heap.size, 3, none⟩ = some (.int .u8 (r : Int)) := by rw [hw0]; simp
  have hde := decided_c r A n cp w.heap.size L w0 (hr.below b0) hn h0
  have W0 := Lib.hid hw0; have B0 := Lib.hid b0; have Hde := Lib.hid hde
  clear hw0 b0 hde hr
  go_enter Tryd.func37, Tryd.ntmps37
  go_wp2_with (rw [← W0.out])
  refine Hde.out.mono ?_
  rintro e w1 ⟨rfl, rfl⟩
  go_wp2
  go_ret
  exact ⟨rfl, B0.out⟩

abbrev ov0 : Value := .agg #[.int .u8 0, .int .u8 0, .int .u8 0, .int .u8 0, .nilFunc]
set_option maxRecDepth 100000 in
theorem opOf_out (op : Int) (h : ¬ (4 ≤ op ∧ op ≤ 21)) (w : World) : Calls Tryd.prog 34 #[.int .i64 op] w (RetV w (.tuple #[ov0, .bool false])) := by
  obtain ⟨w1, hw1⟩ : ∃ w1, w1 = w.alloc (.cells #[.int .u8 0, .int .u8 0, .int .u8 0, .int .u8 0, .nilFunc] 66) := ⟨_, rfl⟩
  have b1 : Below w.heap.size w w1 := by rw [hw1]; exact (Below.refl _ _).alloc (Nat.le_refl _) _
  have f : ∀ k, w1.frozen? ⟨w.heap.size, k, none⟩ = false := fun k => by rw [hw1]; simp
  have f0 := f 0; have f1 := f 1; have f2 := f 2; have f3 := f 3; have f4 := f 4
  have e0 : w1.cell? ⟨w.heap.size, 0, none⟩ = some (.int .u8 0) := by rw [hw1]; simp
  have e1 : w1.cell? ⟨w.heap.size, 1, none⟩ = some (.int .u8 0) := by rw [hw1]; simp
  have e2 : w1.cell? ⟨w.heap.size, 2, none⟩ = some (.int .u8 0) := by rw [hw1]; simp
  have e3 : w1.cell? ⟨w.heap.size, 3, none⟩ = some (.int .u8 0) := by rw [hw1]; simp
  have e4 : w1.cell? ⟨w.heap.size, 4, none⟩ = some .nilFunc := by rw [hw1]; simp
  have W1 := Lib.hid hw1; have B1 := Lib.hid b1
  clear hw1 b1 f
  obtain ⟨q0, q1, q2, q3, q4⟩ := box5 w1 w.heap.size (.int .u8 0) (.int .u8 0) (.int .u8 0) (.int .u8 0) .nilFunc e0 e1 e2 e3 e4
  have Q0 := Lib.hid q0; have Q1 := Lib.hid q1; have Q2 := Lib.hid q2; have Q3 := Lib.hid q3; have Q4 := Lib.hid q4
  clear q0 q1 q2 q3 q4
  by_cases h1 : op < 4
  · have d1 : decide (op < 4) = true := decide_eq_true h1
    clear h1 h
    go_enter Tryd.func34, Tryd.ntmps34
    go_wp2_with (rw [← W1.out])
    refine bodyPost_ret (v := .tuple #[ov0, .bool false]) ?_ rfl ⟨rfl, B1.out.trans (below5 _ _ _ _ _ _ _)⟩
    simp [results, Tryd.results34, go_sem, Q0.out, Q1.out, Q2.out, Q3.out, Q4.out]
  · have d1 : decide (op < 4) = false := decide_eq_false h1
    have d2 : decide (21 < op) = true := decide_eq_true (by omega)
    clear h1 h
    go_enter Tryd.func34, Tryd.ntmps34
    go_wp2_with (rw [← W1.out])
    refine bodyPost_ret (v := .tuple #[ov0, .bool false]) ?_ rfl ⟨rfl, B1.out.trans (below5 _ _ _ _ _ _ _)⟩
    simp [results, Tryd.results34, go_sem, Q0.out, Q1.out, Q2.out, Q3.out, Q4.out]

set_option maxRecDepth 100000 in
theorem pArity_c (op : Int) (w : World) : Calls Tryd.prog 32 #[.int .i64 op] w (RetV w (.int .i64 (ar op : Int))) := by
  by_cases h : 4 ≤ op ∧ op ≤ 21
  · obtain ⟨m, rfl⟩ : ∃ m : Nat, op = m := ⟨op.toNat, by omega⟩
    rw [ar_nz m (by omega) (by omega)]
    have hop := opOf_in m (by omega) (by omega) w
    obtain ⟨a0, ha0⟩ : ∃ a, a = k0 m := ⟨_, rfl⟩
    obtain ⟨a1, ha1⟩ : ∃ a, a = k1 m := ⟨_, rfl⟩
    obtain ⟨a2, ha2⟩ : ∃ a, a = k2 m := ⟨_, rfl⟩
    obtain ⟨a3, ha3⟩ : ∃ a, a = kr m := ⟨_, rfl⟩
    obtain ⟨a4, ha4⟩ : ∃ a, a = kf m := ⟨_, rfl⟩
    rw [← ha0, ← ha1, ← ha2, ← ha3, ← ha4] at hop
    rw [← ha0, ← ha1, ← ha2]
    have Hop := Lib.hid hop
    clear hop ha0 ha1 ha2 ha3 ha4 h
    go_enter Tryd.func32, Tryd.ntmps32
    go_wp2_with fail
    refine Hop.out.mono ?_
    rintro e w1 ⟨rfl, b1⟩
    obtain ⟨w2, hw2⟩ : ∃ w2, w2 = w1.alloc (.cells #[.int .u8 (a0 : Int), .int .u8 (a1 : Int), .int .u8 (a2 : Int), .int .u8 (a3 : Int), fu a4] 66) := ⟨_, rfl⟩
    have b2 : Below w1.heap.size w1 w2 := by rw [hw2]; exact (Below.refl _ _).alloc (Nat.le_refl _) _
    have c0 : w2.cell? ⟨w1.heap.size, 0, none⟩ = some (.int .u8 (a0 : Int)) := by rw [hw2]; simp
    have c1 : w2.cell? ⟨w1.heap.size, 1, none⟩ = some (.int .u8 (a1 : Int)) := by rw [hw2]; simp
    have c2 : w2.cell? ⟨w1.heap.size, 2, none⟩ = some (.int .u8 (a2 : Int)) := by rw [hw2]; simp
    have c3 : w2.cell? ⟨w1.heap.size, 3, none⟩ = some (.int .u8 (a3 : Int)) := by rw [hw2]; simp
    have c4 : w2.cell? ⟨w1.heap.size, 4, none⟩ = some (fu a4) := by rw [hw2]; simp
    have W2 := Lib.hid hw2; have BB := Lib.hid (b1.trans (b2.mono b1.size))
    clear hw2 b1 b2
    go_wp2_with (rw [← W2.out])
    refine (parity_c a0 a1 a2 a3 (fu a4) _).mono ?_
    rintro e w3 ⟨rfl, b3⟩
    have B3 := Lib.hid (BB.out.trans (b3.mono BB.out.size))
    clear b3
    go_wp2
    go_ret
    exact ⟨rfl, B3.out⟩
  · rw [ar_out h]
    have Hop := Lib.hid (opOf_out op h w)
    clear h
    go_enter Tryd.func32, Tryd.ntmps32
    go_wp2_with fail
    refine Hop.out.mono ?_
    rintro e w1 ⟨rfl, b1⟩
    have BB := Lib.hid (b1.trans ((show Below w1.heap.size w1 (w1.alloc (.cells #[.int .u8 0, .int .u8 0, .int .u8 0, .int .u8 0, .nilFunc] 66)) from (Below.refl _ _).alloc (Nat.le_refl _) _).mono b1.size))
    clear b1
    go_wp2_with fail
    refine (show Calls Tryd.prog 35 #[ov0] _ _ from parity_c 0 0 0 0 .nilFunc _).mono ?_
    rintro e w3 ⟨rfl, b3⟩
    have B3 := Lib.hid (BB.out.trans (b3.mono BB.out.size))
    clear b3
    go_wp2
    go_ret
    exact ⟨rfl, B3.out⟩

set_option maxRecDepth 100000 in
set_option maxHeartbeats 1000000 in
theorem pResult_c (op : Int) (A : Option Addr) (n cp : Nat) (L : List Bool) (w : World) (hr : Rc 1 w w.heap.size A n cp (lvb L)) (hn : n ≤ 1000000) :
    Calls Tryd.prog 33 #[.int .i64 op, .slice A n cp] w (RetV w (.tuple #[.bool (res op L).1, .int .i64 ((res op L).2 : Int)])) := by
  by_cases h : 4 ≤ op ∧ op ≤ 21
  · obtain ⟨m, rfl⟩ : ∃ m : Nat, op = m := ⟨op.toNat, by omega⟩
    have hop := opOf_in m (by omega) (by omega) w
    have hres := res_mt m (by omega) (by omega) L
    have hnz : 0 < nz (k0 m) (k1 m) (k2 m) := by
      rcases op_cases (m := m) (by omega) (by omega) with rfl | rfl | rfl | rfl | rfl | rfl | rfl | rfl | rfl | rfl | rfl | rfl | rfl | rfl | rfl | rfl | rfl | rfl
      all_goals decide
    obtain ⟨R, hR⟩ : ∃ R, R = res (m : Int) L := ⟨_, rfl⟩
    rw [← hR] at hres ⊢
    obtain ⟨a0, ha0⟩ : ∃ a, a = k0 m := ⟨_, rfl⟩
    obtain ⟨a1, ha1⟩ : ∃ a, a = k1 m := ⟨_, rfl⟩
    obtain ⟨a2, ha2⟩ : ∃ a, a = k2 m := ⟨_, rfl⟩
    obtain ⟨a3, ha3⟩ : ∃ a, a = kr m := ⟨_, rfl⟩
    obtain ⟨a4, ha4⟩ : ∃ a, a = kf m := ⟨_, rfl⟩
    rw [← ha0, ← ha1, ← ha2, ← ha3, ← ha4] at hop
    rw [← ha0, ← ha1, ← ha2, ← ha3] at hres
    rw [← ha0, ← ha1, ← ha2] at hnz
    have hlm : mt a0 a1 a2 L = true → 0 < n := fun hm => by
      have hl := lvb_len1 hr
      by_cases hq : L.length = nz a0 a1 a2
      · omega
      · rw [mt_long hq] at hm; cases hm
    have hmt := fun W W' (hb : Below w.heap.size w W) (_ : W' = W) => mayTake_c a0 a1 a2 a3 (fu a4) A n cp L W ((hr.below hb).more hb.size) hn
    have hro := fun W (hb : Below w.heap.size w W) (h0 : 0 < n) => resultOf_c a0 a1 a2 a3 (fu a4) A n cp L W ((hr.below hb).more hb.size) hn h0
    obtain ⟨M, hM⟩ : ∃ M, M = mt a0 a1 a2 L := ⟨_, rfl⟩
    rw [← hM] at hmt hres hlm
    have Hop := Lib.hid hop; have Hmt := Lib.hid hmt; have Hro := Lib.hid hro; have Hres := Lib.hid hres; have Hlm := Lib.hid hlm
    clear hop ha0 ha1 ha2 ha3 ha4 h hR hM hmt hro hres hr hnz hlm
    go_enter Tryd.func33, Tryd.ntmps33
    go_wp2_with fail
    refine Hop.out.mono ?_
    rintro e w1 ⟨rfl, b1⟩
    obtain ⟨w2, hw2⟩ : ∃ w2, w2 = w1.alloc (.cells #[.int .u8 (a0 : Int), .int .u8 (a1 : Int), .int .u8 (a2 : Int), .int .u8 (a3 : Int), fu a4] 66) := ⟨_, rfl⟩
    have b2 : Below w1.heap.size w1 w2 := by rw [hw2]; exact (Below.refl _ _).alloc (Nat.le_refl _) _
    have c0 : w2.cell? ⟨w1.heap.size, 0, none⟩ = some (.int .u8 (a0 : Int)) := by rw [hw2]; simp
    have c1 : w2.cell? ⟨w1.heap.size, 1, none⟩ = some (.int .u8 (a1 : Int)) := by rw [hw2]; simp
    have c2 : w2.cell? ⟨w1.heap.size, 2, none⟩ = some (.int .u8 (a2 : Int)) := by rw [hw2]; simp
    have c3 : w2.cell? ⟨w1.heap.size, 3, none⟩ = some (.int .u8 (a3 : Int)) := by rw [hw2]; simp
    have c4 : w2.cell? ⟨w1.heap.size, 4, none⟩ = some (fu a4) := by rw [hw2]; simp
    have lt2 : w1.heap.size < w2.heap.size := by rw [hw2]; simp
    have bb := b1.trans (b2.mono b1.size)
    have W2 := Lib.hid hw2; have BB := Lib.hid bb; have Hmt2 := Lib.hid (Hmt.out w2 w2 bb rfl); have Lt2 := Lib.hid lt2
    clear hw2 b1 b2 bb lt2
    go_wp2_with (rw [← W2.out])
    refine Hmt2.out.mono ?_
    rintro e w3 ⟨rfl, b3⟩
    have bb3 := BB.out.trans (b3.mono BB.out.size)
    have e0 := (b3.cell (p := ⟨w1.heap.size, 0, none⟩) Lt2.out).trans c0
    have e1 := (b3.cell (p := ⟨w1.heap.size, 1, none⟩) Lt2.out).trans c1
    have e2 := (b3.cell (p := ⟨w1.heap.size, 2, none⟩) Lt2.out).trans c2
    have e3 := (b3.cell (p := ⟨w1.heap.size, 3, none⟩) Lt2.out).trans c3
    have e4 := (b3.cell (p := ⟨w1.heap.size, 4, none⟩) Lt2.out).trans c4
    have B3 := Lib.hid bb3
    clear b3 bb3 c0 c1 c2 c3 c4
    cases M with
    | false =>
      have hR := Hres.out
      rw [if_neg (by decide)] at hR
      subst hR
      go_wp2
      go_ret2
      exact ⟨rfl, B3.out⟩
    | true =>
      have hR := Hres.out
      rw [if_pos rfl] at hR
      have Hro3 := Lib.hid (Hro.out w3 B3.out (Hlm.out rfl))
      obtain ⟨D, hD⟩ : ∃ D, D = dk a3 L := ⟨_, rfl⟩
      rw [← hD] at Hro3 hR
      subst hR
      clear hD Hres
      go_wp2_with fail
      refine Hro3.out.mono ?_
      rintro e w4 ⟨rfl, b4⟩
      have B4 := Lib.hid (B3.out.trans (b4.mono B3.out.size))
      have hd : ((D : Int) == 2) = (D == 2) := by
        by_cases hq : D = 2
        · subst hq; rfl
        · rw [beq_eq_false_iff_ne.2 hq]; simp; omega
      clear b4
      go_wp2
      go_ret2
      exact ⟨rfl, B4.out⟩
  · rw [res_out h]
    have Hop := Lib.hid (opOf_out op h w)
    clear h
    go_enter Tryd.func33, Tryd.ntmps33
    go_wp2_with fail
    refine Hop.out.mono ?_
    rintro e w1 ⟨rfl, b1⟩
    have B1 := Lib.hid (b1.trans ((show Below w1.heap.size w1 (w1.alloc (.cells #[.int .u8 0, .int .u8 0, .int .u8 0, .int .u8 0, .nilFunc] 66)) from (Below.refl _ _).alloc (Nat.le_refl _) _).mono b1.size))
    clear b1
    go_wp2
    go_ret2
    exact ⟨rfl, B1.out⟩
end Go.Proofs.YthkjhenaicbepaaDoor
