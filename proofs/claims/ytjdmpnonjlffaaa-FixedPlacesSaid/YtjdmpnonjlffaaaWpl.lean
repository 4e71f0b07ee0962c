/-
  The walk of the law FixedPlaces.
-/
import Derived.Test.YtjdmpnonjlffaaaYb
import Derived.BigQuiet
import Derived.Deep.QuietTactic
namespace Go.Proofs.Ytjdmpnonjlffaaa
open Go.RowKit Go.Maps

theorem out_cases {n : Nat} {f t k : Int} (h : 3000 < n ∨ k < 1 ∨ 1000 < k ∨ f < 0 ∨ t < f ∨ (n : Int) < t) :
    decide ((3000 : Int) < (n : Int)) = true ∨
    decide ((3000 : Int) < (n : Int)) = false ∧ decide (k < 1) = true ∨
    decide ((3000 : Int) < (n : Int)) = false ∧ decide (k < 1) = false ∧ decide (1000 < k) = true ∨
    decide ((3000 : Int) < (n : Int)) = false ∧ decide (k < 1) = false ∧ decide (1000 < k) = false ∧ decide (f < 0) = true ∨
    decide ((3000 : Int) < (n : Int)) = false ∧ decide (k < 1) = false ∧ decide (1000 < k) = false ∧ decide (f < 0) = false ∧ decide (t < f) = true ∨
    decide ((3000 : Int) < (n : Int)) = false ∧ decide (k < 1) = false ∧ decide (1000 < k) = false ∧ decide (f < 0) = false ∧ decide (t < f) = false ∧ decide ((n : Int) < t) = true := by
  simp; omega
set_option maxRecDepth 100000 in
set_option maxHeartbeats 2000000 in
theorem fixedPlaces_big (A : Option Addr) (n c : Nat) (f t k : Int) (w : World) (h : 3000 < n ∨ k < 1 ∨ 1000 < k ∨ f < 0 ∨ t < f ∨ (n : Int) < t) :
    Calls Try.prog 9 #[.slice A n c, .agg #[.int .i64 f, .int .i64 t, .int .i64 k]] w fun e w' => e = .returned (.bool true) ∧ Below w.heap.size w w' := by
  obtain ⟨w1, h1⟩ : ∃ w1, w1 = w.alloc (.cells #[.int .i64 f, .int .i64 t, .int .i64 k] 31) := ⟨_, rfl⟩
  have b1 : Below w.heap.size w w1 := by rw [h1]; exact (Below.refl _ _).alloc (Nat.le_refl _) _
  have s1 : w.heap.size ≤ w1.heap.size := b1.size
  have H1 := Lib.hid h1; have B1 := Lib.hid b1; have S1 := Lib.hid s1; clear h1 b1 s1
  rcases out_cases h with d1 | ⟨d1, d2⟩ | ⟨d1, d2, d3⟩ | ⟨d1, d2, d3, d4⟩ | ⟨d1, d2, d3, d4, d5⟩ | ⟨d1, d2, d3, d4, d5, d6⟩ <;> clear h
  all_goals
    go_enter Try.func9, Try.ntmps9
    go_wp2_with fail
    rw [← H1.out]
    refine (alive_c _).mono ?_
    rintro e w2 ⟨rfl, hb2⟩
    have bz := B1.out.trans (hb2.mono S1.out)
    go_wp2
    go_ret
    exact ⟨rfl, bz⟩

/-- How many of the first j records begin between. -/
def cnt (l : List UInt8) (K F T j : Nat) : Nat := ((Fx.rs l K 0 j).filter (fun p => decide (F ≤ p.1) && decide (p.1 < T))).length
theorem cnt_next (l : List UInt8) (K F T j : Nat) : cnt l K F T (j + 1) = if F ≤ j * K ∧ j * K < T then cnt l K F T j + 1 else cnt l K F T j := by
  unfold cnt
  rw [Fx.rs_snoc _ _ _ _ (Nat.zero_le _), List.filter_append, List.length_append]
  simp only [List.filter_cons, List.filter_nil, Fx.pi]
  by_cases h : F ≤ j * K ∧ j * K < T
  · rw [if_pos h, if_pos (by simpa using h)]; rfl
  · rw [if_neg h, if_neg (by simpa using h)]; rfl
theorem cnt_le (l : List UInt8) (K F T j : Nat) : cnt l K F T j ≤ j := by
  unfold cnt
  have := List.length_filter_le (fun p => decide (F ≤ p.1) && decide (p.1 < T)) (Fx.rs l K 0 j)
  rw [Fx.rs_len] at this
  omega
theorem cnt_all (l : List UInt8) (K F T : Nat) (hK : 1 ≤ K) : cnt l K F T (l.length / K) = (Fx.rd l K F T).length := by
  unfold cnt
  rw [← Fx.btw_ch l K F T hK]
  rfl
def PlRel (m : Nat) (cn : Nat → Nat) (w : World) (o i : Value) (wr : World) : Prop :=
  ∃ j q : Nat, o = .int .i64 (cn j : Int) ∧ i = .int .i64 (j : Int) ∧ j ≤ m ∧ wr = w.drewN q

set_option maxRecDepth 100000 in
set_option maxHeartbeats 8000000 in
theorem fixedPlaces_walk (A : Option Addr) (n c : Nat) (l : List UInt8) (f t k : Int) (w : World) (hr : Rb w w.heap.size A n c l) (_hf : I64 f) (_ht : I64 t) (_hk : I64 k) :
    Calls Try.prog 9 #[.slice A n c, .agg #[.int .i64 f, .int .i64 t, .int .i64 k]] w fun e w' => e = .returned (.bool true) ∧ Below w.heap.size w w' := by
  obtain rfl := hr.len
  by_cases hbig : 3000 < l.length ∨ k < 1 ∨ 1000 < k ∨ f < 0 ∨ t < f ∨ (l.length : Int) < t
  · exact fixedPlaces_big A _ c f t k w hbig
  · have hn : l.length ≤ 3000 := by omega
    obtain ⟨K, rfl⟩ : ∃ K : Nat, k = (K : Int) := ⟨k.toNat, by omega⟩
    obtain ⟨F, rfl⟩ : ∃ F : Nat, f = (F : Int) := ⟨f.toNat, by omega⟩
    obtain ⟨T, rfl⟩ : ∃ T : Nat, t = (T : Int) := ⟨t.toNat, by omega⟩
    have hk1 : 1 ≤ K := by omega
    have hk2 : K ≤ 1000 := by omega
    have hFT : F ≤ T := by omega
    have hTn : T ≤ l.length := by omega
    clear hbig
    have d1 : decide ((3000 : Int) < (l.length : Int)) = false := by simp; omega
    have d2 : decide ((K : Int) < 1) = false := by simp; omega
    have d3 : decide ((1000 : Int) < (K : Int)) = false := by simp; omega
    have d4 : decide ((F : Int) < 0) = false := by simp
    have d5 : decide (T < F) = false := by simp; omega
    have d6 : decide (l.length < T) = false := by simp; omega
    obtain ⟨w1, h1⟩ : ∃ w1, w1 = w.alloc (.cells #[.int .i64 (F : Int), .int .i64 (T : Int), .int .i64 (K : Int)] 31) := ⟨_, rfl⟩
    have b1 : Below w.heap.size w w1 := by rw [h1]; exact (Below.refl _ _).alloc (Nat.le_refl _) _
    have s1 : w1.heap.size = w.heap.size + 1 := by rw [h1]; simp
    have hr1 := (hr.below b1).more (show w.heap.size ≤ w1.heap.size by omega)
    have g0 : w1.cell? ⟨w.heap.size, 0, none⟩ = some (.int .i64 (F : Int)) := by rw [h1]; simp
    have g1 : w1.cell? ⟨w.heap.size, 1, none⟩ = some (.int .i64 (T : Int)) := by rw [h1]; simp
    have g2 : w1.cell? ⟨w.heap.size, 2, none⟩ = some (.int .i64 (K : Int)) := by rw [h1]; simp
    obtain ⟨m, hm⟩ : ∃ m, m = l.length / K := ⟨_, rfl⟩
    have hml : m ≤ l.length := by rw [hm]; exact Nat.div_le_self _ _
    have hin : ∀ j, j < m → j * K + K ≤ l.length := fun j hj => (Fx.le_vs l.length K j hk1).2 (by rw [← hm]; exact hj)
    have hat : ∀ j, j < m → ((Fx.ch l K).map Tm.pc)[j]? = some (j * K, [[Fx.seg l K j]]) := fun j hj => by
      rw [List.getElem?_map, Fx.ch_at l K j (by rw [← hm]; exact hj)]; rfl
    have hsc : ∀ W, Rb W W.heap.size A l.length c l → Calls Try.prog 11 #[.slice A l.length c, .int .i64 (K : Int)] W fun e w' => ∃ A c V E, e = .returned (.tuple #[.slice A m c, .int .i64 V, .int .i64 E]) ∧ PL w' w'.heap.size A m c ((Fx.ch l K).map Tm.pc) ∧ Below W.heap.size W w' := fun W h => (scan_c A _ c K _ W h (by omega) hk1 hk2).mono fun e w' hp => by
      obtain ⟨A1, c1, he, hp, hb⟩ := hp
      have hp := hp.pl
      rw [Fx.ch_len, ← hm] at he hp
      exact ⟨A1, c1, _, _, he, hp, hb⟩
    obtain ⟨R, hR⟩ : ∃ R, R = (Fx.rd l K F T).map Tm.rc := ⟨_, rfl⟩
    have hrd : ∀ W, Rb W W.heap.size A l.length c l → Calls Try.prog 15 #[.slice A l.length c, .int .i64 (F : Int), .int .i64 (T : Int), .int .i64 (K : Int)] W (RetR2 W R (rdE l.length K T)) := fun W h => by
      rw [hR]
      exact (read_ok A _ c K l F T W h (by omega) hk1 hk2 hFT hTn).mono fun e w' ⟨A, c, he, hp, hb⟩ => ⟨A, c, he, hp.rl', hb⟩
    have hcn : cnt l K F T m = R.length := by rw [hm, cnt_all l K F T hk1, hR, List.length_map]
    have hdiv : (l.length : Int).tdiv (K : Int) = (m : Int) := by rw [tdiv_nat, ← hm]
    have hk0 : (K : Int) ≠ 0 := by omega
    have hwm : IntKind.i64.wrap (m : Int) = (m : Int) := IntWalk.i64_in _ (by omega)
    obtain ⟨EE, hEE⟩ : ∃ EE, EE = rdE l.length K T := ⟨_, rfl⟩
    simp only [← hEE] at hrd
    have H1 := Lib.hid h1; have B1 := Lib.hid b1; have S1 := Lib.hid s1; have Hr1 := Lib.hid hr1; have G0 := Lib.hid g0; have G1 := Lib.hid g1; have G2 := Lib.hid g2; have Hin := Lib.hid hin; have Hat := Lib.hid hat; have Hsc := Lib.hid hsc; have Hrd := Lib.hid hrd; have Hcn := Lib.hid hcn; have Hdiv := Lib.hid hdiv; have Hwm := Lib.hid hwm
    clear hr h1 b1 s1 hr1 g0 g1 g2 hin hat hsc hrd hcn hdiv hwm hR hm hEE
    go_enter Try.func9, Try.ntmps9
    go_wp2_with fail
    rw [← H1.out]
    refine (Hsc.out _ Hr1.out).mono ?_
    rintro e w2 ⟨A2, c2, V, E, rfl, hp2, hb2⟩
    have z2 := hb2.size
    have hr2 := (Hr1.out.below hb2).more z2
    have g0 : w2.cell? ⟨w.heap.size, 0, none⟩ = some (.int .i64 (F : Int)) := (hb2.cell (p := ⟨w.heap.size, 0, none⟩) (by have := S1.out; show w.heap.size < _; omega)).trans G0.out
    have g1 : w2.cell? ⟨w.heap.size, 1, none⟩ = some (.int .i64 (T : Int)) := (hb2.cell (p := ⟨w.heap.size, 1, none⟩) (by have := S1.out; show w.heap.size < _; omega)).trans G1.out
    have g2 : w2.cell? ⟨w.heap.size, 2, none⟩ = some (.int .i64 (K : Int)) := (hb2.cell (p := ⟨w.heap.size, 2, none⟩) (by have := S1.out; show w.heap.size < _; omega)).trans G2.out
    have HP2 := Lib.hid hp2; have Hr2 := Lib.hid hr2; have Hb2 := Lib.hid hb2; clear hp2 hr2 hb2
    go_wp2
    clear d1 d2 d3 d4 d5 d6
    go_loopw [8, 9] (fun o i wr => PlRel m (cnt l K F T) w2 o i wr) (fun _ i _ => m - (intOf i).toNat)
    case atStart => exact ⟨0, 0, by simp [cnt, Fx.rs], rfl, Nat.zero_le _, rfl⟩
    case round =>
      obtain ⟨j, q, rfl, rfl, hj, rfl⟩ := hrel
      have hcl := cnt_le l K F T j
      by_cases hlt : j < m
      · have hin := Hin.out j hlt
        have hcx := cnt_next l K F T j
        obtain ⟨b, off, p, D, m1, d, rfl, hb, hc1, hc2, hp, hrl⟩ := HP2.out.at_ hlt
        rw [Hat.out j hlt] at hp
        injection hp with hp
        subst hp
        dsimp only at hc1 hrl
        have hm1 := hrl.len
        obtain rfl : m1 = 1 := by simpa using hm1.symm
        obtain ⟨b2, off2, D2, m2, d2, r, rfl, hb2, hc3, hr3, _, hrec⟩ := hrl.rl.at_ (k := 0) (by omega)
        obtain rfl : [Fx.seg l K j] = r := by simpa using hr3
        have hm2 := lvs_num hrec
        obtain rfl : m2 = 1 := by simpa using hm2.symm
        obtain ⟨b3, off3, s, rfl, hb3, hc4, hs3, _⟩ := lvs_at hrec (k := 0) (by omega)
        obtain rfl : Fx.seg l K j = s := by simpa using hs3
        rw [Nat.add_zero] at hc3 hc4
        have hmul : (j : Int) * (K : Int) = ((j * K : Nat) : Int) := by simp
        have hsg : Fx.seg l K j = (l.take (j * K + K)).drop (j * K) := rfl
        obtain ⟨a, ha⟩ : ∃ a, a = j * K := ⟨_, rfl⟩
        rw [← ha] at hin hcx hc1 hmul hsg
        have q0 : IntKind.i64.wrap ((j : Int) * (K : Int)) = (a : Int) := by rw [hmul]; exact IntWalk.i64_in _ (by omega)
        have q1 : IntKind.i64.wrap ((a : Int) + (K : Int)) = (a : Int) + (K : Int) := IntWalk.i64_in _ (by omega)
        obtain ⟨E5, hE5, hrE⟩ := bty.mid_ Hr2.out (i := a) (k := a + K) (by omega) hin (a : Int) ((a : Int) + (K : Int)) rfl (by omega) K (by omega)
        obtain ⟨S, hS⟩ : ∃ S, S = Fx.seg l K j := ⟨_, rfl⟩
        rw [← hS] at hc4 hsg
        have hcv : ∀ q, (convert 22 9 (.slice E5 K (c - a))).run Try.prog (w2.drewN q) = .ok (.string ⟨S.toArray⟩) (w2.drewN q) := fun q => by rw [hsg]; exact bty.conv (hrE.drewN q)
        have e1 : ((a : Int) != (a : Int)) = false := by simp
        have e2 : ((1 : Int) != 1) = false := rfl
        have e3 : decide ((l.length : Int) < (a : Int) + (K : Int)) = false := by simp; omega
        have e4 : (S != S) = false := by simp
        obtain ⟨C, hC⟩ : ∃ C, C = cnt l K F T j := ⟨_, rfl⟩
        rw [← hC] at hcx hcl ⊢
        have hq4 : (0 : Int) ≤ (a : Int) + (K : Int) := by omega
        have Hcx := Lib.hid hcx; have Hmul := Lib.hid hmul
        clear hcx hrE hS hsg hC hrec hrl hs3 hr3 hm1 hm2 ha hmul hin
        by_cases c1 : F ≤ a
        · by_cases c2 : a < T
          · have hx := Hcx.out
            rw [if_pos ⟨c1, c2⟩] at hx
            have Hx := Lib.hid hx; clear hx
            go_wp2_with fail
            go_quiet (fail)
            go_wp2
            go_roundw
            case rel => exact ⟨j + 1, _, by rw [Hx.out]; go_num, by go_num, hlt, rfl⟩
            case measure => simp [intOf]; omega
          · have hx := Hcx.out
            rw [if_neg (fun h => c2 h.2)] at hx
            have Hx := Lib.hid hx; clear hx
            go_wp2_with fail
            go_quiet (fail)
            go_wp2
            go_roundw
            case rel => exact ⟨j + 1, _, by rw [Hx.out], by go_num, hlt, rfl⟩
            case measure => simp [intOf]; omega
        · have hx := Hcx.out
          rw [if_neg (fun h => c1 h.1)] at hx
          have Hx := Lib.hid hx; clear hx
          go_wp2_with fail
          go_quiet (fail)
          go_wp2
          go_roundw
          case rel => exact ⟨j + 1, _, by rw [Hx.out], by go_num, hlt, rfl⟩
          case measure => simp [intOf]; omega
      · obtain rfl : j = m := by omega
        rw [Hcn.out]
        clear hcl
        obtain ⟨w3, hw3⟩ : ∃ w3, w3 = w2.drewN q := ⟨_, rfl⟩
        have b23 : Below w2.heap.size w2 w3 := by rw [hw3]; exact below_drewN (Below.refl _ _) q
        have z3 := b23.size
        have hr3 := (Hr2.out.below b23).more z3
        rw [← hw3]
        have hlb : w.heap.size < w2.heap.size := by have := S1.out; omega
        replace g0 : w3.cell? ⟨w.heap.size, 0, none⟩ = some (.int .i64 (F : Int)) := (b23.cell (p := ⟨w.heap.size, 0, none⟩) hlb).trans g0
        replace g1 : w3.cell? ⟨w.heap.size, 1, none⟩ = some (.int .i64 (T : Int)) := (b23.cell (p := ⟨w.heap.size, 1, none⟩) hlb).trans g1
        replace g2 : w3.cell? ⟨w.heap.size, 2, none⟩ = some (.int .i64 (K : Int)) := (b23.cell (p := ⟨w.heap.size, 2, none⟩) hlb).trans g2
        have Hr3 := Lib.hid hr3; clear hr3 hw3
        go_wp2_with fail
        refine (Hrd.out _ Hr3.out).mono ?_
        rintro e w4 ⟨A4, c4, rfl, hp4, hb4⟩
        have z4 := hb4.size
        replace g2 : w4.cell? ⟨w.heap.size, 2, none⟩ = some (.int .i64 (K : Int)) := (hb4.cell (p := ⟨w.heap.size, 2, none⟩) (by show w.heap.size < _; omega)).trans g2
        clear g0 g1 hp4
        go_wp2_with fail
        refine (alive_c _).mono ?_
        rintro e w5 ⟨rfl, hb5⟩
        replace g2 : w5.cell? ⟨w.heap.size, 2, none⟩ = some (.int .i64 (K : Int)) := (hb5.cell (p := ⟨w.heap.size, 2, none⟩) (by show w.heap.size < _; omega)).trans g2
        have b35 := hb4.trans (hb5.mono z4)
        have b25 := b23.trans (b35.mono z3)
        have bz : Below w.heap.size w w5 := B1.out.trans ((Hb2.out.trans (b25.mono z2)).mono (by have := S1.out; omega))
        have hdiv := Hdiv.out
        have hwm := Hwm.out
        go_wp2
        go_ret
        exact ⟨rfl, bz⟩
end Go.Proofs.Ytjdmpnonjlffaaa
