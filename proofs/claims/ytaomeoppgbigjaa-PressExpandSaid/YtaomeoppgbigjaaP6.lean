/-
  places.match: the search over the places noted comes to the longest likeness.
-/
import Derived.Test.YtaomeoppgbigjaaP5
namespace Go.Proofs.Ytaomeoppgbigjaa
open Go.RowKit Go.Maps Go.ChangeShapes

theorem posI_get (l : List UInt8) (m x k p : Nat) (h : (posn l m x)[k]? = some p) : (posI l m x)[k]? = some (p : Int) := by unfold posI; rw [List.getElem?_map, h]; rfl

def MatchRel (l : List UInt8) (i : Nat) (w : World) (tn td tk : Value) (wr : World) : Prop :=
  ∃ (K d q : Nat) (r : Nat × Nat) (z : Int), tn = .int .i64 (r.1 : Int) ∧ td = .int .i64 (r.2 : Int) ∧ tk = .int .i64 z ∧ z = (K : Int) - 1 ∧ wr = w.drewN q ∧ r.1 ≤ 200 ∧ r.2 ≤ 4096 ∧ K ≤ (posn l i (f4 l i)).length ∧ Hid (Look l i K d r)

theorem best_ret {l : List UInt8} {i : Nat} {R r : Nat × Nat} (h1 : R = Pm.best l i) (h2 : Pm.best l i = r) : Ending.returned (.tuple #[.int .i64 (r.1 : Int), .int .i64 (r.2 : Int)]) = .returned (.tuple #[.int .i64 (R.1 : Int), .int .i64 (R.2 : Int)]) := by rw [h1, h2]

theorem mret {l : List UInt8} {i : Nat} {R r : Nat × Nat} {a b : Int} (h1 : R = Pm.best l i) (h2 : Pm.best l i = r) (ha : a = (r.1 : Int)) (hb : b = (r.2 : Int)) : Ending.returned (.tuple #[.int .i64 a, .int .i64 b]) = .returned (.tuple #[.int .i64 (R.1 : Int), .int .i64 (R.2 : Int)]) := by rw [h1, h2, ha, hb]
theorem mlenI (A : Option Addr) (n c B : Nat) (l : List UInt8) (i d : Nat) (z : Int) (w : World) (hz : z = (d : Int)) (hr : Rb w B A n c l) (hn : n ≤ 1000000) (hd : 1 ≤ d) (hdi : d ≤ i) (hi : i ≤ n) :
    Calls Try.prog 30 #[.slice A n c, .int .i64 (i : Int), .int .i64 z] w fun e w' => e = .returned (.int .i64 (Pm.like l i d : Nat)) ∧ ∃ q, w' = w.drewN q := by
  subst hz
  exact mlen_c A n c B l i d w hr hn hd hdi hi

theorem posn_len (l : List UInt8) (m x : Nat) : (posn l m x).length ≤ m := by
  unfold posn
  have := List.length_filter_le (fun p => f4 l p == x) (List.range m)
  simpa using this

set_option maxRecDepth 100000 in
set_option maxHeartbeats 1000000 in
/-- press.places.match -/
theorem match_c (A : Option Addr) (n c b : Nat) (l : List UInt8) (i : Nat) (No : Nat → Prop) (D0 : DataW Unit) (w : World) (hr : Rb w b A n c l) (hn : n ≤ 900000) (hi : i ≤ n) (hg : Grp w b No l (min i (n - 3)) D0) :
    Calls Try.prog 16 #[.map (some b), .slice A n c, .int .i64 (i : Int)] w fun e w' => e = .returned (.tuple #[.int .i64 ((Pm.best l i).1 : Nat), .int .i64 ((Pm.best l i).2 : Nat)]) ∧ ∃ q, w' = w.drewN q := by
  obtain ⟨R, hR⟩ : ∃ R, R = Pm.best l i := ⟨_, rfl⟩
  rw [← hR]
  have hl := hr.len
  have Hr := Lib.hid hr; have HR := Lib.hid hR; have Hg := Lib.hid hg; clear hr hR hg
  by_cases h4 : n < i + 4
  · have h4' : (n : Int) - (i : Int) < 4 := by omega
    have hb := best_few l i (by omega) (by omega)
    have h5 : R = (0, 0) := HR.out.trans hb
    clear hb hl h4 HR
    subst h5
    go_enter Try.func16, Try.ntmps16
    go_wp2
    go_ret2
    exact ⟨rfl, 0, rfl⟩
  · have h4' : (4 : Int) ≤ (n : Int) - (i : Int) := by omega
    have hi4 : i + 4 ≤ n := by omega
    have HG : Hid (Grp w b No l i D0) := by rw [show i = min i (n - 3) by omega]; exact Hg
    have Hst := Lib.hid (Look.start l i (by omega))
    have Hll := Lib.hid hl
    clear Hg h4 hl
    go_enter Try.func16, Try.ntmps16
    go_wp2_with fail
    refine (four_c A n c b l i _ Hr.out (by omega) hi4).mono ?_
    rintro e w1 ⟨rfl, q, rfl⟩
    obtain ⟨x, hx⟩ : ∃ x, x = f4 l i := ⟨_, rfl⟩
    have hxl : x < 4294967296 := by rw [hx]; exact f4_lt l i
    rw [← hx]
    have Hx := Lib.hid hx; clear hx
    have hkey := keyOf_int_mk (P := Try.prog) Try.underlying53 (q := .u32) (a := (x : Int)) (wf32 x hxl)
    have HG1 := Lib.hid (HG.out.drewN q)
    go_wp2_with (at_lookup; go_must (refine wpList_lookup_groups _ rfl _ _ 37 rfl 53 52 3 .i64 law_u32 Try.underlying37 (zero_ints _) (b + 1) b i D0 rfl HG1.out.own (by unfold maxLen; omega) _ _ rfl hkey ?_))
    intro v zs hat hoi hzl hback
    clear hback
    have hzs := HG1.out.gd.at_ x hat hoi
    rw [Hx.out] at hzs
    clear hat
    have hlen : zs.length = (posn l i (f4 l i)).length := by rw [hzs]; simp [posI]
    have hpl := posn_len l i (f4 l i)
    have hsh : ∃ Av cv, v = .slice Av zs.length cv ∧ (0 < zs.length → ∃ g, Av = some ⟨g, 0, none⟩ ∧ zs.length ≤ cv ∧ ∀ k p : Nat, (posn l i (f4 l i))[k]? = some p → w.cell? ⟨g, k, none⟩ = some (.int .i64 (p : Int))) := by
      have hrow := hoi.1
      rcases hoi.1.2 with ⟨rfl, h0⟩ | ⟨g, cap, cur, rfl, hgb, hh, hcap, hcm, _, _⟩
      · exact ⟨none, 0, by rw [h0], fun h => by omega⟩
      · refine ⟨_, _, rfl, fun _ => ⟨g, rfl, hcap, fun k p hp => ?_⟩⟩
        have hk : k < zs.length := by rw [hlen]; exact (List.getElem?_eq_some_iff.1 hp).1
        have h1 := hrow.cellAt k (by omega)
        have h2 := posI_get l i _ k p hp
        rw [← hzs] at h2
        have h3 : (w.drewN q).cell? ⟨g, k, none⟩ = some (.int .i64 (p : Int)) := by
          rw [h1]
          simp [h2]
        exact h3
    obtain ⟨Av, cv, rfl, hcv⟩ := hsh
    have Hcv := Lib.hid hcv; have Hlen := Lib.hid hlen; clear hcv hoi HG1 HG hzs hzl
    obtain ⟨N, hN⟩ : ∃ N, N = zs.length := ⟨_, rfl⟩
    rw [← hN] at Hcv Hlen ⊢
    clear hN
    have hNi : N ≤ i := by have := Hlen.out; omega
    clear hpl
    go_wp2
    go_loopw [9, 10, 11] (fun tn td tk wr => MatchRel l i w tn td tk wr) (fun _ _ tk _ => ((intOf tk) + 1).toNat)
    case atStart => exact ⟨N, 1, q, (0, 0), _, rfl, rfl, rfl, by omega, rfl, by simp, by simp, by have := Hlen.out; omega, by rw [Hlen.out]; exact Hst⟩
    case round =>
      obtain ⟨K, d, q2, r, z, rfl, rfl, rfl, hz, rfl, hr1, hr2, hKl, HL⟩ := hrel
      cases K with
      | zero =>
        obtain rfl : z = -1 := by omega
        clear hz
        go_wp2
        go_ret2
        exact ⟨best_ret HR.out HL.out.none, _, rfl⟩
      | succ K =>
        obtain rfl : z = (K : Int) := by omega
        clear hz
        obtain ⟨p, hp⟩ : ∃ p, (posn l i (f4 l i))[K]? = some p := ⟨_, List.getElem?_eq_getElem (by omega)⟩
        have hpi := (posn_mem.1 (List.mem_of_getElem? hp)).1
        have hKN : (K : Int) < (N : Int) := by have := Hlen.out; omega
        obtain ⟨g, rfl, hcap, hcell⟩ := Hcv.out (by omega)
        have hc := hcell K p hp
        have Hp := Lib.hid hp; clear hp hcell
        by_cases hf : i - p ≤ 4096
        · have hf' : (i : Int) - (p : Int) ≤ 4096 := by omega
          go_wp2_with fail
          refine (mlenI A n c b l i (i - p) _ _ (by omega) (Hr.out.drewN q2) (by omega) (by omega) (by omega) hi).mono ?_
          rintro e w2 ⟨rfl, q3, rfl⟩
          have hst2 := HL.out.step (by rw [Hll.out]; exact hi4) Hp.out hf
          have hle := Pm.like_le l i (i - p)
          have hln := Pm.like_len l i (i - p) (by rw [Hll.out]; exact hi)
          rw [Hll.out] at hln
          obtain ⟨k, hk⟩ : ∃ k, k = Pm.like l i (i - p) := ⟨_, rfl⟩
          rw [← hk] at hst2 hle hln ⊢
          clear hk HL
          by_cases h5 : r.1 < k
          · rw [if_pos h5] at hst2
            have Hst2 := Lib.hid hst2; clear hst2
            have h5' : (r.1 : Int) < (k : Int) := by omega
            by_cases h6 : 200 ≤ n - i
            · have h6' : (200 : Int) ≤ (n : Int) - (i : Int) := by omega
              by_cases h7 : k = 200
              · have h7' : ((k : Int) == 200) = true := by simp; omega
                have H7 := Lib.hid h7; clear h7
                go_wp2_with fail
                go_quiet (fail)
                go_wp2
                go_ret2
                exact ⟨mret HR.out (Hst2.out.full (by rw [Hll.out]; exact hi) (by rw [Hll.out]; dsimp only; have := H7.out; omega)) rfl (by dsimp only; have := H7.out; omega), _, rfl⟩
              · have h7' : ((k : Int) == 200) = false := by simp; omega
                go_wp2_with fail
                go_quiet (fail)
                go_wp2
                go_roundw
                case rel => exact ⟨K, i - p + 1, _, (k, i - p), _, rfl, by dsimp only; congr 1; omega, rfl, by omega, rfl, by dsimp only; omega, by dsimp only; omega, by omega, Hst2⟩
                case measure => simp [intOf]
            · have h6' : (n : Int) - (i : Int) < 200 := by omega
              by_cases h7 : k = n - i
              · have h7' : ((k : Int) == (n : Int) - (i : Int)) = true := by simp; omega
                have H7 := Lib.hid h7; clear h7
                go_wp2_with fail
                go_quiet (fail)
                go_wp2
                go_ret2
                exact ⟨mret HR.out (Hst2.out.full (by rw [Hll.out]; exact hi) (by rw [Hll.out]; dsimp only; have := H7.out; omega)) rfl (by dsimp only; have := H7.out; omega), _, rfl⟩
              · have h7' : ((k : Int) == (n : Int) - (i : Int)) = false := by simp; omega
                go_wp2_with fail
                go_quiet (fail)
                go_wp2
                go_roundw
                case rel => exact ⟨K, i - p + 1, _, (k, i - p), _, rfl, by dsimp only; congr 1; omega, rfl, by omega, rfl, by dsimp only; omega, by dsimp only; omega, by omega, Hst2⟩
                case measure => simp [intOf]
          · rw [if_neg h5] at hst2
            have Hst2 := Lib.hid hst2; clear hst2
            have h5' : (k : Int) ≤ (r.1 : Int) := by omega
            by_cases h6 : 200 ≤ n - i
            · have h6' : (200 : Int) ≤ (n : Int) - (i : Int) := by omega
              by_cases h7 : k = 200
              · have h7' : ((k : Int) == 200) = true := by simp; omega
                have H7 := Lib.hid h7; clear h7
                go_wp2
                go_ret2
                exact ⟨mret HR.out (Hst2.out.full (by rw [Hll.out]; exact hi) (by rw [Hll.out]; have := H7.out; omega)) rfl rfl, _, rfl⟩
              · have h7' : ((k : Int) == 200) = false := by simp; omega
                go_wp2
                go_roundw
                case rel => exact ⟨K, i - p + 1, _, r, _, rfl, rfl, rfl, by omega, rfl, hr1, hr2, by omega, Hst2⟩
                case measure => simp [intOf]
            · have h6' : (n : Int) - (i : Int) < 200 := by omega
              by_cases h7 : k = n - i
              · have h7' : ((k : Int) == (n : Int) - (i : Int)) = true := by simp; omega
                have H7 := Lib.hid h7; clear h7
                go_wp2
                go_ret2
                exact ⟨mret HR.out (Hst2.out.full (by rw [Hll.out]; exact hi) (by rw [Hll.out]; have := H7.out; omega)) rfl rfl, _, rfl⟩
              · have h7' : ((k : Int) == (n : Int) - (i : Int)) = false := by simp; omega
                go_wp2
                go_roundw
                case rel => exact ⟨K, i - p + 1, _, r, _, rfl, rfl, rfl, by omega, rfl, hr1, hr2, by omega, Hst2⟩
                case measure => simp [intOf]
        · have hf' : (4096 : Int) < (i : Int) - (p : Int) := by omega
          go_wp2
          go_ret2
          exact ⟨best_ret HR.out (HL.out.far Hp.out (by omega)), _, rfl⟩
end Go.Proofs.Ytaomeoppgbigjaa
