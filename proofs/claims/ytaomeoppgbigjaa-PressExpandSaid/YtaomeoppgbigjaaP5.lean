/-
  The longest likeness: the document's best, and the search over the places noted.
-/
import Derived.Test.YtaomeoppgbigjaaP1
import Derived.Test.YtaomeoppgbigjaaP4
namespace Go.Proofs.Ytaomeoppgbigjaa
open Go.RowKit Go.Maps Go.ChangeShapes

theorem bestF_next (b : List UInt8) (i k d : Nat) (r : Nat × Nat) : Pm.bestF b i (k + 1) d r = Pm.bestF b i k (d + 1) (if 4 ≤ Pm.like b i d ∧ r.1 < Pm.like b i d then (Pm.like b i d, d) else r) := rfl
theorem bestF_skip (b : List UInt8) (i : Nat) (r : Nat × Nat) : ∀ m k d, m ≤ k → (∀ e, d ≤ e → e < d + m → Pm.like b i e < 4) → Pm.bestF b i k d r = Pm.bestF b i (k - m) (d + m) r
  | 0, _, _, _, _ => rfl
  | m + 1, 0, _, h, _ => by omega
  | m + 1, k + 1, d, h, hl => by
    have h0 := hl d (Nat.le_refl _) (by omega)
    rw [bestF_next, if_neg (by omega), bestF_skip b i r m k (d + 1) (by omega) (fun e h1 h2 => hl e (by omega) (by omega))]
    rw [show k + 1 - (m + 1) = k - m by omega, show d + 1 + m = d + (m + 1) by omega]

theorem posn_sorted (l : List UInt8) (m x : Nat) : (posn l m x).Pairwise (· < ·) := (List.pairwise_lt_range (n := m)).filter _
theorem posn_lt {l : List UInt8} {m x j k p q : Nat} (hj : (posn l m x)[j]? = some p) (hk : (posn l m x)[k]? = some q) (h : j < k) : p < q := by
  obtain ⟨h1, rfl⟩ := List.getElem?_eq_some_iff.1 hj
  obtain ⟨h2, rfl⟩ := List.getElem?_eq_some_iff.1 hk
  exact List.pairwise_iff_getElem.1 (posn_sorted l m x) j k h1 h2 h
theorem posn_mem {l : List UInt8} {m x p : Nat} : p ∈ posn l m x ↔ p < m ∧ f4 l p = x := by simp [posn]
theorem like_four (l : List UInt8) (i e : Nat) (hi : i + 4 ≤ l.length) (he : 1 ≤ e) (hei : e ≤ i) : 4 ≤ Pm.like l i e ↔ f4 l (i - e) = f4 l i := by
  rw [f4_same l (i - e) i (by omega) hi]
  constructor
  · intro h k hk
    have := Pm.like_eq l i e k (by omega)
    rw [this]
    congr 1
    omega
  · intro h
    exact Pm.likeF_ge l e 4 200 i (by omega) hi fun k hk => by rw [show i + k - e = i - e + k by omega]; exact (h k hk).symm

/-- The search so far: the K first places are still to be looked at. -/
structure Look (l : List UInt8) (i K d : Nat) (r : Nat × Nat) : Prop where
  b : Pm.best l i = Pm.bestF l i (min i 4096 + 1 - d) d r
  d1 : 1 ≤ d
  rem : ∀ e, d ≤ e → e ≤ i → 4 ≤ Pm.like l i e → ∃ j, j < K ∧ (posn l i (f4 l i))[j]? = some (i - e)
  lo : ∀ j, j < K → ∀ p, (posn l i (f4 l i))[j]? = some p → p + d ≤ i
  r1 : r.1 ≤ 200
  r2 : r.2 ≤ 4096
theorem Look.start (l : List UInt8) (i : Nat) (hi : i + 4 ≤ l.length) : Look l i (posn l i (f4 l i)).length 1 (0, 0) := by
  refine ⟨by unfold Pm.best; rfl, Nat.le_refl _, fun e h1 h2 h3 => ?_, fun j _ p hp => ?_, by simp, by simp⟩
  · have hm : i - e ∈ posn l i (f4 l i) := posn_mem.2 ⟨by omega, (like_four l i e hi h1 h2).1 h3⟩
    obtain ⟨j, hj⟩ := List.mem_iff_getElem?.1 hm
    exact ⟨j, (List.getElem?_eq_some_iff.1 hj).1, hj⟩
  · have := (posn_mem.1 (List.mem_of_getElem? hp)).1
    omega
theorem Look.none {l : List UInt8} {i d : Nat} {r : Nat × Nat} (h : Look l i 0 d r) : Pm.best l i = r := by
  rw [h.b]
  refine Pm.bestF_stay l i _ d r fun e h1 h2 => ?_
  rcases Nat.lt_or_ge (Pm.like l i e) 4 with h3 | h3
  · exact .inr h3
  · obtain ⟨j, hj, _⟩ := h.rem e h1 (by omega) h3; omega
theorem Look.far {l : List UInt8} {i K d p : Nat} {r : Nat × Nat} (h : Look l i (K + 1) d r) (hp : (posn l i (f4 l i))[K]? = some p) (hf : 4096 < i - p) : Pm.best l i = r := by
  rw [h.b]
  refine Pm.bestF_stay l i _ d r fun e h1 h2 => ?_
  rcases Nat.lt_or_ge (Pm.like l i e) 4 with h3 | h3
  · exact .inr h3
  · obtain ⟨j, hj, hq⟩ := h.rem e h1 (by omega) h3
    rcases Nat.lt_or_ge j K with h4 | h4
    · have := posn_lt hq hp h4; omega
    · obtain rfl : j = K := by omega
      rw [hp] at hq
      injection hq with hq
      omega
theorem Look.step {l : List UInt8} {i K d p : Nat} {r : Nat × Nat} (h : Look l i (K + 1) d r) (hi : i + 4 ≤ l.length) (hp : (posn l i (f4 l i))[K]? = some p) (hf : i - p ≤ 4096) :
    Look l i K (i - p + 1) (if r.1 < Pm.like l i (i - p) then (Pm.like l i (i - p), i - p) else r) := by
  have hlo := h.lo K (by omega) p hp
  have hd1 := h.d1
  have hm := posn_mem.1 (List.mem_of_getElem? hp)
  have h4 : 4 ≤ Pm.like l i (i - p) := (like_four l i (i - p) hi (by omega) (by omega)).2 (by rw [show i - (i - p) = p by omega]; exact hm.2)
  have hle := Pm.like_le l i (i - p)
  have hr1 := h.r1; have hr2 := h.r2
  refine ⟨?_, by omega, fun e h1 h2 h3 => ?_, fun j hj q hq => ?_, ?_, ?_⟩
  · rw [h.b, bestF_skip l i r (i - p - d) _ d (by omega) (fun e h1 h2 => ?_)]
    · rw [show min i 4096 + 1 - d - (i - p - d) = (min i 4096 + 1 - (i - p + 1)) + 1 by omega, show d + (i - p - d) = i - p by omega, bestF_next]
      by_cases hlt : r.1 < Pm.like l i (i - p)
      · rw [if_pos ⟨h4, hlt⟩, if_pos hlt]
      · rw [if_neg (fun q => hlt q.2), if_neg hlt]
    · rcases Nat.lt_or_ge (Pm.like l i e) 4 with h3 | h3
      · exact h3
      · obtain ⟨j, hj, hq⟩ := h.rem e h1 (by omega) h3
        rcases Nat.lt_or_ge j K with h5 | h5
        · have := posn_lt hq hp h5; omega
        · obtain rfl : j = K := by omega
          rw [hp] at hq
          injection hq with hq
          omega
  · obtain ⟨j, hj, hq⟩ := h.rem e (by omega) h2 h3
    refine ⟨j, ?_, hq⟩
    rcases Nat.lt_or_ge j K with h5 | h5
    · exact h5
    · obtain rfl : j = K := by omega
      rw [hp] at hq
      injection hq with hq
      omega
  · have := posn_lt hq hp hj; omega
  · split
    · exact hle
    · exact hr1
  · split
    · exact hf
    · exact hr2
theorem Look.full {l : List UInt8} {i K d : Nat} {r : Nat × Nat} (h : Look l i K d r) (hi : i ≤ l.length) (hr : min 200 (l.length - i) ≤ r.1) : Pm.best l i = r := by
  rw [h.b]
  refine Pm.bestF_stay l i _ d r fun e h1 h2 => .inl ?_
  have := Pm.like_le l i e
  have := Pm.like_len l i e hi
  omega
theorem best_few (l : List UInt8) (i : Nat) (h : l.length < i + 4) (hi : i ≤ l.length) : Pm.best l i = (0, 0) := by
  refine Pm.best_none l i fun e _ _ _ => ?_
  have := Pm.like_len l i e hi
  omega

def BestRel (l : List UInt8) (i : Nat) (w : World) (tn ta td : Value) (wr : World) : Prop :=
  ∃ (d q : Nat) (r : Nat × Nat), tn = .int .i64 (r.1 : Int) ∧ ta = .int .i64 (r.2 : Int) ∧ td = .int .i64 (d : Int) ∧ wr = w.drewN q ∧ 1 ≤ d ∧ d ≤ 4097 ∧ d ≤ i + 1 ∧ r.1 ≤ 200 ∧ r.2 ≤ 4096 ∧ Hid (Pm.best l i = Pm.bestF l i (min i 4096 + 1 - d) d r)

set_option maxRecDepth 100000 in
/-- the document's best -/
theorem rbest_c (A : Option Addr) (n c B : Nat) (l : List UInt8) (i : Nat) (w : World) (hr : Rb w B A n c l) (hn : n ≤ 900000) (hi : i ≤ n) :
    Calls Try.prog 21 #[.slice A n c, .int .i64 (i : Int)] w fun e w' => e = .returned (.tuple #[.int .i64 ((Pm.best l i).1 : Nat), .int .i64 ((Pm.best l i).2 : Nat)]) ∧ ∃ q, w' = w.drewN q := by
  obtain ⟨R, hR⟩ : ∃ R, R = Pm.best l i := ⟨_, rfl⟩
  rw [← hR]
  have Hr := Lib.hid hr; have HR := Lib.hid hR; clear hr hR
  go_enter Try.func21, Try.ntmps21
  go_wp2
  go_loopw [6, 7, 8] (fun tn ta td wr => BestRel l i w tn ta td wr) (fun _ _ td _ => 5000 - (intOf td).toNat)
  case atStart => exact ⟨1, 0, (0, 0), rfl, rfl, rfl, rfl, by omega, by omega, by omega, by simp, by simp, Lib.hid rfl⟩
  case round =>
    obtain ⟨d, q, r, rfl, rfl, rfl, rfl, hd1, hd2, hd3, hr1, hr2, HB⟩ := hrel
    by_cases h1 : d ≤ i
    · by_cases h2 : d ≤ 4096
      · go_wp2_with fail
        refine (rlike_c A n c B l i d _ (Hr.out.drewN q) (by omega) hd1 h1 hi).mono ?_
        rintro e w1 ⟨rfl, q2, rfl⟩
        have hB2 : Pm.best l i = Pm.bestF l i (min i 4096 + 1 - (d + 1)) (d + 1) (if 4 ≤ Pm.like l i d ∧ r.1 < Pm.like l i d then (Pm.like l i d, d) else r) := by
          rw [HB.out, show min i 4096 + 1 - d = min i 4096 + 1 - (d + 1) + 1 by omega, bestF_next]
        have hle := Pm.like_le l i d
        obtain ⟨k, hk⟩ : ∃ k, k = Pm.like l i d := ⟨_, rfl⟩
        rw [← hk] at hB2 hle ⊢
        clear hk HB
        by_cases h3 : 4 ≤ k
        · by_cases h4 : r.1 < k
          · rw [if_pos ⟨h3, h4⟩] at hB2
            have HB2 := Lib.hid hB2; clear hB2
            go_wp2
            go_roundw
            case rel => exact ⟨d + 1, _, (k, d), rfl, rfl, by go_num, rfl, by omega, by omega, by omega, hle, by dsimp only; omega, HB2⟩
            case measure => simp [intOf]; omega
          · rw [if_neg (fun q => h4 q.2)] at hB2
            have HB2 := Lib.hid hB2; clear hB2
            go_wp2
            go_roundw
            case rel => exact ⟨d + 1, _, r, rfl, rfl, by go_num, rfl, by omega, by omega, by omega, hr1, hr2, HB2⟩
            case measure => simp [intOf]; omega
        · rw [if_neg (fun q => h3 q.1)] at hB2
          have HB2 := Lib.hid hB2; clear hB2
          go_wp2
          go_roundw
          case rel => exact ⟨d + 1, _, r, rfl, rfl, by go_num, rfl, by omega, by omega, by omega, hr1, hr2, HB2⟩
          case measure => simp [intOf]; omega
      · go_wp2
        go_ret2
        have hb := HB.out
        rw [show min i 4096 + 1 - d = 0 by omega] at hb
        have h5 : R = r := HR.out.trans hb
        subst h5
        exact ⟨rfl, _, rfl⟩
    · go_wp2
      go_ret2
      have hb := HB.out
      rw [show min i 4096 + 1 - d = 0 by omega] at hb
      have h5 : R = r := HR.out.trans hb
      subst h5
      exact ⟨rfl, _, rfl⟩
end Go.Proofs.Ytaomeoppgbigjaa
