/-
  Joined: P1.
-/
import Derived.Test.YtplkjljhpmldfaaJ6
import Derived.Test.YtplkjljhpmldfaaJ3
import Derived.Test.YtplkjljhpmldfaaJ1
import Derived.BigQuiet
/-
  Likenesses: press.matchLength and the document's like come to the longest likeness of a place at a distance.
-/
namespace Go.Proofs.Ytplkjljhpmldfaa
open Go.RowKit

theorem likeF_stop (b : List UInt8) (d f i : Nat) (h : ¬ (i < b.length ∧ b[i]? = b[i - d]?)) : Pm.likeF b d f i = 0 := by
  cases f with
  | zero => rfl
  | succ f => unfold Pm.likeF; rw [if_neg h]
theorem likeF_go (b : List UInt8) (d f i : Nat) (h1 : i < b.length) (h2 : b[i]? = b[i - d]?) (hf : 0 < f) : Pm.likeF b d f i = Pm.likeF b d (f - 1) (i + 1) + 1 := by
  obtain ⟨g, rfl⟩ : ∃ g, f = g + 1 := ⟨f - 1, by omega⟩
  conv => lhs; unfold Pm.likeF
  rw [if_pos ⟨h1, h2⟩]
  rfl

def LikeRel (l : List UInt8) (i d n : Nat) (w : World) (t : Value) (wr : World) : Prop :=
  ∃ k q : Nat, t = .int .i64 (k : Int) ∧ wr = w.drewN q ∧ k ≤ 200 ∧ i + k ≤ n ∧ Pm.like l i d = k + Pm.likeF l d (200 - k) (i + k)

set_option maxRecDepth 100000 in
/-- press.matchLength -/
theorem mlen_c (A : Option Addr) (n c B : Nat) (l : List UInt8) (i d : Nat) (w : World) (hr : Rb w B A n c l) (hn : n ≤ 1000000) (hd : 1 ≤ d) (hdi : d ≤ i) (hi : i ≤ n) :
    Calls Try.prog 88 #[.slice A n c, .int .i64 (i : Int), .int .i64 (d : Int)] w fun e w' => e = .returned (.int .i64 (Pm.like l i d : Nat)) ∧ ∃ q, w' = w.drewN q := by
  obtain ⟨N, hN⟩ : ∃ N, N = Pm.like l i d := ⟨_, rfl⟩
  rw [← hN]
  have hl := hr.len
  have Hr := Lib.hid hr; have HN := Lib.hid hN; have Hl := Lib.hid hl; clear hr hN hl
  go_enter Try.func88, Try.ntmps88
  go_wp2
  go_loopw [7] (fun t wr => LikeRel l i d n w t wr) (fun t _ => 200 - (intOf t).toNat)
  case atStart => exact ⟨0, 0, rfl, rfl, by omega, by omega, by simp [Pm.like]⟩
  case round =>
    obtain ⟨k, q, rfl, rfl, hk, hik, hL⟩ := hrel
    have HL := Lib.hid hL; clear hL
    by_cases h1 : k < 200
    · by_cases h2 : i + k < n
      · obtain ⟨b, off, rfl, hb, hc⟩ := Hr.out.2.2.2 (by omega)
        obtain ⟨x, hx⟩ : ∃ x, l[i + k]? = some x := ⟨_, List.getElem?_eq_getElem (by rw [Hl.out]; exact h2)⟩
        obtain ⟨y, hy⟩ : ∃ y, l[i + k - d]? = some y := ⟨_, List.getElem?_eq_getElem (by rw [Hl.out]; omega)⟩
        have cx : w.cell? ⟨b, off + (i + k), none⟩ = some (.int .u8 (x.toNat : Int)) := hc _ _ hx
        have cy : w.cell? ⟨b, off + (i + k - d), none⟩ = some (.int .u8 (y.toNat : Int)) := hc _ _ hy
        have Hx := Lib.hid hx; have Hy := Lib.hid hy; clear hx hy hc
        have g1 : (k : Int) < 200 := by omega
        have g2 : (i : Int) + (k : Int) < (n : Int) := by omega
        have p1 : (0 : Int) ≤ (i : Int) + (k : Int) := by omega
        have p2 : (0 : Int) ≤ (i : Int) + (k : Int) - (d : Int) := by omega
        have p3 : (i : Int) + (k : Int) - (d : Int) < (n : Int) := by omega
        have e1 : ((i : Int) + (k : Int)).toNat = i + k := by omega
        have e2 : ((i : Int) + (k : Int) - (d : Int)).toNat = i + k - d := by omega
        by_cases h3 : x = y
        · have t3 : ((x.toNat : Int) == (y.toNat : Int)) = true := by simp [h3]
          have Hxy := Lib.hid h3; clear h3
          go_wp2_with fail
          go_quiet (fail)
          go_wp2
          go_roundw
          case rel =>
            refine ⟨k + 1, q + _, by go_num, rfl, by omega, by omega, ?_⟩
            rw [HL.out, likeF_go l d (200 - k) (i + k) (by rw [Hl.out]; exact h2) (by rw [Hx.out, Hy.out, Hxy.out]) (by omega)]
            rw [show 200 - k - 1 = 200 - (k + 1) by omega, show i + k + 1 = i + (k + 1) by omega]
            omega
          case measure => simp [intOf]; omega
        · have t3 : ((x.toNat : Int) == (y.toNat : Int)) = false := by
            simp only [beq_eq_false_iff_ne, ne_eq]
            intro e
            exact h3 (UInt8.toNat_inj.1 (by omega))
          have Hxy := Lib.hid h3; clear h3
          go_wp2_with fail
          go_quiet (fail)
          go_wp2
          go_ret
          refine ⟨ret_int ?_, _, World.drewN_drewN _ _ _⟩
          rw [HN.out, HL.out, likeF_stop l d _ _ (by rw [Hx.out, Hy.out]; exact fun q => Hxy.out (Option.some.inj q.2))]
          rfl
      · have g0 : (k : Int) < 200 := by omega
        have g1 : decide ((i : Int) + (k : Int) < (n : Int)) = false := by simp; omega
        go_wp2_with fail
        go_quiet (fail)
        go_wp2
        go_ret
        refine ⟨ret_int ?_, _, World.drewN_drewN _ _ _⟩
        rw [HN.out, HL.out, likeF_stop l d _ _ (by rw [Hl.out]; omega)]
        rfl
    · have g1 : decide ((k : Int) < 200) = false := by simp; omega
      go_wp2_with fail
      go_quiet (fail)
      go_wp2
      go_ret
      refine ⟨ret_int ?_, _, World.drewN_drewN _ _ _⟩
      rw [HN.out, HL.out, show 200 - k = 0 by omega]
      rfl

set_option maxRecDepth 100000 in
/-- threshingref03.like -/
theorem rlike_c (A : Option Addr) (n c B : Nat) (l : List UInt8) (i d : Nat) (w : World) (hr : Rb w B A n c l) (hn : n ≤ 1000000) (hd : 1 ≤ d) (hdi : d ≤ i) (hi : i ≤ n) :
    Calls Try.prog 77 #[.slice A n c, .int .i64 (i : Int), .int .i64 (d : Int)] w fun e w' => e = .returned (.int .i64 (Pm.like l i d : Nat)) ∧ ∃ q, w' = w.drewN q := by
  obtain ⟨N, hN⟩ : ∃ N, N = Pm.like l i d := ⟨_, rfl⟩
  rw [← hN]
  have hl := hr.len
  have Hr := Lib.hid hr; have HN := Lib.hid hN; have Hl := Lib.hid hl; clear hr hN hl
  go_enter Try.func77, Try.ntmps77
  go_wp2
  go_loopw [7] (fun t wr => LikeRel l i d n w t wr) (fun t _ => 200 - (intOf t).toNat)
  case atStart => exact ⟨0, 0, rfl, rfl, by omega, by omega, by simp [Pm.like]⟩
  case round =>
    obtain ⟨k, q, rfl, rfl, hk, hik, hL⟩ := hrel
    have HL := Lib.hid hL; clear hL
    by_cases h1 : k < 200
    · by_cases h2 : i + k < n
      · obtain ⟨b, off, rfl, hb, hc⟩ := Hr.out.2.2.2 (by omega)
        obtain ⟨x, hx⟩ : ∃ x, l[i + k]? = some x := ⟨_, List.getElem?_eq_getElem (by rw [Hl.out]; exact h2)⟩
        obtain ⟨y, hy⟩ : ∃ y, l[i + k - d]? = some y := ⟨_, List.getElem?_eq_getElem (by rw [Hl.out]; omega)⟩
        have cx : w.cell? ⟨b, off + (i + k), none⟩ = some (.int .u8 (x.toNat : Int)) := hc _ _ hx
        have cy : w.cell? ⟨b, off + (i + k - d), none⟩ = some (.int .u8 (y.toNat : Int)) := hc _ _ hy
        have Hx := Lib.hid hx; have Hy := Lib.hid hy; clear hx hy hc
        have g1 : (k : Int) < 200 := by omega
        have g2 : (i : Int) + (k : Int) < (n : Int) := by omega
        have p1 : (0 : Int) ≤ (i : Int) + (k : Int) := by omega
        have p2 : (0 : Int) ≤ (i : Int) + (k : Int) - (d : Int) := by omega
        have p3 : (i : Int) + (k : Int) - (d : Int) < (n : Int) := by omega
        have e1 : ((i : Int) + (k : Int)).toNat = i + k := by omega
        have e2 : ((i : Int) + (k : Int) - (d : Int)).toNat = i + k - d := by omega
        by_cases h3 : x = y
        · have t3 : ((x.toNat : Int) == (y.toNat : Int)) = true := by simp [h3]
          have Hxy := Lib.hid h3; clear h3
          go_wp2_with fail
          go_quiet (fail)
          go_wp2
          go_roundw
          case rel =>
            refine ⟨k + 1, q + _, by go_num, rfl, by omega, by omega, ?_⟩
            rw [HL.out, likeF_go l d (200 - k) (i + k) (by rw [Hl.out]; exact h2) (by rw [Hx.out, Hy.out, Hxy.out]) (by omega)]
            rw [show 200 - k - 1 = 200 - (k + 1) by omega, show i + k + 1 = i + (k + 1) by omega]
            omega
          case measure => simp [intOf]; omega
        · have t3 : ((x.toNat : Int) == (y.toNat : Int)) = false := by
            simp only [beq_eq_false_iff_ne, ne_eq]
            intro e
            exact h3 (UInt8.toNat_inj.1 (by omega))
          have Hxy := Lib.hid h3; clear h3
          go_wp2_with fail
          go_quiet (fail)
          go_wp2
          go_ret
          refine ⟨ret_int ?_, _, World.drewN_drewN _ _ _⟩
          rw [HN.out, HL.out, likeF_stop l d _ _ (by rw [Hx.out, Hy.out]; exact fun q => Hxy.out (Option.some.inj q.2))]
          rfl
      · have g0 : (k : Int) < 200 := by omega
        have g1 : decide ((i : Int) + (k : Int) < (n : Int)) = false := by simp; omega
        go_wp2_with fail
        go_quiet (fail)
        go_wp2
        go_ret
        refine ⟨ret_int ?_, _, World.drewN_drewN _ _ _⟩
        rw [HN.out, HL.out, likeF_stop l d _ _ (by rw [Hl.out]; omega)]
        rfl
    · have g1 : decide ((k : Int) < 200) = false := by simp; omega
      go_wp2_with fail
      go_quiet (fail)
      go_wp2
      go_ret
      refine ⟨ret_int ?_, _, World.drewN_drewN _ _ _⟩
      rw [HN.out, HL.out, show 200 - k = 0 by omega]
      rfl
end Go.Proofs.Ytplkjljhpmldfaa
