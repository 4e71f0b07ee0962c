/-
  fixed's Scan: what it returns and leaves.
-/
import Derived.Test.YtjdmpnonjlffaaaY2
namespace Go.Proofs.Ytjdmpnonjlffaaa
open Go.RowKit Go.Maps

theorem oc_lt {z : Nat} {w : World} {e : TypeId} {base n c : Nat} {A : Option Addr} {vs : List Value} (h : Oc z w e base A n c vs) : ∀ g, ob A = some g → g < w.heap.size := fun g hg => (oc_ob h g hg).2
/-- Is this a width? -/
def isw (k : Int) : Bool := decide (1 ≤ k ∧ k ≤ 1000)
/-- What is told of a file of n bytes, by width k. -/
def scE (n k : Nat) : Nat := if n / k * k < n then 2 else 0
def RetP (w : World) (l : List UInt8) (k : Nat) (e : Ending) (w' : World) : Prop :=
  ∃ A c, e = .returned (.tuple #[.slice A (Fx.ch l k).length c, .int .i64 ((l.length / k * k : Nat) : Int), .int .i64 (scE l.length k : Int)]) ∧ PLS w' (Fr w.heap.size w') A (Fx.ch l k).length c ((Fx.ch l k).map Tm.pc) ∧ Below w.heap.size w w'
def ScanRel (base m k : Nat) (w : World) (l : List UInt8) (o t : Value) (wr : World) : Prop :=
  ∃ A c vs, ∃ i : Nat, o = .slice A i c ∧ t = .int .i64 ((i * k : Nat) : Int) ∧ i ≤ m ∧ Oc 2 wr 55 base A i c vs ∧ PsS wr (Sf base wr A) vs ((Fx.rs l k 0 i).map Tm.pc) ∧ Below base w wr

theorem scan_arg (A : Option Addr) (n c : Nat) (k : Int) (h : isw k = false) (w : World) :
    Calls Try.prog 11 #[.slice A n c, .int .i64 k] w fun e w' => e = .returned (.tuple #[.slice none 0 0, .int .i64 0, .int .i64 1]) ∧ w = w' := by
  go_enter Try.func11, Try.ntmps11
  go_wp2_with fail
  refine (isw_c k false h.symm _).mono ?_
  rintro e w1 ⟨rfl, rfl⟩
  go_wp2
  go_ret3
  exact ⟨rfl, rfl⟩

set_option maxHeartbeats 2000000 in
set_option maxRecDepth 100000 in
/-- Scan -/
theorem scan_c (A : Option Addr) (n c k : Nat) (l : List UInt8) (w : World) (hr : Rb w w.heap.size A n c l) (hn : n ≤ 1000000) (hk : 1 ≤ k) (hk2 : k ≤ 1000) :
    Calls Try.prog 11 #[.slice A n c, .int .i64 (k : Int)] w (RetP w l k) := by
  have hl := hr.len
  unfold RetP
  rw [Fx.ch_len, hl]
  obtain ⟨m, hm⟩ : ∃ m, m = n / k := ⟨_, rfl⟩
  have hlt : ∀ i, i * k < m * k ↔ i < m := fun i => by rw [hm]; exact Fx.lt_vs n k i hk
  have hle : ∀ i, i * k + k ≤ n ↔ i < m := fun i => by rw [hm]; exact Fx.le_vs n k i hk
  have hv := Fx.vs_le n k
  have hml : m ≤ n := by rw [hm]; exact Nat.div_le_self _ _
  obtain ⟨E, hE0⟩ : ∃ E, E = scE n k := ⟨_, rfl⟩
  have hE : E = if m * k < n then 2 else 0 := by rw [hE0, hm]; rfl
  have hch : (Fx.ch l k) = Fx.rs l k 0 m := by rw [Fx.ch, hl, hm]
  have hvs : ∀ W, Calls Try.prog 29 #[.slice A n c, .int .i64 (k : Int)] W fun e w' => e = .returned (.int .i64 ((m * k : Nat) : Int)) ∧ W = w' := fun W => by rw [hm]; exact vsize_c A n c k W hn hk hk2
  rw [hch, ← hE0, ← hm]
  rw [← hm] at hv
  obtain ⟨V, hV⟩ : ∃ V, V = m * k := ⟨_, rfl⟩
  rw [← hV] at hv
  simp only [← hV] at hvs hlt hE ⊢
  have hyes := (isw_c (k : Int) true (by simp; omega))
  have Hr := Lib.hid hr; have Hl := Lib.hid hl; have Hvs := Lib.hid hvs; have Hlt := Lib.hid hlt; have Hle := Lib.hid hle; have Hyes := Lib.hid hyes; have HV := Lib.hid hV; have HE := Lib.hid hE; clear hr hl hm hlt hle hE hE0 hch hvs hyes hV
  go_enter Try.func11, Try.ntmps11
  go_wp2_with fail
  refine (Hyes.out _).mono ?_
  rintro e w1 ⟨rfl, rfl⟩
  go_wp2_with fail
  refine (Hvs.out _).mono ?_
  rintro e w1 ⟨rfl, rfl⟩
  go_wp2
  go_loopw [7, 9] (fun o t wr => ScanRel w.heap.size m k w l o t wr) (fun _ t _ => V - (intOf t).toNat)
  case atStart => exact ⟨none, 0, [], 0, rfl, by simp, Nat.zero_le _, Oc.nil _ _ _ _, by simp [Fx.rs]; exact PsS.nil, Below.refl _ _⟩
  case round =>
    obtain ⟨A3, c3, vs, i, rfl, rfl, hi, hown, hps, hbel⟩ := hrel
    have z3 := hbel.size
    rename World => wr
    have hlt := Hlt.out i
    have hle := Hle.out i
    have hnx : (i + 1) * k = i * k + k := Nat.succ_mul i k
    obtain ⟨a, ha⟩ : ∃ a, a = i * k := ⟨_, rfl⟩
    rw [← ha] at hlt hle hnx ⊢
    by_cases hc : i < m
    · have hlt' : a < V := hlt.2 hc
      have hle' : a + k ≤ n := hle.2 hc
      clear hlt hle
      have hr3 := Hr.out.below hbel
      have hrc : Calls Try.prog 30 #[.slice A n c, .int .i64 (a : Int), .int .i64 (k : Int)] wr fun e w' => e = .returned (.slice (some ⟨wr.heap.size, 0, none⟩) 1 1) ∧ w' = wr.alloc (.cells #[.string ⟨(Fx.seg l k i).toArray⟩] 9) := by rw [ha]; exact record_c A n c w.heap.size k i l wr hr3 (by omega) hn
      obtain ⟨K, hK⟩ : ∃ K, K = Fx.seg l k i := ⟨_, rfl⟩
      have hst := Fx.rs_snoc l k 0 i (Nat.zero_le _)
      rw [show Fx.pi l k i = (a, K) by rw [hK, ha]; rfl] at hst
      rw [← hK] at hrc
      obtain ⟨w5, h5⟩ : ∃ w5, w5 = wr.alloc (.cells #[.string ⟨K.toArray⟩] 9) := ⟨_, rfl⟩
      obtain ⟨w6, h6⟩ : ∃ w6, w6 = w5.alloc (.cells #[.slice (some ⟨wr.heap.size, 0, none⟩) 1 1] 43) := ⟨_, rfl⟩
      obtain ⟨w7, h7⟩ : ∃ w7, w7 = w6.alloc (.cells #[.int .i64 (a : Int), .slice (some ⟨wr.heap.size + 1, 0, none⟩) 1 1] 55) := ⟨_, rfl⟩
      obtain ⟨z7, b7, hlit, hpr⟩ := piece_lit wr K a A3 w.heap.size _ _ _ z3 (oc_lt hown) w5 w6 w7 h5 h6 h7
      have hown7 := hown.keep b7
      have hps7 := (hps.keep (sf_below b7)).snoc hpr
      have bw7 := hbel.trans (b7.mono z3)
      have H5 := Lib.hid h5; have H6 := Lib.hid h6; have H7 := Lib.hid h7; have Hlit := Lib.hid hlit; have Hown7 := Lib.hid hown7; have Hps7 := Lib.hid hps7; have Z7 := Lib.hid z7; have Hrc := Lib.hid hrc; have Hst := Lib.hid hst; have Hnx := Lib.hid hnx
      clear h5 h6 h7 hlit hpr hown7 hps7 z7 b7 hrc hst hK ha hnx hr3 hown hps
      go_wp2_with fail
      refine Hrc.out.mono ?_
      rintro e w4 ⟨rfl, rfl⟩
      go_wp2_with (at_builtin; rw [← H5.out, ← H6.out, ← H7.out]; go_must (refine Sl.wpAppAt pty rfl (.tmp 22) (.tmp 30) rfl (n := i) (m := 1) (N := i + 1) (ws := vs ++ [.int .i64 (a : Int), .slice (some ⟨wr.heap.size + 1, 0, none⟩) 1 1]) rfl rfl Hown7.out Hlit.out ?hs1 rfl rfl ?hs4 ?hs5 ?hs6 ?_))
      case hs1 => simp [Value.oneCell']
      case hs4 => omega
      case hs5 => omega
      case hs6 => have := Z7.out; omega
      intro A8 c8 w8 hown8 hg8
      have bw8 := bw7.trans (hg8.belowC Hown7.out (by have := Z7.out; omega))
      have hps8 := Hps7.out.keep (sf_grow hg8)
      have Hown8 := Lib.hid hown8; have Hps8 := Lib.hid hps8; clear hown8 hps8 hg8
      go_wp2
      go_roundw
      case rel => exact ⟨A8, c8, vs ++ [.int .i64 (a : Int), .slice (some ⟨wr.heap.size + 1, 0, none⟩) 1 1], i + 1, rfl, by rw [Hnx.out]; go_num, hc, Hown8.out, by rw [Hst.out, List.map_append]; exact Hps8.out, bw8⟩
      case measure => simp [intOf]; omega
    · obtain rfl : i = m := by omega
      obtain rfl : a = V := by rw [ha, HV.out]
      have hfin : PLS wr (Fr w.heap.size wr) A3 i c3 ((Fx.rs l k 0 i).map Tm.pc) := ⟨vs, hown.rcS, hps.keep (stays_weak sf_fr)⟩
      have Hfin := Lib.hid hfin; clear hfin hown hps hlt hle hnx ha
      by_cases hs : a < n
      · have hE := HE.out
        rw [if_pos hs] at hE
        subst hE
        go_wp2
        go_ret3
        exact ⟨A3, c3, rfl, Hfin.out, hbel⟩
      · have hE := HE.out
        rw [if_neg hs] at hE
        subst hE
        go_wp2
        go_ret3
        exact ⟨A3, c3, rfl, Hfin.out, hbel⟩
end Go.Proofs.Ytjdmpnonjlffaaa
