/-
  The document's Scan: what it returns and leaves.
-/
import Derived.Test.YtjdmpnonjlffaaaY3
namespace Go.Proofs.Ytjdmpnonjlffaaa
open Go.RowKit Go.Maps

theorem rscan_arg (A : Option Addr) (n c : Nat) (k : Int) (h : isw k = false) (w : World) :
    Calls Try.prog 12 #[.slice A n c, .int .i64 k] w fun e w' => e = .returned (.tuple #[.slice none 0 0, .int .i64 0, .int .i64 1]) ∧ w = w' := by
  go_enter Try.func12, Try.ntmps12
  go_wp2_with fail
  refine (is_c k false h.symm _).mono ?_
  rintro e w1 ⟨rfl, rfl⟩
  go_wp2
  go_ret3
  exact ⟨rfl, rfl⟩

set_option maxHeartbeats 2000000 in
set_option maxRecDepth 100000 in
/-- the document's Scan -/
theorem rscan_c (A : Option Addr) (n c k : Nat) (l : List UInt8) (w : World) (hr : Rb w w.heap.size A n c l) (hn : n ≤ 1000000) (hk : 1 ≤ k) (hk2 : k ≤ 1000) :
    Calls Try.prog 12 #[.slice A n c, .int .i64 (k : Int)] w (RetP w l k) := by
  have hl := hr.len
  unfold RetP
  rw [Fx.ch_len, hl]
  obtain ⟨m, hm⟩ : ∃ m, m = n / k := ⟨_, rfl⟩
  have hle : ∀ i, i * k + k ≤ n ↔ i < m := fun i => by rw [hm]; exact Fx.le_vs n k i hk
  have hv := Fx.vs_le n k
  have hml : m ≤ n := by rw [hm]; exact Nat.div_le_self _ _
  obtain ⟨E, hE0⟩ : ∃ E, E = scE n k := ⟨_, rfl⟩
  have hE : E = if m * k < n then 2 else 0 := by rw [hE0, hm]; rfl
  have hch : (Fx.ch l k) = Fx.rs l k 0 m := by rw [Fx.ch, hl, hm]
  have hmle : ∀ i, i ≤ m → i * k ≤ n := fun i hi => by rw [hm] at hi; exact Nat.le_trans (Nat.mul_le_mul_right k hi) hv
  rw [hch, ← hE0, ← hm]
  rw [← hm] at hv
  obtain ⟨V, hV⟩ : ∃ V, V = m * k := ⟨_, rfl⟩
  rw [← hV] at hv
  simp only [← hV] at hE ⊢
  have hyes := (is_c (k : Int) true (by simp; omega))
  have Hr := Lib.hid hr; have Hl := Lib.hid hl; have Hle := Lib.hid hle; have Hyes := Lib.hid hyes; have HV := Lib.hid hV; have HE := Lib.hid hE; have Hmle := Lib.hid hmle; clear hr hl hm hle hE hE0 hch hyes hV hmle
  go_enter Try.func12, Try.ntmps12
  go_wp2_with fail
  refine (Hyes.out _).mono ?_
  rintro e w1 ⟨rfl, rfl⟩
  go_wp2
  go_loopw [7, 8] (fun o t wr => ScanRel w.heap.size m k w l o t wr) (fun _ t _ => n - (intOf t).toNat)
  case atStart => exact ⟨some ⟨w.heap.size, 0, none⟩, 0, [], 0, rfl, by simp, Nat.zero_le _, Oc.made0 2 _ _, by simp [Fx.rs]; exact PsS.nil, (Below.refl _ _).alloc (Nat.le_refl _) _⟩
  case round =>
    obtain ⟨A3, c3, vs, i, rfl, rfl, hi, hown, hps, hbel⟩ := hrel
    have z3 := hbel.size
    rename World => wr
    have hle := Hle.out i
    have hmle := Hmle.out i hi
    have hnx : (i + 1) * k = i * k + k := Nat.succ_mul i k
    have hsg : Fx.seg l k i = (l.take (i * k + k)).drop (i * k) := rfl
    obtain ⟨a, ha⟩ : ∃ a, a = i * k := ⟨_, rfl⟩
    rw [← ha] at hle hnx hmle hsg ⊢
    have q1 : IntKind.i64.wrap ((a : Int) + (k : Int)) = (a : Int) + (k : Int) := IntWalk.i64_in _ (by omega)
    by_cases hc : i < m
    · have hle' : a + k ≤ n := hle.2 hc
      clear hle
      have hr3 := Hr.out.below hbel
      obtain ⟨E5, hE5, hrE⟩ := bty.mid_ hr3 (i := a) (k := a + k) (by omega) hle' (a : Int) ((a : Int) + (k : Int)) rfl (by omega) k (by omega)
      have hcvE : (convert 22 9 (.slice E5 k (c - a))).run Try.prog wr = .ok (.string ⟨((l.take (a + k)).drop a).toArray⟩) wr := bty.conv hrE
      obtain ⟨K, hK⟩ : ∃ K, K = Fx.seg l k i := ⟨_, rfl⟩
      have hst := Fx.rs_snoc l k 0 i (Nat.zero_le _)
      rw [show Fx.pi l k i = (a, K) by rw [hK, ha]; rfl] at hst
      rw [← hsg, ← hK] at hcvE
      obtain ⟨w5, h5⟩ : ∃ w5, w5 = wr.alloc (.cells #[.string ⟨K.toArray⟩] 9) := ⟨_, rfl⟩
      obtain ⟨w6, h6⟩ : ∃ w6, w6 = w5.alloc (.cells #[.slice (some ⟨wr.heap.size, 0, none⟩) 1 1] 43) := ⟨_, rfl⟩
      obtain ⟨w7, h7⟩ : ∃ w7, w7 = w6.alloc (.cells #[.int .i64 (a : Int), .slice (some ⟨wr.heap.size + 1, 0, none⟩) 1 1] 55) := ⟨_, rfl⟩
      obtain ⟨z7, b7, hlit, hpr⟩ := piece_lit wr K a A3 w.heap.size _ _ _ z3 (oc_lt hown) w5 w6 w7 h5 h6 h7
      have hown7 := hown.keep b7
      have hps7 := (hps.keep (sf_below b7)).snoc hpr
      have bw7 := hbel.trans (b7.mono z3)
      have H5 := Lib.hid h5; have H6 := Lib.hid h6; have H7 := Lib.hid h7; have Hlit := Lib.hid hlit; have Hown7 := Lib.hid hown7; have Hps7 := Lib.hid hps7; have Z7 := Lib.hid z7; have Hst := Lib.hid hst; have Hnx := Lib.hid hnx
      clear h5 h6 h7 hlit hpr hown7 hps7 z7 b7 hst hK ha hnx hr3 hown hps hrE hsg
      go_wp2_with (at_builtin; rw [← H5.out, ← H6.out, ← H7.out]; go_must (refine Sl.wpAppAt pty rfl (.tmp 19) (.tmp 31) rfl (n := i) (m := 1) (N := i + 1) (ws := vs ++ [.int .i64 (a : Int), .slice (some ⟨wr.heap.size + 1, 0, none⟩) 1 1]) rfl rfl Hown7.out Hlit.out ?hs1 rfl rfl ?hs4 ?hs5 ?hs6 ?_))
      case hs1 => simp [Value.oneCell']
      case hs4 => omega
      case hs5 => omega
      case hs6 => have := Z7.out; omega
      intro A8 c8 w8 hown8 hg8
      have bw8 := bw7.trans (hg8.belowC Hown7.out (by have := Z7.out; omega))
      have hps8 := Hps7.out.keep (sf_grow hg8)
      have Hown8 := Lib.hid hown8; have Hps8 := Lib.hid hps8; clear hown8 hps8 hg8
      go_wp2
      go_roundw
      case rel => exact ⟨A8, c8, vs ++ [.int .i64 (a : Int), .slice (some ⟨wr.heap.size + 1, 0, none⟩) 1 1], i + 1, rfl, by rw [Hnx.out]; go_num, hc, Hown8.out, by rw [Hst.out, List.map_append]; exact Hps8.out, bw8⟩
      case measure => simp [intOf]; omega
    · have hle' : ¬ a + k ≤ n := fun h => hc (hle.1 h)
      obtain rfl : i = m := by omega
      obtain rfl : a = V := by rw [ha, HV.out]
      have hfin : PLS wr (Fr w.heap.size wr) A3 i c3 ((Fx.rs l k 0 i).map Tm.pc) := ⟨vs, hown.rcS, hps.keep (stays_weak sf_fr)⟩
      have Hfin := Lib.hid hfin; clear hfin hown hps hle hnx ha hsg
      by_cases hs : a < n
      · have hE := HE.out
        rw [if_pos hs] at hE
        subst hE
        go_wp2
        go_ret3
        exact ⟨A3, c3, rfl, Hfin.out, hbel⟩
      · have hE := HE.out
        rw [if_neg hs] at hE
        subst hE
        go_wp2
        go_ret3
        exact ⟨A3, c3, rfl, Hfin.out, hbel⟩
end Go.Proofs.Ytjdmpnonjlffaaa
