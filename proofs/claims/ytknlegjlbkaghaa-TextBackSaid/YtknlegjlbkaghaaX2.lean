/-
  text's Scan, the document's Scan: what each call returns and leaves.
-/
import Derived.Test.YtknlegjlbkaghaaX1
import Derived.Test.YtknlegjlbkaghaaPw
namespace Go.Proofs.Ytknlegjlbkaghaa
open Go.RowKit Go.Maps

theorem oc_lt {z : Nat} {w : World} {e : TypeId} {base n c : Nat} {A : Option Addr} {vs : List Value} (h : Oc z w e base A n c vs) : ∀ g, ob A = some g → g < w.heap.size := fun g hg => (oc_ob h g hg).2
def RetP (w : World) (l : List UInt8) (e : Ending) (w' : World) : Prop :=
  ∃ A c, e = .returned (.tuple #[.slice A (Tm.ls l).length c, .int .i64 (l.length : Int), .int .i64 0]) ∧ PLS w' (Fr w.heap.size w') A (Tm.ls l).length c ((Tm.ls l).map Tm.pc) ∧ Below w.heap.size w w'
def ScanRel (base n : Nat) (w : World) (l : List UInt8) (o t : Value) (wr : World) : Prop :=
  ∃ A c vs done, ∃ a : Nat, o = .slice A done.length c ∧ t = .int .i64 (a : Int) ∧ a ≤ n ∧ Oc 2 wr 30 base A done.length c vs ∧ PsS wr (Sf base wr A) vs (done.map Tm.pc) ∧ done ++ Tm.lns a [] (l.drop a) = Tm.ls l ∧ Below base w wr

set_option maxHeartbeats 2000000 in
set_option maxRecDepth 100000 in
/-- Scan -/
theorem scan_c (A : Option Addr) (n c : Nat) (l : List UInt8) (w : World) (hr : Rb w w.heap.size A n c l) (hn : n ≤ 1000000) :
    Calls Try.prog 10 #[.slice A n c] w (RetP w l) := by
  have hl := hr.len
  have Hr := Lib.hid hr; have Hl := Lib.hid hl; clear hr hl
  go_enter Try.func10, Try.ntmps10
  go_wp2
  go_loopw [5, 6] (fun o t wr => ScanRel w.heap.size n w l o t wr) (fun _ t _ => n - (intOf t).toNat)
  case atStart => exact ⟨none, 0, [], [], 0, rfl, rfl, Nat.zero_le _, Oc.nil _ _ _ _, PsS.nil, rfl, Below.refl _ _⟩
  case round =>
    obtain ⟨A3, c3, vs, done, a, rfl, rfl, ha, hown, hps, hst, hbel⟩ := hrel
    have z3 := hbel.size
    have hlen : done.length ≤ n := by
      have h1 := Tm.ls_len l
      have h2 := congrArg List.length hst
      rw [List.length_append] at h2
      have := Hl.out
      omega
    by_cases hlt : a < n
    · have Hst := Lib.hid hst; have Hown := Lib.hid hown; have Hps := Lib.hid hps; clear hst hown hps
      have hr3 := Hr.out.below hbel
      have Hr3 := Lib.hid hr3; clear hr3
      go_wp2_with fail
      refine (line_c A n c _ l a _ Hr3.out hlt hn).mono ?_
      rintro e w4 ⟨k, m, rfl, ⟨hln, hm1, hm2, hk⟩, rfl⟩
      have hst2 : (done ++ [(a, k)]) ++ Tm.lns m [] (l.drop m) = Tm.ls l := by
        rw [← Hst.out, hln]; simp
      have hmn : m ≤ n := by rw [Hl.out] at hm2; exact hm2
      have Hst2 := Lib.hid hst2; clear hln hst2 hm2 hk
      rename World => wr
      obtain ⟨w5, h5⟩ : ∃ w5, w5 = wr.alloc (.cells #[.string ⟨k.toArray⟩] 9) := ⟨_, rfl⟩
      obtain ⟨w6, h6⟩ : ∃ w6, w6 = w5.alloc (.cells #[.slice (some ⟨wr.heap.size, 0, none⟩) 1 1] 48) := ⟨_, rfl⟩
      obtain ⟨w7, h7⟩ : ∃ w7, w7 = w6.alloc (.cells #[.int .i64 (a : Int), .slice (some ⟨wr.heap.size + 1, 0, none⟩) 1 1] 30) := ⟨_, rfl⟩
      obtain ⟨z7, b7, hlit, hpr⟩ := piece_lit wr k a A3 w.heap.size _ _ _ z3 (oc_lt Hown.out) w5 w6 w7 h5 h6 h7
      have hown7 := Hown.out.keep b7
      have hps7 := (Hps.out.keep (sf_below b7)).snoc hpr
      have bw7 := hbel.trans (b7.mono z3)
      have H5 := Lib.hid h5; have H6 := Lib.hid h6; have H7 := Lib.hid h7; have Hlit := Lib.hid hlit; have Hown7 := Lib.hid hown7; have Hps7 := Lib.hid hps7; have Z7 := Lib.hid z7; clear h5 h6 h7 hlit hpr hown7 hps7 z7 b7
      go_wp2_with (at_builtin; rw [← H5.out, ← H6.out, ← H7.out]; go_must (refine Sl.wpAppAt pty rfl (.tmp 19) (.tmp 25) rfl (n := done.length) (m := 1) (N := done.length + 1) (ws := vs ++ [.int .i64 (a : Int), .slice (some ⟨wr.heap.size + 1, 0, none⟩) 1 1]) rfl rfl Hown7.out Hlit.out ?hs1 rfl rfl ?hs4 ?hs5 ?hs6 ?_))
      case hs1 => simp [Value.oneCell']
      case hs4 => omega
      case hs5 => omega
      case hs6 => have := Z7.out; omega
      intro A8 c8 w8 hown8 hg8
      have bw8 := bw7.trans (hg8.belowC Hown7.out (by have := Z7.out; omega))
      have hps8 := Hps7.out.keep (sf_grow hg8)
      have Hown8 := Lib.hid hown8; have Hps8 := Lib.hid hps8; clear hown8 hps8 hg8
      go_wp2
      go_roundw
      case rel => exact ⟨A8, c8, vs ++ [.int .i64 (a : Int), .slice (some ⟨wr.heap.size + 1, 0, none⟩) 1 1], done ++ [(a, k)], m, by simp, rfl, hmn, by rw [List.length_append]; exact Hown8.out, by rw [List.map_append]; exact Hps8.out, Hst2.out, bw8⟩
      case measure => simp [intOf]; omega
    · have e : a = n := by omega
      subst e
      have hd : done = Tm.ls l := by
        rw [← Hl.out, List.drop_length] at hst
        rw [← hst]
        simp [Tm.lns_end]
      have hfin : PLS wr (Fr w.heap.size wr) A3 done.length c3 (done.map Tm.pc) := ⟨vs, hown.rcS, hps.keep (stays_weak sf_fr)⟩
      have Hd := Lib.hid hd; have Hfin := Lib.hid hfin; clear hst hown hps hd hfin
      go_wp2
      go_ret3
      refine ⟨A3, c3, ?_, ?_, hbel⟩
      · rw [← Hd.out, Hl.out]; rfl
      · rw [← Hd.out]; exact Hfin.out
end Go.Proofs.Ytknlegjlbkaghaa
