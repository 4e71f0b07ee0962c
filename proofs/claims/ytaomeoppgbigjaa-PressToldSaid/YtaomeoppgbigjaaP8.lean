/-
  The document's Press (threshingref03) comes to its tokens.
-/
import Derived.Test.YtaomeoppgbigjaaP7
namespace Go.Proofs.Ytaomeoppgbigjaa
open Go.RowKit Go.Maps Go.ChangeShapes

def RPressRel (base : Nat) (w : World) (L l : List UInt8) (n : Nat) (o f t : Value) (wr : World) : Prop :=
  ∃ A c l1 from_ i, o = .slice A l1.length c ∧ f = .int .i64 (from_ : Nat) ∧ t = .int .i64 (i : Nat) ∧ from_ ≤ i ∧ i ≤ n ∧ Hid (Own wr 5 base A c l1) ∧ Hid (l1 ++ Pm.pressGo l from_ i = L) ∧ Below base w wr ∧ base ≤ wr.heap.size

set_option maxRecDepth 100000 in
set_option maxHeartbeats 1000000 in
/-- the document's Press -/
theorem rpress_c (A0 : Option Addr) (n c0 : Nat) (l : List UInt8) (w : World) (hr : Rb w w.heap.size A0 n c0 l) (hn : n ≤ 20000) :
    Calls Try.prog 10 #[.slice A0 n c0] w (RetP w.heap.size w (Pm.pressS l)) := by
  have hl := hr.len
  obtain ⟨L, hL⟩ : ∃ L, L = Pm.pressS l := ⟨_, rfl⟩
  have hLs : L.length ≤ 30000 := by
    have := Pm.press_len l (by omega)
    rw [hL]; omega
  rw [← hL]
  obtain ⟨V, hV⟩ : ∃ V, V = Vm.vb n := ⟨_, rfl⟩
  have hput := rput_c none 0 0 [] n w (Rb.nil _ _) (by omega) (by omega)
  rw [List.nil_append, ← hV] at hput
  have hVL : V ++ Pm.pressGo l 0 0 = L := by rw [hV, hL]; unfold Pm.pressS; rw [hl]
  have Hr := Lib.hid hr; have Hl := Lib.hid hl; have Hput := Lib.hid hput; have HVL := Lib.hid hVL; clear hr hl hL hV hput hVL
  go_enter Try.func10, Try.ntmps10
  go_wp2_with fail
  refine Hput.out.mono ?_
  rintro e w1 ⟨A1, c1, rfl, hown1, hb1⟩
  have hs1 := hb1.size
  have Hown1 := Lib.hid hown1; clear hown1
  go_wp2
  go_loopw [4, 5, 6] (fun o f t wr => RPressRel w.heap.size w L l n o f t wr) (fun _ _ t _ => n - (intOf t).toNat)
  case atStart => exact ⟨A1, c1, V, 0, 0, rfl, rfl, rfl, by omega, by omega, Hown1, HVL, hb1, hs1⟩
  case round =>
    obtain ⟨A, c, l1, f, i, rfl, rfl, rfl, hfi, hin, HO, HL, hbel, hsz⟩ := hrel
    have hll : l1.length ≤ 30000 := by have := congrArg List.length HL.out; rw [List.length_append] at this; omega
    by_cases hlt : i < n
    · have hlt' : (i : Int) < (n : Int) := by omega
      go_wp2_with fail
      refine (rbest_c A0 n c0 _ l i _ (Hr.out.below hbel) (by omega) hin).mono ?_
      rintro e w2 ⟨rfl, q, rfl⟩
      have hcases := Pm.best_cases l i (by rw [Hl.out]; exact hin)
      by_cases h0 : (Pm.best l i).1 = 0
      · have hgo := Pm.pressGo_lit l f i (by rw [Hl.out]; exact hlt) h0
        have HL2 : Hid (l1 ++ Pm.pressGo l f (i + 1) = L) := by rw [← hgo]; exact HL
        obtain ⟨R, hR⟩ : ∃ R, R = Pm.best l i := ⟨_, rfl⟩
        rw [← hR] at h0 ⊢
        obtain ⟨R1, R2⟩ := R
        dsimp only at h0
        subst h0
        clear hR hcases HL hgo
        go_wp2
        go_roundw
        case rel => exact ⟨A, c, l1, f, i + 1, rfl, rfl, by go_num, by omega, by omega, Lib.hid (HO.out.drewN q), HL2, below_drewN hbel q, hsz⟩
        case measure => simp [intOf]; omega
      · rcases hcases with hc0 | ⟨h4, h200, hlen, hd1, hdi, hd4, _⟩
        · exact absurd hc0 h0
        have hgo := Pm.pressGo_match l f i (by rw [Hl.out]; exact hlt) h0
        rw [Hl.out] at hlen
        obtain ⟨R, hR⟩ : ∃ R, R = Pm.best l i := ⟨_, rfl⟩
        rw [← hR] at h0 h4 h200 hlen hd1 hdi hd4 hgo ⊢
        obtain ⟨m, d⟩ := R
        dsimp only at h0 h4 h200 hlen hd1 hdi hd4 hgo ⊢
        clear hR h0
        have h4' : ((m : Int) == 0) = false := by simp; omega
        have hfi' : (f : Int) ≤ (i : Int) := by omega
        obtain ⟨E, hE, hrE⟩ := bty.mid_ (Hr.out.below hbel) (i := f) (k := i) hfi (by omega) (f : Int) (i : Int) rfl rfl (i - f) rfl
        have HrE := Lib.hid (hrE.drewN q); clear hrE
        obtain ⟨L2, hL2⟩ : ∃ L2, L2 = l1 ++ Pm.asB ((l.take i).drop f) := ⟨_, rfl⟩
        obtain ⟨L3, hL3⟩ : ∃ L3, L3 = L2 ++ Vm.vb (2 * (m - 4) + 1) := ⟨_, rfl⟩
        obtain ⟨L4, hL4⟩ : ∃ L4, L4 = L3 ++ Vm.vb d := ⟨_, rfl⟩
        have HL4 : Hid (L4 ++ Pm.pressGo l (i + m) (i + m) = L) := by
          show _ = _
          rw [hL4, hL3, hL2, ← HL.out, hgo]
          simp
        have hL3s : L3.length ≤ 30000 := by
          have := congrArg List.length HL4.out
          rw [List.length_append, hL4, List.length_append] at this
          omega
        have hL2s : L2.length ≤ 30000 := by
          rw [hL3, List.length_append] at hL3s
          omega
        have hsum : l1.length + (Pm.asB ((l.take i).drop f)).length ≤ 900000 := by
          have := congrArg List.length hL2
          rw [List.length_append] at this
          omega
        have hca := as_c A c w.heap.size l1 E (i - f) (c0 - f) ((l.take i).drop f) (wr.drewN q) (HO.out.drewN q) hsz HrE.out hsum
        rw [← hL2] at hca
        have Hca := Lib.hid hca; have HL2 := Lib.hid hL2; have HL3 := Lib.hid hL3; have HL4' := Lib.hid hL4; clear hL2 hL3 hL4 hca hgo HL hsum hlt
        go_wp2_with fail
        refine Hca.out.mono ?_
        rintro e w3 ⟨A2, c2, rfl, hown2, hg2⟩
        have HO2 := Lib.hid hown2
        have hbel2 : Below w.heap.size w w3 := (below_drewN hbel q).trans (hg2.below (HO.out.drewN q) hsz)
        clear hown2 hg2
        have hsz2 : w.heap.size ≤ w3.heap.size := hbel2.size
        have hcb := rputO A2 c2 w.heap.size L2 (2 * (m - 4) + 1) (2 * ((m : Int) - 4) + 1) w3 (by omega) HO2.out hsz2 (by omega) (by omega)
        rw [← HL3.out] at hcb
        have Hcb := Lib.hid hcb; clear hcb
        go_wp2_with fail
        refine Hcb.out.mono ?_
        rintro e w4 ⟨A3, c3, rfl, hown3, hg3⟩
        have HO3 := Lib.hid hown3
        have hbel3 : Below w.heap.size w w4 := hbel2.trans (hg3.below HO2.out hsz2)
        have hsz3 : w.heap.size ≤ w4.heap.size := hbel3.size
        clear hown3 hg3 HO HO2
        have hcc := rputO A3 c3 w.heap.size L3 d (d : Int) w4 rfl HO3.out hsz3 (by omega) (by omega)
        rw [← HL4'.out] at hcc
        have Hcc := Lib.hid hcc; clear hcc
        go_wp2_with fail
        refine Hcc.out.mono ?_
        rintro e w5 ⟨A4, c4, rfl, hown4, hg4⟩
        have HO4 := Lib.hid hown4
        have hbel4 : Below w.heap.size w w5 := hbel3.trans (hg4.below HO3.out hsz3)
        clear hown4 hg4 HO3
        go_wp2
        go_roundw
        case rel => exact ⟨A4, c4, L4, i + m, i + m, rfl, by go_num, by go_num, by omega, by omega, HO4, HL4, hbel4, hbel4.size⟩
        case measure => simp [intOf]; omega
    · obtain rfl : i = n := by omega
      have hgo := Pm.pressGo_at l f i Hl.out.symm
      have hL' : l1 ++ Pm.asB (l.drop f) = L := by rw [← hgo]; exact HL.out
      obtain ⟨E, hE, hrE⟩ := bty.from_ (Hr.out.below hbel) (k := f) hfi (f : Int) rfl
      have hsum : l1.length + (Pm.asB (l.drop f)).length ≤ 900000 := by
        have := congrArg List.length hL'
        rw [List.length_append] at this
        omega
      have hca := as_c A c w.heap.size l1 E (i - f) (c0 - f) (l.drop f) wr HO.out hsz hrE hsum
      rw [hL'] at hca
      have Hca := Lib.hid hca; clear hca hL' hgo hrE hsum hlt
      go_wp2_with fail
      refine Hca.out.mono ?_
      rintro e w3 ⟨A2, c2, rfl, hown2, hg2⟩
      have hbel2 : Below w.heap.size w w3 := hbel.trans (hg2.below HO.out hsz)
      go_wp2
      go_ret2
      exact ⟨A2, c2, rfl, hown2, hbel2⟩
end Go.Proofs.Ytaomeoppgbigjaa
