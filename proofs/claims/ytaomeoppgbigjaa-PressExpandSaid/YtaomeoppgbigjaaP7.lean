/-
  press.Press comes to the document's tokens.
-/
import Derived.Test.YtaomeoppgbigjaaP6
namespace Go.Proofs.Ytaomeoppgbigjaa
open Go.RowKit Go.Maps Go.ChangeShapes

theorem Own.same {w w' : World} {e : TypeId} {base c : Nat} {A : Option Addr} {l : List UInt8} (h : Own w e base A c l) (hs : ∀ g, ob A = some g → w'.heap[g]? = w.heap[g]?) : Own w' e base A c l := by
  unfold Own at h ⊢
  refine ⟨h.1, ?_⟩
  rcases h.2 with hn | ⟨g, cap, cur, hv, hbg, hg, rest⟩
  · exact .inl hn
  · refine .inr ⟨g, cap, cur, hv, hbg, (hs g ?_).trans hg, rest⟩
    injection hv with hA
    rw [hA]
    rfl

/-- A row of bytes and no error. -/
def RetP (base : Nat) (w : World) (L : List UInt8) (e : Ending) (w' : World) : Prop :=
  ∃ A c, e = .returned (.tuple #[.slice A L.length c, .int .i64 0]) ∧ Own w' 5 base A c L ∧ Below base w w'

def PressRel (base B : Nat) (w : World) (L l : List UInt8) (n : Nat) (o f t : Value) (wr : World) : Prop :=
  ∃ A c l1 from_ i D, o = .slice A l1.length c ∧ f = .int .i64 (from_ : Nat) ∧ t = .int .i64 (i : Nat) ∧ from_ ≤ i ∧ i ≤ n ∧ Hid (Own wr 5 base A c l1) ∧ Hid (Grp wr B (fun g => ob A = some g) l (min i (n - 3)) D) ∧ Hid (ob A ≠ some B) ∧ Hid (l1 ++ Pm.pressGo l from_ i = L) ∧ Below base w wr ∧ base ≤ wr.heap.size

set_option maxRecDepth 100000 in
set_option maxHeartbeats 1000000 in
/-- press.Press -/
theorem press_c (A0 : Option Addr) (n c0 : Nat) (l : List UInt8) (w : World) (hr : Rb w w.heap.size A0 n c0 l) (hn : n ≤ 20000) :
    Calls Try.prog 9 #[.slice A0 n c0] w (RetP w.heap.size w (Pm.pressS l)) := by
  have hl := hr.len
  obtain ⟨L, hL⟩ : ∃ L, L = Pm.pressS l := ⟨_, rfl⟩
  have hLs : L.length ≤ 30000 := by
    have := Pm.press_len l (by omega)
    rw [hL]; omega
  rw [← hL]
  obtain ⟨V, hV⟩ : ∃ V, V = Vm.vb n := ⟨_, rfl⟩
  have hput := put_c none 0 0 [] n w (Rb.nil _ _) (by omega) (by omega)
  rw [List.nil_append, ← hV] at hput
  have hVL : V ++ Pm.pressGo l 0 0 = L := by rw [hV, hL]; unfold Pm.pressS; rw [hl]
  have hmm := @run_makeMap Try.prog
  have Hr := Lib.hid hr; have Hl := Lib.hid hl; have Hput := Lib.hid hput; have HVL := Lib.hid hVL; clear hr hl hL hV hput hVL
  go_enter Try.func9, Try.ntmps9
  go_wp2_with fail
  refine Hput.out.mono ?_
  rintro e w1 ⟨A1, c1, rfl, hown1, hb1⟩
  have hs1 := hb1.size
  have hob1 := own_ob hown1
  have hne1 : Hid (ob A1 ≠ some w1.heap.size) := Lib.hid (fun e => by have := (hob1 _ e).2; omega)
  have HG1 := Lib.hid (Grp.start w1 l (fun g => ob A1 = some g))
  have Hown1 := Lib.hid hown1; clear hown1 hob1
  have hbB : Below w.heap.size w (w1.alloc (.map #[] 0)) := hb1.trans ((Below.refl _ _).alloc hs1 _)
  obtain ⟨base, hbase⟩ : ∃ base, base = w.heap.size := ⟨_, rfl⟩
  obtain ⟨B, hB⟩ : ∃ B, B = w1.heap.size := ⟨_, rfl⟩
  go_wp2
  go_loopw [4, 6, 7] (fun o f t wr => PressRel w.heap.size w1.heap.size w L l n o f t wr) (fun _ _ t _ => n - (intOf t).toNat)
  case atStart => exact ⟨A1, c1, V, 0, 0, _, rfl, rfl, rfl, by omega, by omega, Lib.hid (Hown1.out.alloc _), by rw [Nat.zero_min]; exact HG1, hne1, HVL, hbB, hbB.size⟩
  case round =>
    obtain ⟨A, c, l1, f, i, D, rfl, rfl, rfl, hfi, hin, HO, HG, Hne, HL, hbel, hsz⟩ := hrel
    have hll : l1.length ≤ 30000 := by have := congrArg List.length HL.out; rw [List.length_append] at this; omega
    have hBs := HG.out.lt
    by_cases hlt : i < n
    · have hlt' : (i : Int) < (n : Int) := by omega
      go_wp2_with fail
      refine (match_c A0 n c0 w1.heap.size l i _ D _ ((Hr.out.below hbel).more hs1) (by omega) hin HG.out).mono ?_
      rintro e w2 ⟨rfl, q, rfl⟩
      have hcases := Pm.best_cases l i (by rw [Hl.out]; exact hin)
      by_cases h0 : (Pm.best l i).1 = 0
      · have hgo := Pm.pressGo_lit l f i (by rw [Hl.out]; exact hlt) h0
        have HL2 : Hid (l1 ++ Pm.pressGo l f (i + 1) = L) := by rw [← hgo]; exact HL
        obtain ⟨R, hR⟩ : ∃ R, R = Pm.best l i := ⟨_, rfl⟩
        rw [← hR] at h0 ⊢
        obtain ⟨R1, R2⟩ := R
        dsimp only at h0
        subst h0
        clear hR hcases HL hgo
        go_wp2_with fail
        have hnote := note_c A0 n c0 w1.heap.size l i (i + 1) (fun g => ob A = some g) D (wr.drewN q) (((Hr.out.below hbel).more hs1).drewN q) (by omega) (fun g hg => (own_ob HO.out g hg).2) (HG.out.drewN q) (by omega) (by omega)
        refine (show Calls Try.prog 17 #[.map (some w1.heap.size), .slice A0 n c0, .int .i64 (i : Int), .int .i64 ((i : Int) + 1)] (wr.drewN q) _ from hnote).mono ?_
        rintro e w3 ⟨rfl, ⟨D2, hG2⟩, hb3, hsz3, hk3⟩
        have HG2 := Lib.hid hG2
        have HO2 : Hid (Own w3 5 w.heap.size A c l1) := Lib.hid (Own.same (HO.out.drewN q) fun g hg => hk3 g hg (fun e => Hne.out (e ▸ hg)) (own_ob HO.out g hg).2)
        have hbel3 : Below w.heap.size w w3 := (below_drewN hbel q).trans (hb3.mono hs1)
        clear hnote hG2 hk3 hb3
        go_wp2
        go_roundw
        case rel => exact ⟨A, c, l1, f, i + 1, D2, rfl, rfl, by go_num, by omega, by omega, HO2, HG2, Hne, HL2, hbel3, by have := hbel3.size; omega⟩
        case measure => simp [intOf]; omega
      · rcases hcases with hc0 | ⟨h4, h200, hlen, hd1, hdi, hd4, _⟩
        · exact absurd hc0 h0
        have hgo := Pm.pressGo_match l f i (by rw [Hl.out]; exact hlt) h0
        rw [Hl.out] at hlen
        obtain ⟨R, hR⟩ : ∃ R, R = Pm.best l i := ⟨_, rfl⟩
        rw [← hR] at h0 h4 h200 hlen hd1 hdi hd4 hgo ⊢
        obtain ⟨m, d⟩ := R
        dsimp only at h0 h4 h200 hlen hd1 hdi hd4 hgo ⊢
        clear hR h0
        have h4' : (4 : Int) ≤ (m : Int) := by omega
        have hfi' : (f : Int) ≤ (i : Int) := by omega
        obtain ⟨E, hE, hrE⟩ := bty.mid_ (Hr.out.below hbel) (i := f) (k := i) hfi (by omega) (f : Int) (i : Int) rfl rfl (i - f) rfl
        have HrE := Lib.hid (hrE.drewN q); clear hrE
        obtain ⟨L2, hL2⟩ : ∃ L2, L2 = l1 ++ Pm.asB ((l.take i).drop f) := ⟨_, rfl⟩
        obtain ⟨L3, hL3⟩ : ∃ L3, L3 = L2 ++ (Vm.vb (2 * (m - 4) + 1) ++ Vm.vb d) := ⟨_, rfl⟩
        have HL3 : Hid (L3 ++ Pm.pressGo l (i + m) (i + m) = L) := by
          show _ = _
          rw [hL3, hL2, ← HL.out, hgo]
          simp
        have hL2s : L2.length ≤ 30000 := by
          have := congrArg List.length HL3.out
          rw [List.length_append, hL3, List.length_append] at this
          omega
        have hsum : l1.length + (Pm.asB ((l.take i).drop f)).length ≤ 900000 := by
          have := congrArg List.length hL2
          rw [List.length_append] at this
          omega
        have hca := addLiterals_c A c w.heap.size l1 E (i - f) (c0 - f) ((l.take i).drop f) (wr.drewN q) (HO.out.drewN q) hsz HrE.out hsum
        rw [← hL2] at hca
        have Hca := Lib.hid hca; have HL2 := Lib.hid hL2; have HL3' := Lib.hid hL3; clear hL2 hL3 hca hgo HL hsum hlt
        go_wp2_with fail
        refine Hca.out.mono ?_
        rintro e w3 ⟨A2, c2, rfl, hown2, hg2⟩
        have hsz2 := hg2.size
        have hbe2 := (HG.out.drewN q).beside Hne.out hg2
        have HG2 := Lib.hid hbe2.1; have Hne2 := Lib.hid hbe2.2; have HO2 := Lib.hid hown2
        have hbel2 : Below w.heap.size w w3 := (below_drewN hbel q).trans (hg2.below (HO.out.drewN q) hsz)
        clear hbe2 hown2 hg2 hsz2
        have hsz2 : w.heap.size ≤ w3.heap.size := hbel2.size
        have hcb := addMatch_c A2 c2 w.heap.size L2 m d w3 HO2.out hsz2 (by omega) (by omega) h200 hd4
        rw [← HL3'.out] at hcb
        have Hcb := Lib.hid hcb; clear hcb
        go_wp2_with fail
        refine Hcb.out.mono ?_
        rintro e w4 ⟨A3, c3, rfl, hown3, hg3⟩
        have hbe3 := HG2.out.beside Hne2.out hg3
        have HG3 := Lib.hid hbe3.1; have Hne3 := Lib.hid hbe3.2; have HO3 := Lib.hid hown3
        have hbel3 : Below w.heap.size w w4 := hbel2.trans (hg3.below HO2.out hsz2)
        have hsz3 : w.heap.size ≤ w4.heap.size := hbel3.size
        clear hbe3 hown3 hg3 HO HG HO2 HG2
        have hnote := note_c A0 n c0 w1.heap.size l i (i + m) (fun g => ob A3 = some g) D w4 ((Hr.out.below hbel3).more hs1) (by omega) (fun g hg => (own_ob HO3.out g hg).2) HG3.out (by omega) (by omega)
        have Hnote := Lib.hid hnote; clear hnote
        go_wp2_with fail
        refine (show Calls Try.prog 17 #[.map (some w1.heap.size), .slice A0 n c0, .int .i64 (i : Int), .int .i64 ((i : Int) + (m : Int))] w4 _ from Hnote.out).mono ?_
        rintro e w5 ⟨rfl, ⟨D2, hG5⟩, hb5, hsz5, hk5⟩
        have HG5 := Lib.hid hG5
        have HO5 : Hid (Own w5 5 w.heap.size A3 c3 L3) := Lib.hid (Own.same HO3.out fun g hg => hk5 g hg (fun e => Hne3.out (e ▸ hg)) (own_ob HO3.out g hg).2)
        have hbel5 : Below w.heap.size w w5 := hbel3.trans (hb5.mono hs1)
        clear Hnote hG5 hk5 hb5 HO3 HG3
        go_wp2
        go_roundw
        case rel => exact ⟨A3, c3, L3, i + m, i + m, D2, rfl, by go_num, by go_num, by omega, by omega, HO5, HG5, Hne3, HL3, hbel5, hbel5.size⟩
        case measure => simp [intOf]; omega
    · obtain rfl : i = n := by omega
      have hgo := Pm.pressGo_at l f i Hl.out.symm
      have hL' : l1 ++ Pm.asB (l.drop f) = L := by rw [← hgo]; exact HL.out
      obtain ⟨E, hE, hrE⟩ := bty.from_ (Hr.out.below hbel) (k := f) hfi (f : Int) rfl
      have hsum : l1.length + (Pm.asB (l.drop f)).length ≤ 900000 := by
        have := congrArg List.length hL'
        rw [List.length_append] at this
        omega
      have hca := addLiterals_c A c w.heap.size l1 E (i - f) (c0 - f) (l.drop f) wr HO.out hsz hrE hsum
      rw [hL'] at hca
      have Hca := Lib.hid hca; clear hca hL' hgo hrE hsum hlt
      go_wp2_with fail
      refine Hca.out.mono ?_
      rintro e w3 ⟨A2, c2, rfl, hown2, hg2⟩
      have hbel2 : Below w.heap.size w w3 := hbel.trans (hg2.below HO.out hsz)
      go_wp2
      go_ret2
      exact ⟨A2, c2, rfl, hown2, hbel2⟩
end Go.Proofs.Ytaomeoppgbigjaa
