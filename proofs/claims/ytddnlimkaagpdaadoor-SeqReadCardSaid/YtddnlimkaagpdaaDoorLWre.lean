/-
  The law SeqRead of threshinglaw07 returns true for every input, and every argument reads afterwards as before. Its listed variables are as the program's text lays them: the card ties them.
-/
import Derived.Test.YtddnlimkaagpdaaDoorZe
import Derived.Test.YtddnlimkaagpdaaDoorUm
import Derived.Test.YtddnlimkaagpdaaDoorLawC
import Derived.Test.YtddnlimkaagpdaaDoorTie
import Derived.Test.YtddnlimkaagpdaaDoorCards
import Derived.SevenTiedAt
namespace Go.Proofs.YtddnlimkaagpdaaDoor
open Go.RowKit

theorem rd_small (l : List UInt8) (f t : Nat) : ∀ r ∈ Sm.rd l f t, r.length ≤ 1000000 := fun r hr => by
  obtain ⟨p, hp, hr⟩ := List.mem_flatMap.1 hr
  exact (Sm.ps_all l).2 r (List.mem_flatMap.2 ⟨p, (List.mem_filter.1 hp).1, hr⟩)

set_option maxRecDepth 100000 in
set_option maxHeartbeats 2000000 in
theorem seqRead_walk (A : Option Addr) (n c : Nat) (l : List UInt8) (f t : Int) (w : World) (hr : Rb w w.heap.size A n c l) (hf : I64 f) (ht : I64 t) (hx : Mx w) :
    Calls Tryd.prog 3 #[.slice A n c, .int .i64 f, .int .i64 t] w fun e w' => e = .returned (.bool true) ∧ Below w.heap.size w w' := by
  obtain rfl := hr.len
  have hmax : l.length ≤ 9223372036854775807 := by have h2 := hr.2.1; have h3 := hr.2.2.1; unfold maxLen at h3; omega
  by_cases hbig : 3000 < l.length
  · have Hx := Lib.hid hx
    clear hr hx
    go_enter Tryd.func3, Tryd.ntmps3
    go_wp2_with fail
    refine (alive_c _ Hx.out).mono ?_
    rintro e w2 ⟨rfl, hb2⟩
    go_wp2
    go_ret
    exact ⟨rfl, hb2⟩
  · have hn : l.length ≤ 3000 := by omega
    have hex : ∃ L k, (∀ W, Rb W W.heap.size A l.length c l → Mx W → Calls Tryd.prog 11 #[.slice A l.length c, .int .i64 f, .int .i64 t, .int .i64 ((Sm.ps l).2 : Int)] W (RetRE W L k)) ∧
        (∀ W, Rb W W.heap.size A l.length c l → Calls Tryd.prog 12 #[.slice A l.length c, .int .i64 f, .int .i64 t, .int .i64 ((Sm.ps l).2 : Int)] W (RetR2 W L k)) ∧ L.length ≤ 300000 ∧ ∀ r ∈ L, r.length ≤ 1000000 := by
      by_cases hbad : f < 0 ∨ t < f ∨ (l.length : Int) < t
      · have hb : f < 0 ∨ t < f ∨ (l.length : Int) < t ∨ ((Sm.ps l).2 : Int) < 0 ∨ (l.length : Int) < ((Sm.ps l).2 : Int) := by omega
        refine ⟨[], 1, fun W _ _ => read_arg A l.length c f t _ W hb, fun W _ => ?_, by simp, by simp⟩
        refine (readD_arg A l.length c f t _ W hb).mono ?_
        rintro e w' ⟨A1, c1, he, h1, h2⟩
        exact ⟨A1, c1, he, h1.rl', h2⟩
      · obtain ⟨F, rfl⟩ : ∃ F : Nat, f = (F : Int) := ⟨f.toNat, by omega⟩
        obtain ⟨T, rfl⟩ : ∃ T : Nat, t = (T : Int) := ⟨t.toNat, by omega⟩
        refine ⟨Sm.rd l F T, _, fun W h h2 => read_ok A l.length c l F T _ W h (by omega) (by omega) (by omega) h2 rfl, fun W h => rread_ok A l.length c l F T _ W h (by omega) (by omega) (by omega) rfl, ?_, rd_small l F T⟩
        have := Sm.rd_len l F T; omega
    obtain ⟨L, k, h1, h2, hLl, hLs⟩ := hex
    have hread := fun (W : World) => read_arg A l.length c f t ((l.length : Int) + 1) W (by omega)
    have hsc := rscan_c A l.length c l w hr (by omega)
    unfold RetSc at hsc
    obtain ⟨G, hG⟩ : ∃ G, G = (Sm.ps l).2 := ⟨_, rfl⟩
    rw [← hG] at h1 h2 hsc
    obtain ⟨p, hp⟩ : ∃ p, p = (Sm.ps l).1.length := ⟨_, rfl⟩
    rw [← hp] at hsc
    have H1 := Lib.hid h1; have H2 := Lib.hid h2; have Hr := Lib.hid hr; have Hread := Lib.hid hread; have HLs := Lib.hid hLs; have Hsc := Lib.hid hsc; have Hx := Lib.hid hx
    clear h1 h2 hr hread hLs hsc hx hG hp
    go_enter Tryd.func3, Tryd.ntmps3
    go_wp2_with fail
    refine Hsc.out.mono ?_
    rintro e w1 ⟨A1, c1, rfl, _, hb1⟩
    have z1 := hb1.size
    go_wp2_with fail
    refine (H1.out _ ((Hr.out.below hb1).more z1) (Hx.out.below' hb1)).mono ?_
    rintro e w2 ⟨A2, c2, rfl, hp2, hb2⟩
    have z2 := hb2.size
    have b2 : Below w.heap.size w w2 := hb1.trans (hb2.mono z1)
    have G2 := Lib.hid hp2.rl'; clear hp2
    go_wp2_with fail
    refine (H2.out _ ((Hr.out.below b2).more (by omega))).mono ?_
    rintro e w3 ⟨A3, c3, rfl, hp3, hb3⟩
    have z3 := hb3.size
    have b3 : Below w.heap.size w w3 := b2.trans (hb3.mono (by omega))
    have G3 := Lib.hid hp3; clear hp3
    go_wp2_with fail
    refine (Hread.out _).mono ?_
    rintro e w4 ⟨A4, c4, rfl, _, hb4⟩
    have z4 := hb4.size
    have b4 : Below w.heap.size w w4 := b3.trans (hb4.mono (by omega))
    go_wp2_with fail
    refine (alive_c _ (Hx.out.below' b4)).mono ?_
    rintro e w5 ⟨rfl, hb5⟩
    have z5 := hb5.size
    have b35 : Below w3.heap.size w3 w5 := hb4.trans (hb5.mono z4)
    have b25 : Below w2.heap.size w2 w5 := hb3.trans (b35.mono z3)
    go_wp2_with fail
    refine (recs_c A2 A3 L.length c2 c3 L _ ((G2.out.below b25).more (by omega)) ((G3.out.below b35).more (by omega)) (by omega) HLs.out).mono ?_
    rintro e w6 ⟨rfl, q, rfl⟩
    have bz : Below w.heap.size w w5 := b3.trans (b35.mono (by omega))
    go_wp2
    go_ret
    exact ⟨rfl, below_drewN bz q⟩
end Go.Proofs.YtddnlimkaagpdaaDoor

namespace Go.Proofs.YtddnlimkaagpdaaDoor.seqRead
open Go.ChangeShapes Go.WideShapes Go.ChangeAt Go.RowKit
set_option linter.unusedVariables false

theorem own : ownKnob Tryd.prog.godebug = none := by kernel_rfl

set_option maxRecDepth 100000 in
theorem lifted (os : Os) (started : os.Started) (H : Type) (enc : TypeId × Value → H) :
    ReturnsInHanded {} Tryd.checked os 3 .any (fun w args => (Rows.seqReadSpec.pre enc Tryd.prog Tryd.f3 Rows.seqReadRow.domain false w args ∧ laidMetH Tryd.prog Rows.seqReadRow.laid w) ∧ sizedMet enc Tryd.prog Tryd.f3 (OpenSpec.ofChange Rows.seqReadSpec) false w args)
      (Rows.seqReadSpec.post enc Tryd.prog Tryd.f3 false true false false) := by
  refine shaped_and (C := Tryd.checked) (X := fun w _ => laidMetH Tryd.prog Rows.seqReadRow.laid w) own started (by kernel_rfl) Tryd.func3
    (ChangeSpec.witness_shaped (enc := enc) (C := Tryd.checked) (os := os) (X := fun w _ => laidMetH Tryd.prog Rows.seqReadRow.laid w) false (World.laidAll Tryd.prog os Rows.seqReadRow.laid) #[.slice none 0 0, .int .i64 0, .int .i64 0] 8 (World.laidAll_os _ _ _)
      (World.shaped_of_ZipB (by kernel_rfl) (by kernel_rfl)) (by kernel_rfl) (by kernel_rfl) (by kernel_rfl)
      (by rw [MakeChecks.laidMetH_plain _ _ _ (by kernel_rfl)]; exact laidMet_laidAll _ (by kernel_rfl) (by kernel_rfl))) ?_
  intro W args ds gs before hval0 hW hsize hsh
  have hval : ∀ (j : Nat) t v, Tryd.f3.params[j]? = some t → args[j]? = some v → Value.okWide Tryd.prog W .any W.heap.size t v := hval0
  have hW' := hW
  obtain ⟨p, q, hA0, hV, rfl, hfz, hnd⟩ := hW
  have hA : DataW.TrodAll enc Tryd.prog W 0 (fun _ => true) true Tryd.f3.params.toList args.toList ds p := hA0
  rw [Tryd.params3] at hA hval
  obtain ⟨v0, vs0, d0, ds0, p0, q0, hargs, rfl, rfl, h0, r0⟩ := trodAll_cons hA
  obtain ⟨v1, vs1, d1, ds1, p1, q1, rfl, rfl, rfl, h1, r1⟩ := trodAll_cons r0
  obtain ⟨v2, vs2, d2, ds2, p2, q2, rfl, rfl, rfl, h2, r2⟩ := trodAll_cons r1
  obtain ⟨rfl, rfl, rfl⟩ := trodAll_nil r2
  obtain rfl : args = #[v0, v1, v2] := by cases args; simp_all
  obtain ⟨rfl, rfl⟩ := trodVars_none hV
  have k0 := h0
  have lt0 : ∀ x ∈ p0, x.block < W.heap.size := by obtain ⟨m, hm⟩ := k0; exact DataW.trod_lt m _ _ _ hm
  obtain ⟨A0, n0, c0, l0, rfl, r0'⟩ := rb_open Tryd.underlying22 Tryd.underlying5 (by kernel_rfl) (hval 0 22 v0 rfl rfl) h0
  obtain ⟨a1, rfl, rfl, rfl, w1⟩ := open_int Tryd.underlying3 (hval 1 3 v1 rfl rfl) h1
  obtain ⟨a2, rfl, rfl, rfl, w2⟩ := open_int Tryd.underlying3 (hval 2 3 v2 rfl rfl) h2
  clear hA0 hval0
  refine (seqRead_walk A0 n0 c0 l0 a1 a2 W r0' (wf_i64 w1) (wf_i64 w2) (mx_of hsh)).mono fun e W' ⟨he, bel⟩ => ?_
  subst he
  exact ⟨_, rfl, _, _, _, [], _, [], hW', trodAll_mk1 (shut_bool Tryd.underlying4 _), (trodAll_cons_mk (Below.trod laidOut_ok (by kernel_rfl) (of_decide_eq_true (by kernel_rfl)) k0 bel lt0) (trodAll_cons_mk (shut_int Tryd.underlying3 w1) (trodAll_cons_mk (shut_int Tryd.underlying3 w2) trodAll_mk0))), rfl, bel.frame _, fun h => by cases h⟩

theorem over : Rows.seqReadRow.holds Tryd.pinned (OpenSpec.ofChange Rows.seqReadSpec) :=
  OpenClaim.holds_of_wide 3 Tryd.f3 rfl rfl rfl rfl rfl rfl rfl ⟨rfl, rfl, rfl, rfl, rfl⟩ rfl rfl rfl rfl rfl (by kernel_rfl) Tryd.func3 (by kernel_rfl)
    (of_decide_eq_true (by kernel_rfl)) (by unfold Func.isWrapper; first | (rw [if_pos (by decide +kernel)]; kernel_rfl) | (rw [if_neg (by decide +kernel)]; exact ⟨rfl, rfl⟩))
    (fun os started H enc _ => lifted os started H enc)

theorem proved : Rows.SeqReadCardSaid :=
  Claim7.holds_tied_plain_at .later [] [.data, .pinned] true (true, "2c258e04f23edc8aed13247495de70a0bb5d933f9afc79d9f411391fc51180ec") false over (fun _ h => by cases h) (by kernel_rfl) (fun _ h => by cases h) seqRead_row_tie rfl ⟨rfl, rfl⟩ (by kernel_rfl) rfl
    (fun f fn hf hfn => by
      obtain rfl : f = 3 := Option.some.inj ((show Tryd.prog.funcNamed "threshing/threshinglaw07.SeqRead" = some 3 by kernel_rfl).symm.trans hf) |>.symm
      obtain rfl : fn = Tryd.f3 := (Option.some.inj (Tryd.func3.symm.trans hfn)).symm
      exact ⟨by kernel_rfl, fun j t ht => by
        rw [Tryd.params3] at ht
        have hm : t ∈ [22, 3, 3] := by simpa using Array.mem_of_getElem? ht
        have hall : ([22, 3, 3].all fun u => !Tryd.prog.wantsStandIn u) = true := by kernel_rfl
        exact (show Tryd.prog.wantsStandIn t = false by simpa using List.all_eq_true.1 hall t hm)⟩)
    (by kernel_rfl)
#print axioms proved
end Go.Proofs.YtddnlimkaagpdaaDoor.seqRead
