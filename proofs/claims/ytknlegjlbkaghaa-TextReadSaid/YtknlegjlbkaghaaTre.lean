/-
  The walk of the law TextRead.
-/
import Derived.Test.YtknlegjlbkaghaaX6
namespace Go.Proofs.Ytknlegjlbkaghaa
open Go.RowKit Go.Maps

theorem rc_small (l : List (Nat × List UInt8)) : ∀ r ∈ l.map Tm.rc, r.length ≤ 1000000 := fun r hr => by
  obtain ⟨q, hq, rfl⟩ := List.mem_map.1 hr
  simp [Tm.rc]

set_option maxRecDepth 100000 in
set_option maxHeartbeats 2000000 in
theorem textRead_walk (A : Option Addr) (n c : Nat) (l : List UInt8) (f t : Int) (w : World) (hr : Rb w w.heap.size A n c l) (hf : I64 f) (ht : I64 t) :
    Calls Try.prog 4 #[.slice A n c, .int .i64 f, .int .i64 t] w fun e w' => e = .returned (.bool true) ∧ Below w.heap.size w w' := by
  obtain rfl := hr.len
  have hmax : l.length ≤ 9223372036854775807 := by have h2 := hr.2.1; have h3 := hr.2.2.1; unfold maxLen at h3; omega
  by_cases hbig : 2000 < l.length
  · clear hr
    go_enter Try.func4, Try.ntmps4
    go_wp2_with fail
    refine (alive_c _).mono ?_
    rintro e w2 ⟨rfl, hb2⟩
    go_wp2
    go_ret
    exact ⟨rfl, hb2⟩
  · have hn : l.length ≤ 2000 := by omega
    by_cases hbad : f < 0 ∨ t < f ∨ (l.length : Int) < t
    · have Hbad := Lib.hid hbad; clear hr hbad
      go_enter Try.func4, Try.ntmps4
      go_wp2_with fail
      refine (read_err A l.length c f t _ Hbad.out).mono ?_
      rintro e w1 ⟨rfl, rfl⟩
      go_wp2_with fail
      refine (rread_err A l.length c f t _ Hbad.out).mono ?_
      rintro e w1 ⟨rfl, rfl⟩
      go_wp2_with fail
      refine (alive_c _).mono ?_
      rintro e w2 ⟨rfl, hb2⟩
      go_wp2_with fail
      refine (recs_c none none 0 0 0 [] _ RLS.nil RLS.nil (by omega) (fun r h => by cases h)).mono ?_
      rintro e w3 ⟨rfl, q, rfl⟩
      go_wp2
      go_ret
      exact ⟨rfl, below_drewN hb2 q⟩
    · obtain ⟨F, rfl⟩ : ∃ F : Nat, f = (F : Int) := ⟨f.toNat, by omega⟩
      obtain ⟨T, rfl⟩ : ∃ T : Nat, t = (T : Int) := ⟨t.toNat, by omega⟩
      have hft : F ≤ T := by omega
      have htn : T ≤ l.length := by omega
      have hL := Tm.rd_len l F T
      obtain ⟨L, hLe⟩ : ∃ L, L = (Tm.rd l F T).map Tm.rc := ⟨_, rfl⟩
      have hLl : L.length ≤ 2000 := by rw [hLe, List.length_map]; omega
      have hLs : ∀ r ∈ L, r.length ≤ 1000000 := by rw [hLe]; exact rc_small _
      have c1 : ∀ W, Rb W W.heap.size A l.length c l → Calls Try.prog 15 #[.slice A l.length c, .int .i64 (F : Int), .int .i64 (T : Int)] W (RetR W L) := fun W h => by rw [hLe]; exact read_ok A _ c l F T W h (by omega) hft htn
      have c2 : ∀ W, Rb W W.heap.size A l.length c l → Calls Try.prog 16 #[.slice A l.length c, .int .i64 (F : Int), .int .i64 (T : Int)] W (RetR2 W L) := fun W h => by rw [hLe]; exact rread_ok A _ c l F T W h (by omega) hft htn
      have C1 := Lib.hid c1; have C2 := Lib.hid c2; have Hr := Lib.hid hr; have HLs := Lib.hid hLs; clear c1 c2 hr hLe hLs hbad hL
      go_enter Try.func4, Try.ntmps4
      go_wp2_with fail
      refine (C1.out _ Hr.out).mono ?_
      rintro e w1 ⟨A1, c1, rfl, hp1, hb1⟩
      have z1 := hb1.size
      have hq1 := hp1.rl'
      have H1 := Lib.hid hq1; clear hp1 hq1
      go_wp2_with fail
      refine (C2.out _ ((Hr.out.below hb1).more z1)).mono ?_
      rintro e w2 ⟨A2, c2, rfl, hp2, hb2⟩
      have z2 := hb2.size
      have H2 := Lib.hid hp2; clear hp2
      go_wp2_with fail
      refine (alive_c _).mono ?_
      rintro e w3 ⟨rfl, hb3⟩
      have z3 := hb3.size
      have b13 : Below w1.heap.size w1 w3 := hb2.trans (hb3.mono z2)
      go_wp2_with fail
      refine (recs_c A1 A2 L.length c1 c2 L _ ((H1.out.below b13).more (by omega)) ((H2.out.below hb3).more z3) (by omega) HLs.out).mono ?_
      rintro e w4 ⟨rfl, q, rfl⟩
      have bz : Below w.heap.size w w3 := hb1.trans (b13.mono z1)
      go_wp2
      go_ret
      exact ⟨rfl, below_drewN bz q⟩
end Go.Proofs.Ytknlegjlbkaghaa
