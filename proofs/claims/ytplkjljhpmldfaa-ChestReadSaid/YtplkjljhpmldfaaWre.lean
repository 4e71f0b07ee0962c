/-
  The walk of the law ChestRead.
-/
import Derived.Test.YtplkjljhpmldfaaJ48
import Derived.Test.YtplkjljhpmldfaaJ43
namespace Go.Proofs.Ytplkjljhpmldfaa
open Go.RowKit

theorem rd_small (l : List UInt8) (f t : Nat) : ∀ r ∈ Tm.all (Tm.btw f t (Hm.scS l).1), r.length ≤ 1000000 := fun r hr => by
  obtain ⟨p, hp, hr⟩ := List.mem_flatMap.1 hr
  exact (Hm.scS_all l).2 r (List.mem_flatMap.2 ⟨p, (List.mem_filter.1 hp).1, hr⟩)

set_option maxRecDepth 100000 in
set_option maxHeartbeats 2000000 in
theorem chestRead_walk (A : Option Addr) (n c : Nat) (l : List UInt8) (f t : Int) (w : World) (hr : Rb w w.heap.size A n c l) (hf : I64 f) (ht : I64 t) :
    Calls Try.prog 3 #[.slice A n c, .int .i64 f, .int .i64 t] w fun e w' => e = .returned (.bool true) ∧ Below w.heap.size w w' := by
  obtain rfl := hr.len
  have hmax : l.length ≤ 9223372036854775807 := by have h2 := hr.2.1; have h3 := hr.2.2.1; unfold maxLen at h3; omega
  by_cases hbig : 1500 < l.length
  · clear hr
    go_enter Try.func3, Try.ntmps3
    go_wp2_with fail
    refine (alive_c _).mono ?_
    rintro e w2 ⟨rfl, hb2⟩
    go_wp2
    go_ret
    exact ⟨rfl, hb2⟩
  · have hn : l.length ≤ 1500 := by omega
    have hex : ∃ L k, (∀ W, Rb W W.heap.size A l.length c l → Calls Try.prog 10 #[.slice A l.length c, .int .i64 f, .int .i64 t, .int .i64 ((Hm.scS l).2.1 : Int)] W (RetRE W L k)) ∧
        (∀ W, Rb W W.heap.size A l.length c l → Calls Try.prog 11 #[.slice A l.length c, .int .i64 f, .int .i64 t, .int .i64 ((Hm.scS l).2.1 : Int)] W (RetRD W L k)) ∧ L.length ≤ 25000000 ∧ ∀ r ∈ L, r.length ≤ 1000000 := by
      by_cases hbad : f < 0 ∨ t < f ∨ (l.length : Int) < t
      · have hb : f < 0 ∨ t < f ∨ (l.length : Int) < t ∨ ((Hm.scS l).2.1 : Int) < 0 ∨ (l.length : Int) < ((Hm.scS l).2.1 : Int) := by omega
        refine ⟨[], 1, fun W _ => read_arg A l.length c f t _ W hb, fun W _ => ?_, by simp, by simp⟩
        refine (rread_arg A l.length c f t _ W hb).mono ?_
        rintro e w' ⟨A1, c1, he, h1, h2⟩
        exact ⟨A1, c1, he, h1.rl', h2⟩
      · obtain ⟨F, rfl⟩ : ∃ F : Nat, f = (F : Int) := ⟨f.toNat, by omega⟩
        obtain ⟨T, rfl⟩ : ∃ T : Nat, t = (T : Int) := ⟨t.toNat, by omega⟩
        exact ⟨Hm.rd l F T, _, fun W h => read_ok A l.length c l F T _ W h (by omega) (by omega) (by omega) rfl, fun W h => rread_ok A l.length c l F T _ W h (by omega) (by omega) (by omega) rfl, Hm.rd_len l F T, rd_small l F T⟩
    obtain ⟨L, k, h1, h2, hLl, hLs⟩ := hex
    have hread := fun (W : World) => read_arg A l.length c f t ((l.length : Int) + 1) W (by omega)
    have hsc := rscan_c A l.length c l w hr (by omega)
    unfold RetSc at hsc
    obtain ⟨G, hG⟩ : ∃ G, G = (Hm.scS l).2.1 := ⟨_, rfl⟩
    rw [← hG] at h1 h2 hsc
    obtain ⟨p, hp⟩ : ∃ p, p = (Hm.scS l).1.length := ⟨_, rfl⟩
    obtain ⟨x, hx⟩ : ∃ x, x = (Hm.scS l).2.2 := ⟨_, rfl⟩
    rw [← hp, ← hx] at hsc
    have H1 := Lib.hid h1; have H2 := Lib.hid h2; have Hr := Lib.hid hr; have Hread := Lib.hid hread; have HLs := Lib.hid hLs; have Hsc := Lib.hid hsc
    clear h1 h2 hr hread hLs hsc hG hp hx
    go_enter Try.func3, Try.ntmps3
    go_wp2_with fail
    refine Hsc.out.mono ?_
    rintro e w1 ⟨A1, c1, rfl, _, hb1⟩
    have z1 := hb1.size
    go_wp2_with fail
    refine (H1.out _ ((Hr.out.below hb1).more z1)).mono ?_
    rintro e w2 ⟨A2, c2, rfl, hp2, hb2⟩
    have z2 := hb2.size
    have b2 : Below w.heap.size w w2 := hb1.trans (hb2.mono z1)
    have G2 := Lib.hid hp2.rl'; clear hp2
    go_wp2_with fail
    refine (H2.out _ ((Hr.out.below b2).more (by omega))).mono ?_
    rintro e w3 ⟨A3, c3, rfl, hp3, hb3⟩
    have z3 := hb3.size
    have b3 : Below w.heap.size w w3 := b2.trans (hb3.mono (by omega))
    have G3 := Lib.hid hp3; clear hp3
    go_wp2_with fail
    refine (Hread.out _).mono ?_
    rintro e w4 ⟨A4, c4, rfl, _, hb4⟩
    have z4 := hb4.size
    have b4 : Below w.heap.size w w4 := b3.trans (hb4.mono (by omega))
    go_wp2_with fail
    refine (alive_c _).mono ?_
    rintro e w5 ⟨rfl, hb5⟩
    have z5 := hb5.size
    have b35 : Below w3.heap.size w3 w5 := hb4.trans (hb5.mono z4)
    have b25 : Below w2.heap.size w2 w5 := hb3.trans (b35.mono z3)
    go_wp2_with fail
    refine (recs_big A2 A3 L.length c2 c3 L _ ((G2.out.below b25).more (by omega)) ((G3.out.below b35).more (by omega)) (by omega) HLs.out).mono ?_
    rintro e w6 ⟨rfl, q, rfl⟩
    have bz : Below w.heap.size w w5 := b3.trans (b35.mono (by omega))
    go_wp2
    go_ret
    exact ⟨rfl, below_drewN bz q⟩
end Go.Proofs.Ytplkjljhpmldfaa
