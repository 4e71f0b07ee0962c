/-
  The walk of the law FixedScan.
-/
import Derived.Test.YtjdmpnonjlffaaaYb
namespace Go.Proofs.Ytjdmpnonjlffaaa
open Go.RowKit Go.Maps

set_option maxRecDepth 100000 in
set_option maxHeartbeats 4000000 in
theorem fixedScan_walk (A : Option Addr) (n c : Nat) (l : List UInt8) (k : Int) (w : World) (hr : Rb w w.heap.size A n c l) (_hk : I64 k) :
    Calls Try.prog 3 #[.slice A n c, .int .i64 k] w fun e w' => e = .returned (.bool true) ∧ Below w.heap.size w w' := by
  obtain rfl := hr.len
  have hmax : l.length ≤ 9223372036854775807 := by have h2 := hr.2.1; have h3 := hr.2.2.1; unfold maxLen at h3; omega
  by_cases hbig : 3000 < l.length
  · clear hr
    go_enter Try.func3, Try.ntmps3
    go_wp2_with fail
    refine (alive_c _).mono ?_
    rintro e w2 ⟨rfl, hb2⟩
    go_wp2
    go_ret
    exact ⟨rfl, hb2⟩
  · have hn : l.length ≤ 3000 := by omega
    obtain ⟨P, V, E, hS, _⟩ := scan_any l k
    have hP := hS.len
    have Hr := Lib.hid hr; have HS := Lib.hid hS; clear hr hS
    obtain ⟨o, ho⟩ : ∃ o, ((E : Int) == 0) = o := ⟨_, rfl⟩
    go_enter Try.func3, Try.ntmps3
    go_wp2_with (at_builtin; go_must (refine bty.wpAppTo rfl (.tmp 16) (.tmp 17) rfl (l := []) (r := l) (N := l) rfl rfl (Own.made0 _ _) (Hr.out.alloc (Nat.le_refl _) _) rfl ?hs1 ?hs2 ?_))
    case hs1 => omega
    case hs2 => simp
    intro A1 c1 w1 hown1 hg1
    have b1 : Below w.heap.size w w1 := ((Below.refl _ _).alloc (Nat.le_refl _) _).trans (hg1.below (Own.made0 _ _) (by simp))
    have z1 := b1.size
    have Hown1 := Lib.hid hown1; clear hown1 hg1
    go_wp2_with fail
    refine (HS.out.scan _ _ _ _ Hown1.out.rb (by omega)).mono ?_
    rintro e w2 ⟨A2, c2, rfl, hp2, hb2⟩
    have z2 := hb2.size
    have HP2 := Lib.hid hp2; clear hp2
    have hr2 := (Hr.out.below (b1.trans (hb2.mono z1))).more (show w.heap.size ≤ w2.heap.size by omega)
    have Hr2 := Lib.hid hr2; clear hr2
    go_wp2_with fail
    refine (HS.out.rscan _ _ _ _ Hr2.out (by omega)).mono ?_
    rintro e w3 ⟨A3, c3, rfl, hp3, hb3⟩
    have z3 := hb3.size
    have HP3 := Lib.hid hp3; clear hp3
    go_wp2_with fail
    refine (alive_c _).mono ?_
    rintro e w4 ⟨rfl, hb4⟩
    have z4 := hb4.size
    have b24 := hb3.trans (hb4.mono z3)
    have g2 := (HP2.out.below b24).more (show w2.heap.size ≤ w4.heap.size by omega)
    have g3 := (HP3.out.below hb4).more z4
    have b14 : Below w1.heap.size w1 w4 := hb2.trans (b24.mono z2)
    have go1 := Hown1.out.rb.below b14
    have gb1 := ((Hr2.out.below b24)).more (show w2.heap.size ≤ w4.heap.size by omega)
    have G2 := Lib.hid g2; have G3 := Lib.hid g3; have Go1 := Lib.hid go1; have Gb1 := Lib.hid gb1; clear g2 g3 go1 gb1
    go_wp2_with fail
    refine (pieces_c A2 A3 P.length c2 c3 (P.map Tm.pc) _ G2.out G3.out (by omega) (pc_small P)).mono ?_
    rintro e w5 ⟨rfl, q, rfl⟩
    go_wp2_with fail
    refine (HS.out.canon _ A1 l.length c1 _ o (Go1.out.drewN q) (by omega) ho.symm).mono ?_
    rintro e w6 ⟨rfl, rfl⟩
    have cv1 := bty.conv (Go1.out.drewN q)
    have cv2 := bty.conv (Gb1.out.drewN q)
    have bz : Below w.heap.size w w4 := b1.trans (b14.mono z1)
    go_wp2
    go_ret
    exact ⟨rfl, below_drewN bz q⟩
end Go.Proofs.Ytjdmpnonjlffaaa
