/-
  The walk of the law CsvScan.
-/
import Derived.Test.YtpjnkbfjnonkhaaDoorDc
import Derived.Test.YtpjnkbfjnonkhaaDoorD6
import Derived.Test.YtpjnkbfjnonkhaaDoorDp
import Derived.Test.YtpjnkbfjnonkhaaDoorDa
namespace Go.Proofs.YtpjnkbfjnonkhaaDoor
open Go.RowKit

theorem pcs_small (l : List UInt8) : ∀ p ∈ (Cv.ls l).map Cv.pc, p.2.length ≤ 1000000 ∧ ∀ r ∈ p.2, r.length ≤ 1000000 := fun p hp => by
  obtain ⟨q, hq, rfl⟩ := List.mem_map.1 hp
  have := (Cv.ls_few hq).2.1
  refine ⟨by simp [Cv.pc], fun r hr => ?_⟩
  simp [Cv.pc] at hr
  rw [hr]; omega

set_option maxRecDepth 100000 in
set_option maxHeartbeats 4000000 in
theorem csvScan_walk (A : Option Addr) (n c : Nat) (l : List UInt8) (a : Int) (w : World) (hr : Rb w w.heap.size A n c l) (ha : I64 a) (hmx : Mx w) :
    Calls Tryd.prog 3 #[.slice A n c, .int .i64 a] w fun e w' => e = .returned (.bool true) ∧ Below w.heap.size w w' := by
  obtain rfl := hr.len
  have hmax : l.length ≤ 9223372036854775807 := by have h2 := hr.2.1; have h3 := hr.2.2.1; unfold maxLen at h3; omega
  by_cases hbig : 3000 < l.length
  · clear hr hmx
    go_enter Tryd.func3, Tryd.ntmps3
    go_wp2_with fail
    refine (alive_c _).mono ?_
    rintro e w2 ⟨rfl, hb2⟩
    go_wp2
    go_ret
    exact ⟨rfl, hb2⟩
  · have hn : l.length ≤ 3000 := by omega
    have hps := pcs_small l
    have hls := Cv.ls_len l
    have s1 : ∀ W A1 c1, Rb W W.heap.size A1 l.length c1 l → Calls Tryd.prog 8 #[.slice A1 l.length c1] W (RetSc W l) := fun W A1 c1 h => scan_c A1 _ c1 l W h (by omega)
    have s2 : ∀ W A1 c1, Rb W W.heap.size A1 l.length c1 l → Calls Tryd.prog 9 #[.slice A1 l.length c1] W (RetSc W l) := fun W A1 c1 h => scanD_c A1 _ c1 l W h (by omega)
    obtain ⟨P, hP⟩ : ∃ P, P = Cv.ls l := ⟨_, rfl⟩
    obtain ⟨G, hG⟩ : ∃ G, G = Cv.good l := ⟨_, rfl⟩
    obtain ⟨E, hE⟩ : ∃ E, E = Cv.er l := ⟨_, rfl⟩
    obtain ⟨C, hC⟩ : ∃ C, C = Cv.canon l := ⟨_, rfl⟩
    obtain ⟨I, hI⟩ : ∃ I, I = Cv.odd (l.take a.toNat) := ⟨_, rfl⟩
    unfold RetSc at s1 s2
    rw [← hP, ← hG, ← hE] at s1 s2
    rw [← hP] at hps hls
    have s3 : ∀ W A1 c1, Rb W W.heap.size A1 l.length c1 l → Mx W → Calls Tryd.prog 11 #[.slice A1 l.length c1] W fun e w' => e = .returned (.bool C) ∧ Below W.heap.size W w' := fun W A1 c1 h m => by rw [hC]; exact canon_c A1 _ c1 l W h (by omega) m
    have s4 : ∀ W A1 c1, Rb W W.heap.size A1 l.length c1 l → Calls Tryd.prog 12 #[.slice A1 l.length c1] W fun e w' => e = .returned (.bool C) ∧ Below W.heap.size W w' := fun W A1 c1 h => by rw [hC]; exact canonD_c A1 _ c1 l W h (by omega)
    have s5 : ∀ W A1 c1, Rb W W.heap.size A1 l.length c1 l → Calls Tryd.prog 13 #[.slice A1 l.length c1, .int .i64 a] W fun e w' => e = .returned (.bool I) ∧ Below W.heap.size W w' := fun W A1 c1 h => by rw [hI]; exact inside_c A1 _ c1 l a ha W h (by omega)
    have s6 : ∀ W A1 c1, Rb W W.heap.size A1 l.length c1 l → Calls Tryd.prog 14 #[.slice A1 l.length c1, .int .i64 a] W fun e w' => e = .returned (.bool I) ∧ W = w' := fun W A1 c1 h => by rw [hI]; exact insideD_c A1 _ c1 _ l a ha W h (by omega)
    have Hr := Lib.hid hr; have Hmx := Lib.hid hmx; have S1 := Lib.hid s1; have S2 := Lib.hid s2; have S3 := Lib.hid s3; have S4 := Lib.hid s4; have S5 := Lib.hid s5; have S6 := Lib.hid s6; have Hps := Lib.hid hps
    clear hr hmx s1 s2 s3 s4 s5 s6 hps hP hG hE hC hI
    have hmade : Own (w.alloc (.cells #[] 5)) 5 w.heap.size (some ⟨w.heap.size, 0, none⟩) 0 [] := Own.made0 w _
    have hrb0 : Rb (w.alloc (.cells #[] 5)) w.heap.size A l.length c l := Hr.out.alloc (Nat.le_refl _) _
    have Hmade := Lib.hid hmade; have Hrb0 := Lib.hid hrb0; clear hmade hrb0
    go_enter Tryd.func3, Tryd.ntmps3
    go_wp2_with (at_builtin; go_must (refine bty.wpAppTo rfl (.tmp 16) (.tmp 17) rfl (l := []) (r := l) (N := l) rfl rfl Hmade.out Hrb0.out (List.nil_append l) ?hs1 ?hs2 ?_))
    case hs1 => omega
    case hs2 => simp
    intro A1 c1 w1 hown1 hg1
    have b1 : Below w.heap.size w w1 := ((Below.refl _ _).alloc (Nat.le_refl _) _).trans (hg1.below Hmade.out (by simp))
    have z1 := b1.size
    have hx1 := hown1.rb
    have Hx1 := Lib.hid hx1; clear hown1 hg1 hx1
    go_wp2_with fail
    refine (S1.out w1 A1 c1 Hx1.out).mono ?_
    rintro e w2 ⟨A2, c2, rfl, hp2, hb2⟩
    have z2 := hb2.size
    have b2 := b1.trans (hb2.mono z1)
    have Hp2 := Lib.hid hp2.pl; clear hp2
    go_wp2_with fail
    refine (S2.out w2 A c ((Hr.out.below b2).more (by omega))).mono ?_
    rintro e w3 ⟨A3, c3, rfl, hp3, hb3⟩
    have z3 := hb3.size
    have b3 := b2.trans (hb3.mono (by omega))
    have Hp3 := Lib.hid hp3.pl; clear hp3
    go_wp2_with fail
    refine (alive_c _).mono ?_
    rintro e w4 ⟨rfl, hb4⟩
    have z4 := hb4.size
    have b4 := b3.trans (hb4.mono (by omega))
    have b24 : Below w2.heap.size w2 w4 := hb3.trans (hb4.mono z3)
    have b14 : Below w1.heap.size w1 w4 := hb2.trans (b24.mono z2)
    have g2 := (Hp2.out.below b24).more (show w2.heap.size ≤ w4.heap.size by omega)
    have g3 := (Hp3.out.below hb4).more z4
    have x4 := (Hx1.out.below b14).more (show w1.heap.size ≤ w4.heap.size by omega)
    have r4 := (Hr.out.below b4).more (show w.heap.size ≤ w4.heap.size by omega)
    have m4 := Hmx.out.below' b4
    have G2 := Lib.hid g2; have G3 := Lib.hid g3; have X4 := Lib.hid x4; have R4 := Lib.hid r4; have M4 := Lib.hid m4; clear g2 g3 x4 r4 m4
    go_wp2_with fail
    refine (pieces_c A2 A3 P.length c2 c3 (P.map Cv.pc) _ G2.out G3.out (by omega) Hps.out).mono ?_
    rintro e w5 ⟨rfl, q, hw5⟩
    have x5 : Rb w5 w5.heap.size A1 l.length c1 l := by rw [hw5]; exact X4.out
    have r5 : Rb w5 w5.heap.size A l.length c l := by rw [hw5]; exact R4.out
    have m5 : Mx w5 := by rw [hw5]; exact M4.out
    have b5 : Below w.heap.size w w5 := by rw [hw5]; exact below_drewN b4 q
    have X5 := Lib.hid x5; have R5 := Lib.hid r5; have M5 := Lib.hid m5; clear x5 r5 m5 hw5
    have z5 := b5.size
    go_wp2_with fail
    refine (S3.out w5 A1 c1 X5.out M5.out).mono ?_
    rintro e w6 ⟨rfl, hb6⟩
    have z6 := hb6.size
    go_wp2_with fail
    refine (S4.out w6 A c ((R5.out.below hb6).more z6)).mono ?_
    rintro e w7 ⟨rfl, hb7⟩
    have z7 := hb7.size
    have b57 := hb6.trans (hb7.mono z6)
    go_wp2_with fail
    refine (S5.out w7 A1 c1 ((X5.out.below b57).more (by omega))).mono ?_
    rintro e w8 ⟨rfl, hb8⟩
    have z8 := hb8.size
    have b58 := b57.trans (hb8.mono (by omega))
    go_wp2_with fail
    refine (S6.out w8 A c ((R5.out.below b58).more (by omega))).mono ?_
    rintro e w9 ⟨rfl, rfl⟩
    have cv1 := bty.conv (X5.out.below b58)
    have cv2 := bty.conv (R5.out.below b58)
    have bz := b5.trans (b58.mono z5)
    go_wp2
    go_ret
    exact ⟨rfl, bz⟩
end Go.Proofs.YtpjnkbfjnonkhaaDoor
