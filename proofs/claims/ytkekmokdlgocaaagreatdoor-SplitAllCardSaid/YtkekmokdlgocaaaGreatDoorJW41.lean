import Derived.Test.YtkekmokdlgocaaaGreatDoorJW39
import Derived.Test.YtkekmokdlgocaaaGreatDoorJW40
set_option maxRecDepth 100000
set_option maxHeartbeats 4000000
namespace Go.Proofs.YtkekmokdlgocaaaGreatDoor.Pl
open Go.RowKit
structure Arg (A : Option Addr) (n c : Nat) (l : List UInt8) (E : Option Addr) (m d : Nat) (L : List Int) (D : Option Addr) (q r : Nat) (I : List Bool) (w : World) : Prop where
 b : Rb w w.heap.size A n c l
 n9 : n ≤ 90000
 cuts : Rc 1 w w.heap.size E m d (ivs L)
 ins : Rc 1 w w.heap.size D q r (lvb I)
 m9 : m ≤ 9000000
 q9 : q ≤ 9000000
 mx : Sq.Mx w
theorem Arg.go {A : Option Addr} {n c : Nat} {l : List UInt8} {E : Option Addr} {m d : Nat} {L : List Int} {D : Option Addr} {q r : Nat} {I : List Bool} {w W : World} (h : Arg A n c l E m d L D q r I w) (b : Below w.heap.size w W) : Arg A n c l E m d L D q r I W :=
 ⟨(h.b.below b).more b.size, h.n9, (h.cuts.below b).more b.size, (h.ins.below b).more b.size, h.m9, h.q9, h.mx.below b h.mx.2⟩
structure Spl : Prop where
 read_good : ∀ (f k : Int) (A : Option Addr) (n c : Nat) (l : List UInt8) (E : Option Addr) (m d : Nat) (C : List Nat) (D : Option Addr) (q r : Nat) (I : List Bool) (g : Int) (w : World), Arg A n c l E m d (ic C) D q r I w → Md f k l (ic C) I g → ∀ j a b : Nat, C[j]? = some a → C[j + 1]? = some b →
  Calls Tryz.prog 9 #[flv f k A n c, plv E m d D q r g, .int .i64 (j : Int)] w (RetRu w (rdP (scF f k l).1 a b) (told f (scF f k l).2.1 (scF f k l).2.2 a b))
 read_bad : ∀ (f k : Int) (A : Option Addr) (n c : Nat) (l : List UInt8) (E : Option Addr) (m d : Nat) (L : List Int) (D : Option Addr) (q r : Nat) (I : List Bool) (g : Int) (w : World), Arg A n c l E m d L D q r I w → ∀ i : Int, I64 i → (¬ Md f k l L I g ∨ i < 0 ∨ ((m - 1 : Nat) : Int) ≤ i) →
  Calls Tryz.prog 9 #[flv f k A n c, plv E m d D q r g, .int .i64 i] w (RetRu w [] 1)
 whole_good : ∀ (f k : Int) (A : Option Addr) (n c : Nat) (l : List UInt8) (E : Option Addr) (m d : Nat) (C : List Nat) (D : Option Addr) (q r : Nat) (I : List Bool) (g : Int) (w : World), Arg A n c l E m d (ic C) D q r I w → Md f k l (ic C) I g →
  Calls Tryz.prog 13 #[flv f k A n c, plv E m d D q r g] w (RetRu w (Tm.all (scF f k l).1) (toldW f (scF f k l).2.1 (scF f k l).2.2 (m - 1) n))
 whole_bad : ∀ (f k : Int) (A : Option Addr) (n c : Nat) (l : List UInt8) (E : Option Addr) (m d : Nat) (L : List Int) (D : Option Addr) (q r : Nat) (I : List Bool) (g : Int) (w : World), Arg A n c l E m d L D q r I w → ¬ Md f k l L I g →
  Calls Tryz.prog 13 #[flv f k A n c, plv E m d D q r g] w (RetRu w [] 1)
 all_good : ∀ (f k : Int) (A : Option Addr) (n c : Nat) (l : List UInt8) (w : World), Rb w w.heap.size A n c l → n ≤ 90000 → isF f k = true → Sq.Mx w → Calls Tryz.prog 18 #[flv f k A n c] w (RetRu w (Tm.all (scF f k l).1) (scF f k l).2.2)
 all_bad : ∀ (f k : Int) (A : Option Addr) (n c : Nat) (w : World), n ≤ 9223372036854775807 → isF f k = false → Calls Tryz.prog 18 #[flv f k A n c] w (RetRu w [] 1)
 count : ∀ (E : Option Addr) (m d : Nat) (D : Option Addr) (q r : Nat) (g : Int) (w : World), m ≤ 9000000 → Calls Tryz.prog 16 #[plv E m d D q r g] w fun e w' => e = .returned (.int .i64 ((m - 1 : Nat) : Int)) ∧ Below w.heap.size w w'
theorem plain12_c (f k : Int) (A : Option Addr) (n c : Nat) (w : World) : Calls Tryz.prog 11 #[flv f k A n c] w fun e w' => e = .returned (flv f k A n c) ∧ Below w.heap.size w w' := by
 go_enter Tryz.func11, Tryz.ntmps11
 go_wp2
 refine bodyPost_ret (v := flv f k A n c) ?_ rfl ⟨rfl, (ej _ _).alloc (by simp) _⟩
 simp [results, Tryz.results11, go_sem]
def aB : List UInt8 := [97, 10, 98, 10, 99, 10]
theorem cu_a : Cu 6 [0, 1, 2, 6] := ⟨[1, 2, 6], rfl, ⟨by omega, by omega, by omega, by omega, by omega, by omega, trivial⟩, fun h => (by cases h), fun x h => (by simp at h; exact h.symm)⟩
theorem ins_a : insF 0 aB [0, 1, 2, 6] = [false, false, false, false] := by decide
theorem good_a : (scF 0 0 aB).2.1 = 6 := by decide
theorem md_a : Md 0 0 aB (ic [0, 1, 2, 6]) [false, false, false, false] 6 := ⟨[0, 1, 2, 6], rfl, cu_a, by decide, by rw [good_a]; rfl, ins_a.symm⟩
theorem rd_a : (rdP (scF 0 0 aB).1 0 1).length = 1 ∧ (rdP (scF 0 0 aB).1 1 2).length = 0 ∧ (rdP (scF 0 0 aB).1 2 6).length = 2 := by decide
theorem told_a : told 0 (scF 0 0 aB).2.1 (scF 0 0 aB).2.2 0 1 = 0 ∧ told 0 (scF 0 0 aB).2.1 (scF 0 0 aB).2.2 1 2 = 0 ∧ told 0 (scF 0 0 aB).2.1 (scF 0 0 aB).2.2 2 6 = 0 := by decide
theorem alive12_c (S : Spl) (w : World) (hx : Sq.Mx w) : Calls Tryz.prog 8 #[] w fun e w' => e = .returned (.bool true) ∧ Below w.heap.size w w' := by
 obtain ⟨w2, hw2⟩ : ∃ w2, w2 = w.alloc (.cells #[.int .u8 97, .int .u8 10, .int .u8 98, .int .u8 10, .int .u8 99, .int .u8 10] 5 (6, 7)) := ⟨_, rfl⟩
 have z2 : w2.heap.size = w.heap.size + 1 := by rw [hw2]; simp
 have b12 : Below w.heap.size w w2 := by rw [hw2]; exact ej _ _
 have hrb : Rb w2 w2.heap.size (some ⟨w.heap.size, 0,none⟩) 6 6 aB := by rw [z2, hw2]; exact Rb.lit w _ _ _ aB 6 rfl rfl (by omega)
 obtain ⟨w3, hw3⟩ : ∃ w3, w3 = w2.alloc (.cells #[.int .i64 0, .int .i64 0, .slice (some ⟨w.heap.size, 0,none⟩) 6 6] 24) := ⟨_, rfl⟩
 have z3 : w3.heap.size = w.heap.size + 2 := by rw [hw3]; simp [z2]
 have b23 : Below w2.heap.size w2 w3 := by rw [hw3]; exact ej _ _
 have x3 : Bx w3 w2.heap.size (.int .i64 0) (.int .i64 0) (.slice (some ⟨w.heap.size, 0,none⟩) 6 6) := by rw [hw3]; exact Bx.made _ _ _ _ _
 obtain ⟨w4, hw4⟩ : ∃ w4, w4 = w3.alloc (.cells #[.int .i64 0, .int .i64 1, .int .i64 2, .int .i64 6] 3) := ⟨_, rfl⟩
 have z4 : w4.heap.size = w.heap.size + 3 := by rw [hw4]; simp [z3]
 have b34 : Below w3.heap.size w3 w4 := by rw [hw4]; exact ej _ _
 have hrc : Rc 1 w4 w4.heap.size (some ⟨w.heap.size + 2, 0,none⟩) 4 4 (ivs (ic [0, 1, 2, 6])) := by
  have h := Rc.lit (z := 1) w3 3 #[.int .i64 0, .int .i64 1, .int .i64 2, .int .i64 6] 4 rfl (by simp [maxLen])
  rw [← hw4, z3] at h
  have := h.more (show w.heap.size + 2 + 1 ≤ w4.heap.size by omega)
  simpa [ivs, ic] using this
 have b24 := b23.trans (b34.mono (by omega))
 have b4 := b12.trans (b24.mono (by omega))
 have hx4 := hx.below b4 hx.2
 have hrb4 := (hrb.below b24).more (B' := w4.heap.size) (by omega)
 have hmk := make_ok 0 0 (some ⟨w.heap.size, 0,none⟩) 6 6 aB (some ⟨w.heap.size + 2, 0,none⟩) 4 4 [0, 1, 2, 6] w4 hrb4 (by omega) hrc cu_a (by decide) hx4
 rw [ins_a, good_a] at hmk
 have hmk : Calls Tryz.prog 25 #[flv 0 0 (some ⟨w.heap.size, 0,none⟩) 6 6, .slice (some ⟨w.heap.size + 2, 0,none⟩) 4 4] w4 fun e w' => ∃ A c D d, e = .returned (.tuple #[plv A 4 c D 4 d 6, .int .i64 0]) ∧ Rc 1 w' w'.heap.size A 4 c (ivs (ic [0, 1, 2, 6])) ∧ Rc 1 w' w'.heap.size D 4 d (lvb [false, false, false, false]) ∧ Below w4.heap.size w4 w' := hmk.mono fun e w' q => q.u
 have x4 := x3.below b34 x3.lt
 rw [z2] at x4
 have hcv2 := Lib.run_convert_bytes_const (P := Tryz.prog) w 22 5 #[.int .u8 97, .int .u8 10, .int .u8 98, .int .u8 10, .int .u8 99, .int .u8 10] 6 6 Tryz.underlying22 Tryz.underlying5
 have W2 := ek hw2; have W3 := ek hw3; have W4 := ek hw4; have Hmk := ek hmk; have X4 := ek x4; have B4 := ek b4; have Hrb := ek hrb4; have Hx4 := ek hx4; have HS := ek S
 have hlt := x4.lt
 have hl4 : w.heap.size + 1 < w4.heap.size := by omega
 obtain ⟨c0, c1, c2, -, -, -, -⟩ := x4
 clear hw2 hw3 hw4 hmk x3 b12 b23 b34 hrc b24 b4 hx4 hrb4 hrb hx S
 go_enter Tryz.func8, Tryz.ntmps8
 go_wp2_with fail
 rw [← W2.out, ← W3.out, ← W4.out]
 refine Hmk.out.mono ?_
 rintro e w5 ⟨A5, a5, D5, d5, rfl, r5, s5, b5⟩
 have z5 := b5.size
 obtain ⟨w6, hw6⟩ : ∃ w6, w6 = w5.alloc (.cells #[.slice A5 4 a5, .slice D5 4 d5, .int .i64 6] 28) := ⟨_, rfl⟩
 have b56 : Below w5.heap.size w5 w6 := by rw [hw6]; exact ej _ _
 have z6 := b56.size
 have p6 : Bx w6 w5.heap.size (.slice A5 4 a5) (.slice D5 4 d5) (.int .i64 6) := by rw [hw6]; exact Bx.made _ _ _ _ _
 have b46 := b5.trans (b56.mono z5)
 have x6 := X4.out.below b46 hlt
 have arg6 : Arg (some ⟨w.heap.size, 0,none⟩) 6 6 aB A5 4 a5 (ic [0, 1, 2, 6]) D5 4 d5 [false, false, false, false] w6 :=
  ⟨(Hrb.out.below b46).more (by omega), by omega, (r5.below b56).more z6, (s5.below b56).more z6, by omega, by omega, Hx4.out.below b46 Hx4.out.2⟩
 have hrd : ∀ (j a b : Nat) (W : World), [0, 1, 2, 6][j]? = some a → [0, 1, 2, 6][j + 1]? = some b → Below w6.heap.size w6 W → Calls Tryz.prog 9 #[flv 0 0 (some ⟨w.heap.size, 0,none⟩) 6 6, plv A5 4 a5 D5 4 d5 6, .int .i64 (j : Int)] W (RetRu W (rdP (scF 0 0 aB).1 a b) (told 0 (scF 0 0 aB).2.1 (scF 0 0 aB).2.2 a b)) :=
  fun j a b W ha hb hB => HS.out.read_good 0 0 _ 6 6 aB A5 4 a5 [0, 1, 2, 6] D5 4 d5 _ 6 W (arg6.go hB) md_a j a b ha hb
 have hlen : ∀ (j a b N : Nat) (W : World), [0, 1, 2, 6][j]? = some a → [0, 1, 2, 6][j + 1]? = some b → (rdP (scF 0 0 aB).1 a b).length = N → told 0 (scF 0 0 aB).2.1 (scF 0 0 aB).2.2 a b = 0 → Below w6.heap.size w6 W → Calls Tryz.prog 9 #[flv 0 0 (some ⟨w.heap.size, 0,none⟩) 6 6, plv A5 4 a5 D5 4 d5 6, .int .i64 (j : Int)] W fun e w' => ∃ A c, e = .returned (.tuple #[.slice A N c, .int .i64 0]) ∧ Below W.heap.size W w' :=
  fun j a b N W ha hb hN ht hB => (hrd j a b W ha hb hB).mono fun e w' ⟨A, c, h0, _, h2⟩ => ⟨A, c, by rw [hN, ht] at h0; exact h0, h2⟩
 have hr0 := fun W => hlen 0 0 1 1 W rfl rfl rd_a.1 told_a.1
 have hr1 := fun W => hlen 1 1 2 0 W rfl rfl rd_a.2.1 told_a.2.1
 have hr2 := fun W => hlen 2 2 6 2 W rfl rfl rd_a.2.2 told_a.2.2
 have hr3 := fun W (hB : Below w6.heap.size w6 W) => HS.out.read_bad 0 0 _ 6 6 aB A5 4 a5 _ D5 4 d5 _ 6 W (arg6.go hB) 3 (by constructor <;> omega) (.inr (.inr (by omega)))
 have W6 := ek hw6; have R0 := ek hr0; have R1 := ek hr1; have R2 := ek hr2; have R3 := ek hr3; have X6 := ek x6; have P6 := ek p6; have B6 := ek (B4.out.trans (b46.mono (by omega)))
 have hlx : w.heap.size + 1 < w6.heap.size := by omega
 have hlp := p6.lt
 clear c0 c1 c2 hw6 b56 p6 b46 x6 arg6 hrd hlen hr0 hr1 hr2 hr3 r5 s5 b5
 obtain ⟨c0, c1, c2, -, -, -, -⟩ := X6.out
 obtain ⟨e0, e1, e2, -, -, -, -⟩ := P6.out
 go_wp2_with (rw [← W6.out])
 refine (R0.out _ (Below.refl _ _)).mono ?_
 rintro e w7 ⟨A7, c7, rfl, b7⟩
 have z7 := b7.size
 clear c0 c1 c2 e0 e1 e2
 obtain ⟨c0, c1, c2, -, -, -, -⟩ := X6.out.below b7 hlx
 obtain ⟨e0, e1, e2, -, -, -, -⟩ := P6.out.below b7 hlp
 go_wp2_with fail
 refine (R1.out _ b7).mono ?_
 rintro e w8 ⟨A8, c8, rfl, b8⟩
 have z8 := b8.size
 have b68 := b7.trans (b8.mono z7)
 clear c0 c1 c2 e0 e1 e2
 obtain ⟨c0, c1, c2, -, -, -, -⟩ := X6.out.below b68 hlx
 obtain ⟨e0, e1, e2, -, -, -, -⟩ := P6.out.below b68 hlp
 go_wp2_with fail
 refine (R2.out _ b68).mono ?_
 rintro e w9 ⟨A9, c9, rfl, b9⟩
 have z9 := b9.size
 have b69 := b68.trans (b9.mono (by omega))
 clear c0 c1 c2 e0 e1 e2
 obtain ⟨c0, c1, c2, -, -, -, -⟩ := X6.out.below b69 hlx
 obtain ⟨e0, e1, e2, -, -, -, -⟩ := P6.out.below b69 hlp
 go_wp2_with fail
 refine (R3.out _ b69).mono ?_
 rintro e w10 ⟨A10, c10, rfl, -, b10⟩
 have z10 := b10.size
 have b610 := b69.trans (b10.mono (by omega))
 clear c0 c1 c2 e0 e1 e2
 obtain ⟨c0, c1, c2, -, -, -, -⟩ := X6.out.below b610 hlx
 obtain ⟨e0, e1, e2, -, -, -, -⟩ := P6.out.below b610 hlp
 go_wp2_with fail
 refine (HS.out.count A5 4 a5 D5 4 d5 6 w10 (by omega)).mono ?_
 rintro e w11 ⟨rfl, b11⟩
 have bb := B6.out.trans ((b610.trans (b11.mono (by omega))).mono (by omega))
 go_wp2
 go_ret
 exact ⟨rfl, bb⟩
end Go.Proofs.YtkekmokdlgocaaaGreatDoor.Pl
namespace Go.Proofs.YtkekmokdlgocaaaGreatDoor
open Go.RowKit Pl
theorem Pl.recs_F (f k : Int) (l : List UInt8) : ∀ r ∈ Tm.all (scF f k l).1, r.length ≤ 1000000 := fun r hr => by
 obtain ⟨p, hp, hr⟩ := List.mem_flatMap.1 hr
 exact (scF_small f k l p hp).2 r hr
theorem Pl.recs12 (A A' : Option Addr) (c c' : Nat) (R : List (List (List UInt8))) (w : World) (h1 : RL w w.heap.size A R.length c R) (h2 : RL w w.heap.size A' R.length c' R) (hn : R.length ≤ 100000000) (hz : ∀ r ∈ R, r.length ≤ 1000000) :
  Calls Tryz.prog 15 #[.slice A R.length c, .slice A' R.length c'] w fun e w' => e = .returned (.bool true) ∧ Below w.heap.size w w' :=
 (recs_big A A' R.length c c' R w h1 h2 hn hz).mono fun e w' ⟨h, q, hq⟩ => ⟨h, by rw [hq]; exact below_drewN (Below.refl _ _) q⟩
theorem Pl.al_ex (S : Spl) (f k : Int) (A : Option Addr) (n c : Nat) (l : List UInt8) (w : World) (hr : Rb w w.heap.size A n c l) (hn : n ≤ 90000) (hx : Sq.Mx w) :
  ∃ R x, R.length ≤ 100000000 ∧ (∀ r ∈ R, r.length ≤ 1000000) ∧ (∀ W, Below w.heap.size w W → Calls Tryz.prog 18 #[flv f k A n c] W (RetRu W R x)) ∧ ∀ W, Below w.heap.size w W → Calls Tryz.prog 19 #[flv f k A n c] W (RetRu W R x) := by
 have hl := hr.len
 cases hF : isF f k with
 | false => exact ⟨[], 1, by simp, fun r hr => (by cases hr), fun W _ => S.all_bad f k A n c W (by omega) hF, fun W _ => rall_bad f k A n c W hF⟩
 | true => exact ⟨_, _, Nat.le_trans (all_F hF (l := l) (by omega)) (by omega), recs_F f k l, fun W h => S.all_good f k A n c l W ((hr.below h).more h.size) hn hF (hx.below h hx.2), fun W h => rall_good f k A n c l W ((hr.below h).more h.size) hn hF⟩
theorem splitAll_walk' (S : Spl) (f k : Int) (A : Option Addr) (n c : Nat) (l : List UInt8) (w : World) (_ : I64 f) (_ : I64 k) (hr : Rb w w.heap.size A n c l) (hx : Sq.Mx w) :
  Calls Tryz.prog 4 #[flv f k A n c] w fun e w' => e = .returned (.bool true) ∧ Below w.heap.size w w' := by
 have hmax : n ≤ 9223372036854775807 := by have h2 := hr.2.1; have h3 := hr.2.2.1; unfold maxLen at h3; omega
 obtain ⟨w0, hw0⟩ : ∃ w0, w0 = w.alloc (.cells #[.int .i64 f, .int .i64 k, .slice A n c] 24) := ⟨_, rfl⟩
 have b0 : Below w.heap.size w w0 := by rw [hw0]; exact ej _ _
 have x0 : Bx w0 w.heap.size (.int .i64 f) (.int .i64 k) (.slice A n c) := by rw [hw0]; exact Bx.made _ _ _ _ _
 have z0 := b0.size
 have hx0 := hx.below b0 hx.2
 have W0 := ek hw0; have X0 := ek x0; have HS := ek S
 have hlt := x0.lt
 obtain ⟨c0, c1, c2, -, -, -, -⟩ := x0
 by_cases hbig : 1000 < n
 ·have d1 : decide ((1000 : Int) < (n : Int)) = true := by simp; omega
  have Ha := ek (alive12_c S w0 hx0)
  clear hw0 hx hx0 hr S
  go_enter Tryz.func4, Tryz.ntmps4
  go_wp2_with (rw [← W0.out])
  refine Ha.out.mono ?_
  rintro e w2 ⟨rfl, hb2⟩
  have bb := b0.trans (hb2.mono z0)
  go_wp2
  go_ret
  exact ⟨rfl, bb⟩
 ·have d1 : decide ((1000 : Int) < (n : Int)) = false := by simp; omega
  obtain ⟨R, x, hRl, hRs, ha, hra⟩ := al_ex S f k A n c l w0 ((hr.below b0).more z0) (by omega) hx0
  have Ha := ek ha; have Hra := ek hra; have HRs := ek hRs; have Hx0 := ek hx0; have B0 := ek b0
  clear hw0 hx hx0 hr S ha hra hRs b0
  go_enter Tryz.func4, Tryz.ntmps4
  go_wp2_with (rw [← W0.out])
  refine (Ha.out _ (Below.refl _ _)).mono ?_
  rintro e w1 ⟨A1, a1, rfl, h1, b1⟩
  have z1 := b1.size
  have H1 := ek h1; have B1 := ek b1
  clear c0 c1 c2 h1 b1
  obtain ⟨c0, c1, c2, -, -, -, -⟩ := X0.out.below B1.out hlt
  go_wp2_with fail
  refine (plain12_c f k A n c _).mono ?_
  rintro e w2 ⟨rfl, b2⟩
  have z2 := b2.size
  have B2 := ek (B1.out.trans (b2.mono z1)); have H2 := ek (RLS.keep H1.out (stays_below b2 z2))
  clear c0 c1 c2 b2
  go_wp2_with fail
  refine (Hra.out _ B2.out).mono ?_
  rintro e w3 ⟨A3, a3, rfl, h3, b3⟩
  have z3 := b3.size
  have B3 := ek (B2.out.trans (b3.mono (by omega))); have H3 := ek (RLS.keep H2.out (stays_below b3 z3)); have G3 := ek h3
  clear h3 b3
  go_wp2_with fail
  refine (alive12_c HS.out _ (Hx0.out.below B3.out Hx0.out.2)).mono ?_
  rintro e w4 ⟨rfl, b4⟩
  have z4 := b4.size
  have hrc := recs12 A1 A3 a1 a3 R w4 (RLS.keep H3.out (stays_below b4 z4)) (RLS.keep G3.out (stays_below b4 z4)) hRl HRs.out
  have Hrc := ek hrc
  have B4 := ek (B3.out.trans (b4.mono (by omega)))
  clear hrc b4
  go_wp2_with fail
  refine Hrc.out.mono ?_
  rintro e w5 ⟨rfl, b5⟩
  have bb := B0.out.trans ((B4.out.trans (b5.mono (by omega))).mono z0)
  go_wp2
  go_ret
  exact ⟨rfl, bb⟩
end Go.Proofs.YtkekmokdlgocaaaGreatDoor
namespace Go.Proofs.YtkekmokdlgocaaaGreatDoor.Pl
open Go.RowKit
theorem mk1_ex (f k : Int) (A : Option Addr) (n c : Nat) (l : List UInt8) (E : Option Addr) (m d : Nat) (cs : List Int) (w : World) (hr : Rb w w.heap.size A n c l) (hn : n ≤ 90000) (hc : Rc 1 w w.heap.size E m d (ivs cs)) (hx : Sq.Mx w) :
  ∃ (L : List Int) (I : List Bool) (g h : Int), (h = 0 ∨ h = 1) ∧ L.length ≤ 1000000 ∧ I.length ≤ 1000000 ∧ (∀ W, Below w.heap.size w W → Calls Tryz.prog 25 #[flv f k A n c, .slice E m d] W (RetPu W L I g h)) ∧ ∀ J i, (h = 0 ∧ i = g ∧ cs = L ∧ J = I) ↔ Md f k l cs J i := by
 have hrW : ∀ W, Below w.heap.size w W → Rb W W.heap.size A n c l := fun W h => (hr.below h).more h.size
 have hcW : ∀ W, Below w.heap.size w W → Rc 1 W W.heap.size E m d (ivs cs) := fun W h => (hc.below h).more h.size
 have hxW : ∀ W, Below w.heap.size w W → Sq.Mx W := fun W h => hx.below h hx.2
 have hmk0 : ∀ {W w' : World} {e : Ending}, (e = .returned (.tuple #[pv0, .int .i64 1]) ∧ Below W.heap.size W w') → RetPu W [] [] 0 1 e w' := fun h => ⟨none, 0, none, 0, h.1, nil_u 1 _, nil_u 1 _, h.2⟩
 have hmax : n ≤ 9223372036854775807 := by omega
 have hl := hr.len
 cases hF : isF f k with
 | false =>
  have hg : (isF f k && decide (n ≤ 100000)) = false := by rw [hF]; rfl
  exact ⟨[], [], 0, 1, .inr rfl, by simp, by simp, fun W h => (make_err f k A n c E m d cs W hmax (hcW W h) (.inl hg)).mono fun e w' q => hmk0 q,
   fun J i => ⟨fun h => (by cases h.1), fun ⟨C, _, _, h, _⟩ => (by rw [hF] at h; cases h)⟩⟩
 | true =>
  by_cases hC : IsC n cs
  ·obtain ⟨C, rfl, hcu⟩ := isC_cu hC
   have hCl := cu_len hcu
   exact ⟨ic C, insF f l C, (scF f k l).2.1, 0, .inl rfl, by rw [ic_len]; omega, by rw [insF_len']; omega,
    fun W h => (make_ok f k A n c l E m d C W (hrW W h) hn (hcW W h) hcu hF (hxW W h)).mono fun e w' q => q.u,
    fun J i => ⟨fun ⟨_, h1, _, h2⟩ => ⟨C, rfl, by rw [hl]; exact hcu, hF, h1, h2⟩, fun ⟨D, h1, _, _, h3, h4⟩ => ⟨rfl, h3, rfl, by rw [ic_inj h1]; exact h4⟩⟩⟩
  ·exact ⟨[], [], 0, 1, .inr rfl, by simp, by simp, fun W h => (make_err f k A n c E m d cs W hmax (hcW W h) (.inr hC)).mono fun e w' q => hmk0 q,
    fun J i => ⟨fun h => (by cases h.1), fun ⟨D, h1, h2, _⟩ => absurd (by rw [h1]; rw [hl] at h2; exact cu_isC h2) hC⟩⟩
theorem isMade_c (f k : Int) (A : Option Addr) (n c : Nat) (l : List UInt8) (E : Option Addr) (m d : Nat) (L : List Int) (D : Option Addr) (q r : Nat) (I : List Bool) (g : Int) (w : World) (hr : Rb w w.heap.size A n c l) (hn : n ≤ 90000) (hc : Rc 1 w w.heap.size E m d (ivs L)) (hi : Rc 1 w w.heap.size D q r (lvb I)) (hx : Sq.Mx w) (o : Bool) (ho : o = true ↔ Md f k l L I g) :
  Calls Tryz.prog 26 #[flv f k A n c, plv E m d D q r g] w fun e w' => e = .returned (.bool o) ∧ Below w.heap.size w w' := by
 obtain ⟨w0, hw0⟩ : ∃ w0, w0 = w.alloc (.cells #[.int .i64 f, .int .i64 k, .slice A n c] 24) := ⟨_, rfl⟩
 have z0 : w0.heap.size = w.heap.size + 1 := by rw [hw0]; simp
 have b0 : Below w.heap.size w w0 := by rw [hw0]; exact ej _ _
 have x0 : Bx w0 w.heap.size (.int .i64 f) (.int .i64 k) (.slice A n c) := by rw [hw0]; exact Bx.made _ _ _ _ _
 obtain ⟨w1, hw1⟩ : ∃ w1, w1 = w0.alloc (.cells #[.slice E m d, .slice D q r, .int .i64 g] 28) := ⟨_, rfl⟩
 have z1 : w1.heap.size = w.heap.size + 2 := by rw [hw1]; simp [z0]
 have b01 : Below w0.heap.size w0 w1 := by rw [hw1]; exact ej _ _
 have y1 : Bx w1 w0.heap.size (.slice E m d) (.slice D q r) (.int .i64 g) := by rw [hw1]; exact Bx.made _ _ _ _ _
 rw [z0] at y1
 have x1 := x0.below b01 x0.lt
 have b1 := b0.trans (b01.mono (by omega))
 have hc1 := (hc.below b1).more (B' := w1.heap.size) (by omega)
 have hi1 := (hi.below b1).more (B' := w1.heap.size) (by omega)
 obtain ⟨L0, I0, g0, h0, herr, hlf, hif, hmk, hmd⟩ := mk1_ex f k A n c l E m d L w1 ((hr.below b1).more (by omega)) hn hc1 (hx.below b1 hx.2)
 have hmd := hmd I g
 rw [← ho] at hmd
 have W0 := ek hw0; have W1 := ek hw1; have Hmk := ek hmk; have Hmd := ek hmd; have Y1 := ek y1; have HC := ek hc1; have HI := ek hi1; have B1 := ek b1; have Z0 := ek z0; have Hif := ek hif; have Hlf := ek hlf
 have hly := y1.lt
 obtain ⟨c0, c1, c2, -, -, -, -⟩ := x1
 obtain ⟨e0, e1, e2, -, -, -, -⟩ := y1
 clear hw0 hw1 b0 x0 b01 z0 hr hc hi hx ho hmd hmk hc1 hi1 b1 hlf hif
 go_enter Tryz.func26, Tryz.ntmps26
 go_wp2_with (first | rw [← W0.out, ← W1.out, Z0.out] | rw [← W0.out, ← W1.out])
 refine (Hmk.out _ (Below.refl _ _)).mono ?_
 rintro e w2 ⟨A4, a4, D4, d4, rfl, r4, s4, b4⟩
 have z4 := b4.size
 obtain ⟨w3, hw3⟩ : ∃ w3, w3 = w2.alloc (.cells #[.slice A4 L0.length a4, .slice D4 I0.length d4, .int .i64 g0] 28) := ⟨_, rfl⟩
 have b5 : Below w2.heap.size w2 w3 := by rw [hw3]; exact ej _ _
 have z5 := b5.size
 have x3 : Bx w3 w2.heap.size (.slice A4 L0.length a4) (.slice D4 I0.length d4) (.int .i64 g0) := by rw [hw3]; exact Bx.made _ _ _ _ _
 have b45 := b4.trans (b5.mono z4)
 have y3 := Y1.out.below b45 hly
 have B3 := ek (B1.out.trans (b45.mono (by omega)))
 clear c0 c1 c2 e0 e1 e2
 rcases herr with rfl | rfl
 ·have hs := same_g A4 D4 E D L0.length a4 I0.length d4 m d q r g0 g L0 L I0 I w3 ((r4.below b5).more z5) ((s4.below b5).more z5) ((HC.out.below b45).more (by omega)) ((HI.out.below b45).more (by omega)) (by have := Hlf.out; omega) (by have := Hif.out; omega) o
   (by rw [Bool.eq_iff_iff, ← Hmd.out]; simp only [true_and, decide_eq_true_eq]; exact ⟨fun ⟨h1, h2, h3⟩ => ⟨h1.symm, h2.symm, h3.symm⟩, fun ⟨h1, h2, h3⟩ => ⟨h1.symm, h2.symm, h3.symm⟩⟩)
  have Hs := ek hs; have W3 := ek hw3
  obtain ⟨c0, c1, c2, -, -, -, -⟩ := x3
  obtain ⟨e0, e1, e2, -, -, -, -⟩ := y3
  clear hs hw3 r4 s4 b4 b5 b45
  go_wp2_with (rw [← W3.out])
  refine Hs.out.mono ?_
  rintro e w4 ⟨rfl, b⟩
  have bb := B3.out.trans (b.mono (by omega))
  clear c0 c1 c2 e0 e1 e2 Hmd Hs
  cases o
  all_goals
   go_wp2
   go_ret
   exact ⟨rfl, bb⟩
 ·have hof : o = false := by
   cases o with
   | false => rfl
   | true => have := (Hmd.out.2 rfl).1; cases this
  subst hof
  have W3 := ek hw3
  clear hw3 r4 s4 b4 b5 b45 x3 y3
  go_wp2
  rw [← W3.out]
  go_ret
  exact ⟨rfl, B3.out⟩
theorem count_c (E : Option Addr) (m d : Nat) (D : Option Addr) (q r : Nat) (g : Int) (w : World) (hm : m ≤ 9000000) :
  Calls Tryz.prog 16 #[plv E m d D q r g] w fun e w' => e = .returned (.int .i64 ((m - 1 : Nat) : Int)) ∧ Below w.heap.size w w' := by
 obtain ⟨w1, hw1⟩ : ∃ w1, w1 = w.alloc (.cells #[.slice E m d, .slice D q r, .int .i64 g] 28) := ⟨_, rfl⟩
 have b1 : Below w.heap.size w w1 := by rw [hw1]; exact ej _ _
 have y1 : Bx w1 w.heap.size (.slice E m d) (.slice D q r) (.int .i64 g) := by rw [hw1]; exact Bx.made _ _ _ _ _
 have q1 : IntKind.i64.wrap ((m : Int) - 1) = (m : Int) - 1 := IntWalk.i64_in _ (by omega)
 have q2 : max ((m : Int) - 1) 0 = ((m - 1 : Nat) : Int) := by omega
 have W1 := ek hw1
 obtain ⟨e0, e1, e2, -, -, -, -⟩ := y1
 clear hw1
 go_enter Tryz.func16, Tryz.ntmps16
 go_wp2_with (rw [← W1.out])
 go_ret
 exact ⟨rfl, b1⟩
theorem splitOf_c (E : Option Addr) (m d : Nat) (C : List Nat) (D : Option Addr) (q r : Nat) (I : List Bool) (g : Int) (w : World) (hc : Rc 1 w w.heap.size E m d (ivs (ic C))) (hi : Rc 1 w w.heap.size D q r (lvb I)) (hm : m ≤ 9000000) (j a b : Nat) (t : Bool) (ha : C[j]? = some a) (hb : C[j + 1]? = some b) (ht : I[j]? = some t) :
  Calls Tryz.prog 28 #[plv E m d D q r g, .int .i64 (j : Int)] w fun e w' => e = .returned (.agg #[.int .i64 (a : Int), .int .i64 (b : Int), .bool t]) ∧ Below w.heap.size w w' := by
 have hCl : C.length = m := by have := hc.len1; rw [ivs_length, ic_len] at this; exact this
 have hIl := lvb_len1 hi
 have hj : j + 1 < m := by rw [← hCl]; exact (List.getElem?_eq_some_iff.1 hb).1
 have hjq : j < q := by rw [← hIl]; exact (List.getElem?_eq_some_iff.1 ht).1
 obtain ⟨w0, hw0⟩ : ∃ w0, w0 = w.alloc (.cells #[.slice E m d, .slice D q r, .int .i64 g] 28) := ⟨_, rfl⟩
 have z0 : w0.heap.size = w.heap.size + 1 := by rw [hw0]; simp
 have b0 : Below w.heap.size w w0 := by rw [hw0]; exact ej _ _
 have y0 : Bx w0 w.heap.size (.slice E m d) (.slice D q r) (.int .i64 g) := by rw [hw0]; exact Bx.made _ _ _ _ _
 obtain ⟨w1, hw1⟩ : ∃ w1, w1 = w0.alloc (.cells #[.int .i64 0, .int .i64 0, .bool false] 64) := ⟨_, rfl⟩
 have z1 : w1.heap.size = w.heap.size + 2 := by rw [hw1]; simp [z0]
 have b01 : Below w0.heap.size w0 w1 := by rw [hw1]; exact ej _ _
 have x1 : Bx w1 w0.heap.size (.int .i64 0) (.int .i64 0) (.bool false) := by rw [hw1]; exact Bx.made _ _ _ _ _
 rw [z0] at x1
 have y1 := y0.below b01 y0.lt
 have b1 := b0.trans (b01.mono (by omega))
 obtain ⟨eb, eo, xa, hE, heb, hca, hxa⟩ := (hc.below b1).int (k := j) (by omega)
 obtain ⟨eb', eo', xb, hE', heb', hcb, hxb⟩ := (hc.below b1).int (k := j + 1) (by omega)
 rw [hE] at hE'
 injection hE' with hE'
 injection hE' with h1 h2
 subst h1 h2
 obtain rfl : xa = (a : Int) := by
  rw [ic_get ha] at hxa
  injection hxa with hxa
  exact hxa.symm
 obtain rfl : xb = (b : Int) := by
  rw [ic_get hb] at hxb
  injection hxb with hxb
  exact hxb.symm
 obtain ⟨db, dd, t', hD, hdb, hcd, hxt⟩ := lvb_at (hi.below b1) hjq
 obtain rfl : t' = t := by
  rw [ht] at hxt
  injection hxt with hxt
  exact hxt.symm
 subst hE hD
 have hcb' : w1.cell? ⟨eb, eo + (j + 1),none⟩ = some (.int .i64 (b : Int)) := hcb
 have W0 := ek hw0; have W1 := ek hw1; have B1 := ek b1; have X1 := ek x1; have Z0 := ek z0; have Z1 := ek z1
 have hly := y1.lt
 obtain ⟨e0, e1, e2, -, -, -, -⟩ := y1
 clear hw0 hw1 b0 b01 b1 z0 hc hi hcb hxa hxb hxt ha hb ht y0 x1 hCl hIl z1
 have q1 : IntKind.i64.wrap ((j : Int) + 1) = ((j + 1 : Nat) : Int) := by rw [IntWalk.i64_in _ (by omega)]; omega
 have q2 : ((j : Int) + 1).toNat = j + 1 := by omega
 go_enter Tryz.func28, Tryz.ntmps28
 go_upto_region 1 with (first | rw [← W0.out, ← W1.out, Z0.out] | rw [← W0.out, ← W1.out])
 refine wp_region_schedR (Below (w.heap.size + 1)) (Below.refl _) (fun _ _ _ => Below.trans) [(false, 0), (false, 1), (false, 2), (false, 3), (false, 4), (false, 5), (false, 6), (false, 7), (false, 8), (false, 9), (false, 10), (false, 11), (false, 12), (false, 13), (false, 14), (false, 15), (false, 16), (true, 17)] (by kernel_rfl) (by kernel_rfl) (by kernel_rfl) (by kernel_rfl) (fun _ _ d _ _ h => by cases d <;> exact h) ?_
 refine wpR_read (o := ⟨some 5, .fieldAddr 28 (.tmp 2) 0, 0, "reader.go:29", #[],none⟩) (v := .pointer (some ⟨w.heap.size, 0,none⟩)) rfl (by rfl) ?_ ?_
 ·intro w' _; go_simp
 try simp only [Act.put, ep, eh, ei]
 refine wpR_read (o := ⟨some 6, .load 25 (.tmp 5), 25, "reader.go:29", #[⟨0, .data⟩],none⟩) (v := .slice (some ⟨eb, eo,none⟩) m d) rfl (by rfl) ?_ ?_
 ·intro w' hw'; have q := (hw'.cell (p := ⟨w.heap.size, 0,none⟩) (by show w.heap.size < _; omega)).trans (show w1.drew.cell? _ = _ from e0); go_simp
 try simp only [Act.put, ep, eh, ei]
 refine wpR_read (o := ⟨some 7, .move (.tmp 1), 3, "reader.go:29", #[],none⟩) (v := .int .i64 (j : Int)) rfl (by rfl) ?_ ?_
 ·intro w' _; go_simp
 try simp only [Act.put, ep, eh, ei]
 refine wpR_read (o := ⟨some 8, .indexAddr 25 (.tmp 6) (.tmp 7), 0, "reader.go:29", #[⟨1, .data⟩,⟨2, .data⟩],none⟩) (v := .pointer (some ⟨eb, eo + j,none⟩)) rfl (by rfl) ?_ ?_
 ·intro w' _; have hjm : j < m := by omega
  go_simp
 try simp only [Act.put, ep, eh, ei]
 refine wpR_read (o := ⟨some 9, .load 3 (.tmp 8), 3, "reader.go:29", #[⟨3, .data⟩],none⟩) (v := .int .i64 (a : Int)) rfl (by rfl) ?_ ?_
 ·intro w' hw'; have q := (hw'.cell (p := ⟨eb, eo + j,none⟩) (by show eb < _; omega)).trans (show w1.drew.cell? _ = _ from hca); go_simp
 try simp only [Act.put, ep, eh, ei]
 refine wpR_read (o := ⟨some 10, .fieldAddr 28 (.tmp 2) 0, 0, "reader.go:29", #[],none⟩) (v := .pointer (some ⟨w.heap.size, 0,none⟩)) rfl (by rfl) ?_ ?_
 ·intro w' _; go_simp
 try simp only [Act.put, ep, eh, ei]
 refine wpR_read (o := ⟨some 11, .load 25 (.tmp 10), 25, "reader.go:29", #[⟨5, .data⟩],none⟩) (v := .slice (some ⟨eb, eo,none⟩) m d) rfl (by rfl) ?_ ?_
 ·intro w' hw'; have q := (hw'.cell (p := ⟨w.heap.size, 0,none⟩) (by show w.heap.size < _; omega)).trans (show w1.drew.cell? _ = _ from e0); go_simp
 try simp only [Act.put, ep, eh, ei]
 refine wpR_read (o := ⟨some 12, .move (.tmp 1), 3, "reader.go:29", #[],none⟩) (v := .int .i64 (j : Int)) rfl (by rfl) ?_ ?_
 ·intro w' _; go_simp
 try simp only [Act.put, ep, eh, ei]
 refine wpR_read (o := ⟨some 13, .binOp .add 3 (.tmp 12) (.const (.int .i64 1)) 3, 3, "reader.go:29", #[⟨7, .data⟩],none⟩) (v := .int .i64 ((j + 1 : Nat) : Int)) rfl (by rfl) ?_ ?_
 ·intro w' _; go_simp
 try simp only [Act.put, ep, eh, ei]
 refine wpR_read (o := ⟨some 14, .indexAddr 25 (.tmp 11) (.tmp 13), 0, "reader.go:29", #[⟨6, .data⟩,⟨8, .data⟩],none⟩) (v := .pointer (some ⟨eb, eo + (j + 1),none⟩)) rfl (by rfl) ?_ ?_
 ·intro w' _; go_simp; intro h; exact absurd (h (by omega)) (by omega)
 try simp only [Act.put, ep, eh, ei]
 refine wpR_read (o := ⟨some 15, .load 3 (.tmp 14), 3, "reader.go:29", #[⟨9, .data⟩],none⟩) (v := .int .i64 (b : Int)) rfl (by rfl) ?_ ?_
 ·intro w' hw'; have q := (hw'.cell (p := ⟨eb, eo + (j + 1),none⟩) (by show eb < _; omega)).trans (show w1.drew.cell? _ = _ from hcb'); go_simp
 try simp only [Act.put, ep, eh, ei]
 refine wpR_read (o := ⟨some 16, .fieldAddr 28 (.tmp 2) 1, 0, "reader.go:29", #[],none⟩) (v := .pointer (some ⟨w.heap.size, 1,none⟩)) rfl (by rfl) ?_ ?_
 ·intro w' _; go_simp
 try simp only [Act.put, ep, eh, ei]
 refine wpR_read (o := ⟨some 17, .load 26 (.tmp 16), 26, "reader.go:29", #[⟨11, .data⟩],none⟩) (v := .slice (some ⟨db, dd,none⟩) q r) rfl (by rfl) ?_ ?_
 ·intro w' hw'; have q := (hw'.cell (p := ⟨w.heap.size, 1,none⟩) (by show w.heap.size < _; omega)).trans (show w1.drew.cell? _ = _ from e1); go_simp
 try simp only [Act.put, ep, eh, ei]
 refine wpR_read (o := ⟨some 18, .move (.tmp 1), 3, "reader.go:29", #[],none⟩) (v := .int .i64 (j : Int)) rfl (by rfl) ?_ ?_
 ·intro w' _; go_simp
 try simp only [Act.put, ep, eh, ei]
 refine wpR_read (o := ⟨some 19, .indexAddr 26 (.tmp 17) (.tmp 18), 0, "reader.go:29", #[⟨12, .data⟩,⟨13, .data⟩],none⟩) (v := .pointer (some ⟨db, dd + j,none⟩)) rfl (by rfl) ?_ ?_
 ·intro w' _; go_simp
 try simp only [Act.put, ep, eh, ei]
 refine wpR_read (o := ⟨some 20, .load 4 (.tmp 19), 4, "reader.go:29", #[⟨14, .data⟩],none⟩) (v := .bool t') rfl (by rfl) ?_ ?_
 ·intro w' hw'; have q := (hw'.cell (p := ⟨db, dd + j,none⟩) (by show db < _; omega)).trans (show w1.drew.cell? _ = _ from hcd); go_simp
 try simp only [Act.put, ep, eh, ei]
 refine wpR_read (o := ⟨some 21, .build 64 #[(0, .tmp 9), (1, .tmp 15), (2, .tmp 20)], 64, "reader.go:29", #[⟨4, .data⟩,⟨10, .data⟩,⟨15, .data⟩],none⟩) (v := .agg #[.int .i64 (a : Int), .int .i64 (b : Int), .bool t']) rfl (by rfl) ?_ ?_
 ·intro w' _; go_simp
 try simp only [Act.put, ep, eh, ei]
 refine wpR_call (o := ⟨none, .store 64 (.tmp 4) (.tmp 21), 0, "reader.go:29", #[⟨16, .data⟩,⟨0, .phase⟩,⟨1, .phase⟩,⟨2, .phase⟩,⟨3, .phase⟩,⟨4, .phase⟩,⟨5, .phase⟩,⟨6, .phase⟩,⟨7, .phase⟩,⟨8, .phase⟩,⟨9, .phase⟩,⟨10, .phase⟩,⟨11, .phase⟩,⟨12, .phase⟩,⟨13, .phase⟩,⟨14, .phase⟩,⟨15, .phase⟩,⟨16, .phase⟩],none⟩) rfl (by rfl) (fun K hK => ?_)
 have hk : Bx w1.drew (w.heap.size + 1) (.int .i64 0) (.int .i64 0) (.bool false) := ⟨X1.out.c0, X1.out.c1, X1.out.c2, X1.out.f0, X1.out.f1, X1.out.f2, X1.out.lt⟩
 obtain ⟨w2, hw2⟩ : ∃ w2, w2 = put3 w1.drew (w.heap.size + 1) (.int .i64 (a : Int)) (.int .i64 (b : Int)) (.bool t') := ⟨_, rfl⟩
 have x2 := put3_box hk (.int .i64 (a : Int)) (.int .i64 (b : Int)) (.bool t')
 have q2' := put3_below w1.drew (w.heap.size + 1) (.int .i64 (a : Int)) (.int .i64 (b : Int)) (.bool t')
 rw [← hw2] at x2 q2'
 have B2 := ek (B1.out.trans (show Below w.heap.size w1 w2 from (below_drewN (Below.refl _ _) 1).trans (q2'.mono (by omega))))
 have X2 := ek x2; have W2 := ek hw2; have Q2 := ek q2'
 obtain ⟨o0, o1, o2, o3, o4, o5, o6⟩ := X1.out
 clear x2 hw2 q2' hk
 go_simp
 change K _ (put3 w1.drew (w.heap.size + 1) _ _ _)
 rw [← W2.out]
 refine hK.out _ _ Q2.out ?_
 clear hK K o0 o1 o2 o3 o4 o5 o6
 try simp only [Act.put, ep, eh, ei]
 refine wpR_done ?_
 go_wp2
 refine bodyPost_ret (v := .agg #[.int .i64 (a : Int), .int .i64 (b : Int), .bool t']) ?_ rfl ⟨rfl, B2.out⟩
 obtain ⟨s0, s1, s2, -, -, -, -⟩ := X2.out
 simp [results, Tryz.results28, go_sem, s0, s1, s2]
theorem insF_at {f : Int} {l : List UInt8} {C : List Nat} {j a : Nat} (h : C[j]? = some a) : (insF f l C)[j]? = some (inF f l (a : Int)) := by
 unfold insF
 rw [List.getElem?_map, h]
 rfl
theorem read_c (f k : Int) (A : Option Addr) (n c : Nat) (l : List UInt8) (E : Option Addr) (m d : Nat) (C : List Nat) (D : Option Addr) (q r : Nat) (I : List Bool) (g : Int) (w : World) (h : Arg A n c l E m d (ic C) D q r I w) (hM : Md f k l (ic C) I g) (j a b : Nat) (ha : C[j]? = some a) (hb : C[j + 1]? = some b) :
  Calls Tryz.prog 9 #[flv f k A n c, plv E m d D q r g, .int .i64 (j : Int)] w (RetRw w (rdP (scF f k l).1 a b) (told f (scF f k l).2.1 (scF f k l).2.2 a b)) := by
 have hl := h.b.len
 obtain ⟨C', hC', hcu, hF, hg, hI⟩ := id hM
 have hCC := ic_inj hC'
 subst hCC
 rw [hl] at hcu
 have hab := cu_two hcu ha hb
 have hCl : C.length = m := by have := h.cuts.len1; rw [ivs_length, ic_len] at this; exact this
 have hj : j + 1 < m := by rw [← hCl]; exact (List.getElem?_eq_some_iff.1 hb).1
 have htt : I[j]? = some (inF f l (a : Int)) := by rw [hI]; exact insF_at ha
 obtain ⟨w0, hw0⟩ : ∃ w0, w0 = w.alloc (.cells #[.int .i64 f, .int .i64 k, .slice A n c] 24) := ⟨_, rfl⟩
 have z0 : w0.heap.size = w.heap.size + 1 := by rw [hw0]; simp
 have b0 : Below w.heap.size w w0 := by rw [hw0]; exact ej _ _
 have x0 : Bx w0 w.heap.size (.int .i64 f) (.int .i64 k) (.slice A n c) := by rw [hw0]; exact Bx.made _ _ _ _ _
 obtain ⟨w1, hw1⟩ : ∃ w1, w1 = w0.alloc (.cells #[.slice E m d, .slice D q r, .int .i64 g] 28) := ⟨_, rfl⟩
 have z1 : w1.heap.size = w.heap.size + 2 := by rw [hw1]; simp [z0]
 have b01 : Below w0.heap.size w0 w1 := by rw [hw1]; exact ej _ _
 have y1 : Bx w1 w0.heap.size (.slice E m d) (.slice D q r) (.int .i64 g) := by rw [hw1]; exact Bx.made _ _ _ _ _
 rw [z0] at y1
 have x1 := x0.below b01 x0.lt
 have b1 := b0.trans (b01.mono (by omega))
 have hmd := fun W (hb : Below w1.heap.size w1 W) => isMade_c f k A n c l E m d (ic C) D q r I g W (((h.b.below b1).below (hb.mono (by omega))).more (by have := hb.size; omega)) h.n9 (((h.cuts.below b1).below (hb.mono (by omega))).more (by have := hb.size; omega)) (((h.ins.below b1).below (hb.mono (by omega))).more (by have := hb.size; omega)) ((h.mx.below' b1).below' hb) true (by simp [hM])
 have hrd := fun W (hb : Below w1.heap.size w1 W) => readerOf_c f k A n c l w.heap.size W (h.b.below (b1.trans (hb.mono (by omega)))) (by have := hb.size; omega) h.mx.2 h.n9 hF ((h.mx.below' b1).below' hb)
 have hso := fun W (hb' : Below w1.heap.size w1 W) => splitOf_c E m d C D q r I g W (((h.cuts.below b1).below (hb'.mono (by omega))).more (by have := hb'.size; omega)) (((h.ins.below b1).below (hb'.mono (by omega))).more (by have := hb'.size; omega)) h.m9 j a b _ ha hb htt
 rw [← hg] at hrd
 obtain ⟨t, ht⟩ : ∃ t, t = inF f l (a : Int) := ⟨_, rfl⟩
 rw [← ht] at hso
 obtain ⟨R, hR⟩ : ∃ R, R = rdP (scF f k l).1 a b := ⟨_, rfl⟩
 obtain ⟨U, hU⟩ : ∃ U, U = told f (scF f k l).2.1 (scF f k l).2.2 a b := ⟨_, rfl⟩
 rw [← hR, ← hU]
 have hm9 := h.m9
 have W0 := ek hw0; have W1 := ek hw1; have Hmd := ek hmd; have Hrd := ek hrd; have Hso := ek hso; have X1 := ek x1; have Y1 := ek y1; have Z0 := ek z0; have B1 := ek b1; have HR := ek hR; have HU := ek hU; have HT := ek ht
 have hlx := x1.lt
 have hly := y1.lt
 obtain ⟨c0, c1, c2, -, -, -, -⟩ := x1
 obtain ⟨e0, e1, e2, -, -, -, -⟩ := y1
 clear hw0 hw1 b0 x0 b01 z0 h hM hC' hcu hg hI htt hmd hrd hso hR hU ht ha hb hF b1 hCl
 have d1 : decide ((j : Int) < 0) = false := by simp
 have d2 : decide (((m - 1 : Nat) : Int) ≤ (j : Int)) = false := by simp; omega
 have d3 : decide (m - 1 ≤ j) = false := by simp; omega
 go_enter Tryz.func9, Tryz.ntmps9
 go_wp2_with (first | rw [← W0.out, ← W1.out, Z0.out] | rw [← W0.out, ← W1.out])
 refine (count_c E m d D q r g w1 hm9).mono ?_
 rintro e w2 ⟨rfl, b2⟩
 have z2 := b2.size
 have X2 := ek (X1.out.below b2 hlx); have Y2 := ek (Y1.out.below b2 hly); have B2 := ek b2
 clear c0 c1 c2 e0 e1 e2 b2
 obtain ⟨c0, c1, c2, -, -, -, -⟩ := X2.out
 obtain ⟨e0, e1, e2, -, -, -, -⟩ := Y2.out
 go_wp2_with fail
 refine (Hmd.out w2 B2.out).mono ?_
 rintro e w3 ⟨rfl, b3⟩
 have z3 := b3.size
 have X3 := ek (X2.out.below b3 (by omega)); have Y3 := ek (Y2.out.below b3 (by omega)); have B3 := ek (B2.out.trans (b3.mono z2))
 clear c0 c1 c2 e0 e1 e2 b3
 obtain ⟨c0, c1, c2, -, -, -, -⟩ := X3.out
 obtain ⟨e0, e1, e2, -, -, -, -⟩ := Y3.out
 go_wp2_with fail
 refine (Hrd.out w3 B3.out).mono ?_
 rintro e w4 ⟨v, rfl, hv, b4⟩
 have z4 := b4.size
 obtain ⟨fa, ca, rfl, hent, hcall⟩ := hv
 have X4 := ek (X3.out.below b4 (by omega)); have Y4 := ek (Y3.out.below b4 (by omega)); have B4 := ek (B3.out.trans (b4.mono (by omega)))
 have Hcall := ek hcall
 clear c0 c1 c2 e0 e1 e2 b4 hcall
 obtain ⟨c0, c1, c2, -, -, -, -⟩ := X4.out
 obtain ⟨e0, e1, e2, -, -, -, -⟩ := Y4.out
 go_wp2_with fail
 refine (Hso.out w4 B4.out).mono ?_
 rintro e w5 ⟨rfl, b5⟩
 have z5 := b5.size
 have B5 := ek (B4.out.trans (b5.mono (by omega)))
 have hc := Hcall.out w5 ((St.refl w4).step (by omega) b5) a b hab.1 hab.2
 rw [← HR.out, ← HU.out, ← HT.out] at hc
 have Hc := ek hc
 clear c0 c1 c2 e0 e1 e2 b5 hc
 go_wp2_with fail
 rw [hent, Oper.upon_enter]
 refine Hc.out.mono ?_
 rintro e w6 ⟨A6, c6, rfl, h6, b6⟩
 have H6 := ek (show RLS w6 (Fr w.heap.size w6) A6 R.length c6 R from h6.keep (stays_weak fun x hx => ⟨by have := hx.1; omega, hx.2.2⟩))
 have bb := B1.out.trans ((B5.out.trans (b6.mono (by omega))).mono (by omega))
 clear h6 b6
 go_wp2
 go_ret2
 exact ⟨A6, c6, rfl, H6.out, bb⟩
theorem read_bad (f k : Int) (A : Option Addr) (n c : Nat) (l : List UInt8) (E : Option Addr) (m d : Nat) (L : List Int) (D : Option Addr) (q r : Nat) (I : List Bool) (g : Int) (w : World) (h : Arg A n c l E m d L D q r I w) (i : Int) (_hi : I64 i) (hb : ¬ Md f k l L I g ∨ i < 0 ∨ ((m - 1 : Nat) : Int) ≤ i) :
  Calls Tryz.prog 9 #[flv f k A n c, plv E m d D q r g, .int .i64 i] w (RetRu w [] 1) := by
 obtain ⟨w0, hw0⟩ : ∃ w0, w0 = w.alloc (.cells #[.int .i64 f, .int .i64 k, .slice A n c] 24) := ⟨_, rfl⟩
 have z0 : w0.heap.size = w.heap.size + 1 := by rw [hw0]; simp
 have b0 : Below w.heap.size w w0 := by rw [hw0]; exact ej _ _
 have x0 : Bx w0 w.heap.size (.int .i64 f) (.int .i64 k) (.slice A n c) := by rw [hw0]; exact Bx.made _ _ _ _ _
 obtain ⟨w1, hw1⟩ : ∃ w1, w1 = w0.alloc (.cells #[.slice E m d, .slice D q r, .int .i64 g] 28) := ⟨_, rfl⟩
 have z1 : w1.heap.size = w.heap.size + 2 := by rw [hw1]; simp [z0]
 have b01 : Below w0.heap.size w0 w1 := by rw [hw1]; exact ej _ _
 have y1 : Bx w1 w0.heap.size (.slice E m d) (.slice D q r) (.int .i64 g) := by rw [hw1]; exact Bx.made _ _ _ _ _
 rw [z0] at y1
 have x1 := x0.below b01 x0.lt
 have b1 := b0.trans (b01.mono (by omega))
 have hm9 := h.m9
 have W0 := ek hw0; have W1 := ek hw1; have X1 := ek x1; have Y1 := ek y1; have Z0 := ek z0; have B1 := ek b1; have HA := ek h
 have hlx := x1.lt
 have hly := y1.lt
 obtain ⟨c0, c1, c2, -, -, -, -⟩ := x1
 obtain ⟨e0, e1, e2, -, -, -, -⟩ := y1
 clear hw0 hw1 b0 x0 b01 z0 h b1
 by_cases hi0 : i < 0
 ·have d1 : decide (i < 0) = true := decide_eq_true hi0
  clear hb
  go_enter Tryz.func9, Tryz.ntmps9
  go_wp2_with (first | rw [← W0.out, ← W1.out, Z0.out] | rw [← W0.out, ← W1.out])
  go_ret2
  exact ⟨none, 0, rfl, RLS.nil, B1.out⟩
 ·have d1 : decide (i < 0) = false := decide_eq_false hi0
  by_cases hmi : ((m - 1 : Nat) : Int) ≤ i
  ·have d2 : decide (((m - 1 : Nat) : Int) ≤ i) = true := decide_eq_true hmi
   clear hb
   go_enter Tryz.func9, Tryz.ntmps9
   go_wp2_with (first | rw [← W0.out, ← W1.out, Z0.out] | rw [← W0.out, ← W1.out])
   refine (count_c E m d D q r g w1 hm9).mono ?_
   rintro e w2 ⟨rfl, b2⟩
   have bb := B1.out.trans (b2.mono (by omega))
   clear c0 c1 c2 e0 e1 e2 b2
   go_wp2
   go_ret2
   exact ⟨none, 0, rfl, RLS.nil, bb⟩
  ·have d2 : decide (((m - 1 : Nat) : Int) ≤ i) = false := decide_eq_false hmi
   have hM : ¬ Md f k l L I g := hb.elim id fun h => absurd h (by omega)
   have hmd := fun W (hb : Below w.heap.size w W) => isMade_c f k A n c l E m d L D q r I g W (HA.out.go hb).b HA.out.n9 (HA.out.go hb).cuts (HA.out.go hb).ins (HA.out.go hb).mx false (by simp [hM])
   have Hmd := ek hmd
   clear hmd hM hb
   go_enter Tryz.func9, Tryz.ntmps9
   go_wp2_with (first | rw [← W0.out, ← W1.out, Z0.out] | rw [← W0.out, ← W1.out])
   refine (count_c E m d D q r g w1 hm9).mono ?_
   rintro e w2 ⟨rfl, b2⟩
   have z2 := b2.size
   have X2 := ek (X1.out.below b2 hlx); have Y2 := ek (Y1.out.below b2 hly); have B2 := ek (B1.out.trans (b2.mono (by omega)))
   clear c0 c1 c2 e0 e1 e2 b2
   obtain ⟨c0, c1, c2, -, -, -, -⟩ := X2.out
   obtain ⟨e0, e1, e2, -, -, -, -⟩ := Y2.out
   go_wp2_with fail
   refine (Hmd.out w2 B2.out).mono ?_
   rintro e w3 ⟨rfl, b3⟩
   have bb := B2.out.trans (b3.mono (by omega))
   clear c0 c1 c2 e0 e1 e2 b3
   go_wp2
   go_ret2
   exact ⟨none, 0, rfl, RLS.nil, bb⟩
theorem all_c (f k : Int) (A : Option Addr) (n c : Nat) (P : List (Nat × List (List (List UInt8)))) (G X : Nat) (w : World) (hsc : ∀ W, Below w.heap.size w W → Calls Tryz.prog 36 #[flv f k A n c] W (RetS W (P, G, X))) (hP : P.length ≤ 1000000) (hall : (Tm.all P).length ≤ 50000000) :
  Calls Tryz.prog 18 #[flv f k A n c] w (RetRu w (Tm.all P) X) := by
 obtain ⟨w0, hw0⟩ : ∃ w0, w0 = w.alloc (.cells #[.int .i64 f, .int .i64 k, .slice A n c] 24) := ⟨_, rfl⟩
 have b0 : Below w.heap.size w w0 := by rw [hw0]; exact ej _ _
 have x0 : Bx w0 w.heap.size (.int .i64 f) (.int .i64 k) (.slice A n c) := by rw [hw0]; exact Bx.made _ _ _ _ _
 have Hs := ek (hsc w0 b0)
 have W0 := ek hw0; have B0 := ek b0; have Hall := ek hall; have HP := ek hP
 obtain ⟨c0, c1, c2, -, -, -, -⟩ := x0
 clear hsc hw0 b0 hall hP
 go_enter Tryz.func18, Tryz.ntmps18
 go_wp2_with (rw [← W0.out])
 refine Hs.out.mono ?_
 rintro e w1 ⟨A1, c1, rfl, h1, b1⟩
 dsimp only at h1 ⊢
 have z1 := b1.size
 have Hc := ek (collectP_c A1 P.length c1 P _ w1 h1 (fun x hx => hx.2) HP.out Hall.out)
 have B1 := ek (B0.out.trans (b1.mono B0.out.size))
 clear c0 c2 h1 b1
 go_wp2_with fail
 refine Hc.out.mono ?_
 rintro e w2 ⟨A2, c2, vs, rfl, h2, g2, b2⟩
 have z2 := b2.size
 have H2 := ek (show RL w2 w2.heap.size A2 (Tm.all P).length c2 (Tm.all P) from ⟨vs, h2.rcS.keep (stays_weak fun b hb => hb.2), g2.keep (stays_weak fun b hb => by have : b < w1.heap.size := hb.2; show b < _; omega)⟩)
 have bb := B1.out.trans (b2.mono B1.out.size)
 clear h2 g2 b2
 go_wp2
 go_ret2
 exact ⟨A2, c2, rfl, H2.out, bb⟩
theorem spty : Sl Tryz.prog 72 64 (.agg #[.int .i64 0, .int .i64 0, .bool false]) 3 24 := ⟨Tryz.underlying72, by kernel_rfl, rfl, by omega⟩
structure Spb (w : World) (g N : Nat) : Prop where
 lt : g < w.heap.size
 ex : ∀ o, o < N * 3 → ∃ v, w.cell? ⟨g, o,none⟩ = some v
 fr : ∀ o, w.frozen? ⟨g, o,none⟩ = false
theorem Spb.keep {w w' : World} {g N : Nat} (h : Spb w g N) (hs : w.heap.size ≤ w'.heap.size) (hg : w'.heap[g]? = w.heap[g]?) : Spb w' g N := by
 have c : ∀ k, w'.cell? ⟨g, k,none⟩ = w.cell? ⟨g, k,none⟩ := fun k => by unfold World.cell?; rw [hg]
 have f : ∀ k, w'.frozen? ⟨g, k,none⟩ = w.frozen? ⟨g, k,none⟩ := fun k => by unfold World.frozen?; rw [hg]
 exact ⟨Nat.lt_of_lt_of_le h.lt hs, fun o ho => by rw [c]; exact h.ex o ho, fun o => by rw [f]; exact h.fr o⟩
theorem Spb.below {w w' : World} {g N B : Nat} (h : Spb w g N) (hb : Below B w w') (hg : g < B) : Spb w' g N := h.keep hb.size (hb.block g hg)
theorem smake3 (w : World) (N : Nat) (hN : N ≤ 9000000) :
  ∃ w', (Instr.makeSlice 72 (.int .i64 (N : Int)) (.int .i64 (N : Int))).run Tryz.prog w = .ok (.slice (some ⟨w.heap.size, 0,none⟩) N N) w' ∧ Spb w' w.heap.size N ∧ Below w.heap.size w w' := by
 obtain ⟨i, hi, hz0, hz1, hz2⟩ := info_parts spty.inf
 have h := run_make (P := Tryz.prog) w 72 64 i (.agg #[.int .i64 0, .int .i64 0, .bool false]) spty.sl hi hz0 .i64 .i64 (N : Int) (N : Int) (by omega) (by omega) (by rw [hz2]; omega) (by omega)
 simp only [Int.toNat_natCast, hz1] at h
 have hsz := size_madeCells (Value.agg #[.int .i64 0, .int .i64 0, .bool false]).cells (N * 3)
 generalize madeCells (Value.agg #[.int .i64 0, .int .i64 0, .bool false]).cells (N * 3) = cs at h hsz
 refine ⟨_, h, ⟨by simp, fun o ho => ?_, fun o => by simp⟩, ej _ _⟩
 rw [← hsz] at ho
 exact ⟨cs[o], by simp [ho]⟩
def put3o (w : World) (g o : Nat) (v0 v1 v2 : Value) : World := ((w.setCell ⟨g, o,none⟩ v0).setCell ⟨g, o + 1,none⟩ v1).setCell ⟨g, o + 2,none⟩ v2
theorem put3o_below (w : World) (g o : Nat) (v0 v1 v2 : Value) : Below g w (put3o w g o v0 v1 v2) :=
 (((Below.refl g w).setCell (Nat.le_refl _) _).setCell (Nat.le_refl _) _).setCell (Nat.le_refl _) _
theorem put3o_other (w : World) (g o g' o' : Nat) (v0 v1 v2 : Value) (h : g' ≠ g ∨ o' < o ∨ o + 2 < o') : (put3o w g o v0 v1 v2).cell? ⟨g', o',none⟩ = w.cell? ⟨g', o',none⟩ := by
 unfold put3o
 rw [World.cell?_setCell_other _ _ _ _ (by intro e; injection e with e1 e2; omega), World.cell?_setCell_other _ _ _ _ (by intro e; injection e with e1 e2; omega), World.cell?_setCell_other _ _ _ _ (by intro e; injection e with e1 e2; omega)]
theorem put3o_at {w : World} {g N : Nat} (h : Spb w g N) (o : Nat) (ho : o + 2 < N * 3) (v0 v1 v2 : Value) :
  (put3o w g o v0 v1 v2).cell? ⟨g, o,none⟩ = some v0 ∧ (put3o w g o v0 v1 v2).cell? ⟨g, o + 1,none⟩ = some v1 ∧ (put3o w g o v0 v1 v2).cell? ⟨g, o + 2,none⟩ = some v2 := by
 obtain ⟨a, ha⟩ := h.ex o (by omega)
 obtain ⟨b, hb⟩ := h.ex (o + 1) (by omega)
 obtain ⟨c, hc⟩ := h.ex (o + 2) (by omega)
 unfold put3o
 have c0 : (w.setCell ⟨g, o,none⟩ v0).cell? ⟨g, o,none⟩ = some v0 := World.cell?_setCell_same w _ _ ha
 have c1 : (w.setCell ⟨g, o,none⟩ v0).cell? ⟨g, o + 1,none⟩ = some b := (World.cell?_setCell_other w _ _ _ (by simp)).trans hb
 have c2 : (w.setCell ⟨g, o,none⟩ v0).cell? ⟨g, o + 2,none⟩ = some c := (World.cell?_setCell_other w _ _ _ (by simp)).trans hc
 have d0 := (World.cell?_setCell_other (w.setCell ⟨g, o,none⟩ v0) ⟨g, o + 1,none⟩ ⟨g, o,none⟩ v1 (by simp)).trans c0
 have d1 : ((w.setCell ⟨g, o,none⟩ v0).setCell ⟨g, o + 1,none⟩ v1).cell? ⟨g, o + 1,none⟩ = some v1 := World.cell?_setCell_same _ _ _ c1
 have d2 := (World.cell?_setCell_other (w.setCell ⟨g, o,none⟩ v0) ⟨g, o + 1,none⟩ ⟨g, o + 2,none⟩ v1 (by simp)).trans c2
 exact ⟨(World.cell?_setCell_other _ ⟨g, o + 2,none⟩ ⟨g, o,none⟩ v2 (by simp)).trans d0, (World.cell?_setCell_other _ ⟨g, o + 2,none⟩ ⟨g, o + 1,none⟩ v2 (by simp)).trans d1, World.cell?_setCell_same _ _ _ d2⟩
theorem put3o_size (w : World) (g o : Nat) (v0 v1 v2 : Value) : (put3o w g o v0 v1 v2).heap.size = w.heap.size := by unfold put3o; simp
theorem Spb.put {w : World} {g N : Nat} (h : Spb w g N) (o : Nat) (ho : o + 2 < N * 3) (v0 v1 v2 : Value) : Spb (put3o w g o v0 v1 v2) g N := by
 obtain ⟨p0, p1, p2⟩ := put3o_at h o ho v0 v1 v2
 refine ⟨by rw [put3o_size]; exact h.lt, fun o' ho' => ?_, fun o' => ?_⟩
 ·by_cases e0 : o' = o
  ·subst e0; exact ⟨_, p0⟩
  ·by_cases e1 : o' = o + 1
   ·subst e1; exact ⟨_, p1⟩
   ·by_cases e2 : o' = o + 2
    ·subst e2; exact ⟨_, p2⟩
    ·rw [put3o_other _ _ _ _ _ _ _ _ (by omega)]; exact h.ex o' ho'
 ·have : (put3o w g o v0 v1 v2).frozen? ⟨g, o',none⟩ = w.frozen? ⟨g, o',none⟩ := by unfold put3o; simp
  rw [this]; exact h.fr o'
def SpIs (w : World) (g : Nat) (C : List Nat) (I : List Bool) (j : Nat) : Prop :=
 ∀ (t a b : Nat) (q : Bool), t < j → C[t]? = some a → C[t + 1]? = some b → I[t]? = some q → w.cell? ⟨g, t * 3,none⟩ = some (.int .i64 (a : Int)) ∧ w.cell? ⟨g, t * 3 + 1,none⟩ = some (.int .i64 (b : Int)) ∧ w.cell? ⟨g, t * 3 + 2,none⟩ = some (.bool q)
theorem SpIs.keep {w w' : World} {g j : Nat} {C : List Nat} {I : List Bool} (h : SpIs w g C I j) (hg : w'.heap[g]? = w.heap[g]?) : SpIs w' g C I j := by
 have c : ∀ k, w'.cell? ⟨g, k,none⟩ = w.cell? ⟨g, k,none⟩ := fun k => by unfold World.cell?; rw [hg]
 intro t a b q h1 h2 h3 h4
 rw [c, c, c]
 exact h t a b q h1 h2 h3 h4
theorem SpIs.next {w : World} {g N j a b : Nat} {q : Bool} {C : List Nat} {I : List Bool} (h : SpIs w g C I j) (hs : Spb w g N) (hj : j < N) (ha : C[j]? = some a) (hb : C[j + 1]? = some b) (hq : I[j]? = some q) : SpIs (put3o w g (j * 3) (.int .i64 (a : Int)) (.int .i64 (b : Int)) (.bool q)) g C I (j + 1) := by
 intro t a' b' q' h1 h2 h3 h4
 by_cases e : t = j
 ·subst e
  rw [ha] at h2; rw [hb] at h3; rw [hq] at h4
  injection h2 with h2; injection h3 with h3; injection h4 with h4
  subst h2 h3 h4
  exact put3o_at hs (t * 3) (by omega) _ _ _
 ·rw [put3o_other _ _ _ _ _ _ _ _ (by omega), put3o_other _ _ _ _ _ _ _ _ (by omega), put3o_other _ _ _ _ _ _ _ _ (by omega)]
  exact h t a' b' q' (by omega) h2 h3 h4
def SoRel (w : World) (g N : Nat) (C : List Nat) (I : List Bool) (i : Value) (wr : World) : Prop :=
 ∃ j : Nat, i = .int .i64 (j : Int) ∧ j ≤ N ∧ Spb wr g N ∧ SpIs wr g C I j ∧ Below g w wr
theorem splitsOf_c (E : Option Addr) (m d : Nat) (C : List Nat) (D : Option Addr) (q r : Nat) (I : List Bool) (g : Int) (w : World) (hc : Rc 1 w w.heap.size E m d (ivs (ic C))) (hi : Rc 1 w w.heap.size D q r (lvb I)) (hm : m ≤ 9000000) (hIC : I.length = C.length) :
  Calls Tryz.prog 33 #[plv E m d D q r g] w fun e w' => ∃ b, e = .returned (.slice (some ⟨b, 0,none⟩) (m - 1) (m - 1)) ∧ w.heap.size ≤ b ∧ Spb w' b (m - 1) ∧ SpIs w' b C I (m - 1) ∧ Below w.heap.size w w' := by
 have hCl : C.length = m := by have := hc.len1; rw [ivs_length, ic_len] at this; exact this
 obtain ⟨N, hN⟩ : ∃ N, N = m - 1 := ⟨_, rfl⟩
 have hct := fun W => count_c E m d D q r g W hm
 rw [← hN]
 simp only [← hN] at hct
 have HN := ek hN; have Hct := ek hct
 have hNm : N ≤ 9000000 := by omega
 clear hN hct
 obtain ⟨w0, hw0⟩ : ∃ w0, w0 = w.alloc (.cells #[.slice E m d, .slice D q r, .int .i64 g] 28) := ⟨_, rfl⟩
 have z0 : w0.heap.size = w.heap.size + 1 := by rw [hw0]; simp
 have b0 : Below w.heap.size w w0 := by rw [hw0]; exact ej _ _
 have y0 : Bx w0 w.heap.size (.slice E m d) (.slice D q r) (.int .i64 g) := by rw [hw0]; exact Bx.made _ _ _ _ _
 have W0 := ek hw0; have B0 := ek b0; have Y0 := ek y0; have Hc := ek hc; have Hi := ek hi; have HCl := ek hCl; have HIC := ek hIC
 have hly := y0.lt
 obtain ⟨e0, e1, e2, -, -, -, -⟩ := y0
 clear hw0 b0 hc hi hCl hIC z0
 go_enter Tryz.func33, Tryz.ntmps33
 go_wp2_with (rw [← W0.out])
 refine (Hct.out w0).mono ?_
 rintro e w1 ⟨rfl, b1⟩
 have z1 := b1.size
 have Y1 := ek (Y0.out.below b1 hly)
 obtain ⟨w2, hmk, hsp, b2⟩ := smake3 w1 N hNm
 have z2 := b2.size
 have Y2 := ek (Y1.out.below b2 Y1.out.lt)
 obtain ⟨G, hG⟩ : ∃ G, G = w1.heap.size := ⟨_, rfl⟩
 have b02 := B0.out.trans ((b1.trans (b2.mono z1)).mono B0.out.size)
 rw [← hG] at hmk hsp
 have hGw : w.heap.size < G := by omega
 have Hsp := ek hsp; have B02 := ek b02
 clear e0 e1 e2 b1 b2 hsp b02 hG z1 z2
 go_wp2
 go_loopw [4, 10] (fun _ i wr => SoRel w2 G N C I i wr) (fun _ i _ => N - (intOf i).toNat)
 case atStart => exact ⟨0, rfl, Nat.zero_le _, Hsp.out, fun t a b q h => (by omega), Below.refl _ _⟩
 case round =>
  clear hmk
  obtain ⟨j, rfl, hj, hsb, his, hbel⟩ := hrel
  rename World => wr
  have z3 := hbel.size
  have Hsb := ek hsb; have His := ek his; have Hbel := ek hbel
  have hbw := B02.out.trans (hbel.mono (Nat.le_of_lt hGw))
  have Y3 := ek (Y2.out.below hbel hGw)
  by_cases hlt : j < N
  ·have hjm : j + 1 < m := by have := HN.out; omega
   have ha := List.getElem?_eq_getElem (l := C) (i := j) (by rw [HCl.out]; omega)
   have hb := List.getElem?_eq_getElem (l := C) (i := j + 1) (by rw [HCl.out]; omega)
   have hq := List.getElem?_eq_getElem (l := I) (i := j) (by rw [HIC.out, HCl.out]; omega)
   obtain ⟨a, hae⟩ : ∃ a, a = C[j]'(by rw [HCl.out]; omega) := ⟨_, rfl⟩
   obtain ⟨b, hbe⟩ : ∃ b, b = C[j + 1]'(by rw [HCl.out]; omega) := ⟨_, rfl⟩
   obtain ⟨t, hte⟩ : ∃ t, t = I[j]'(by rw [HIC.out, HCl.out]; omega) := ⟨_, rfl⟩
   rw [← hae] at ha; rw [← hbe] at hb; rw [← hte] at hq
   have hso := splitOf_c E m d C D q r I g wr ((Hc.out.below hbw).more hbw.size) ((Hi.out.below hbw).more hbw.size) hm j a b t ha hb hq
   have Hso := ek hso; have Ha := ek ha; have Hb := ek hb; have Hq := ek hq
   clear hso ha hb hq hae hbe hte hsb his hbel hbw
   obtain ⟨e0, e1, e2, -, -, -, hly3⟩ := Y3.out
   go_wp2_with fail
   refine Hso.out.mono ?_
   rintro e w5 ⟨rfl, b5⟩
   have hGr := Hsb.out.lt
   have hs5 := Hsb.out.below b5 hGr
   have hi5 := His.out.keep (b5.block G hGr)
   obtain ⟨o0, ho0⟩ := hs5.ex (j * 3) (by omega)
   obtain ⟨o1, ho1⟩ := hs5.ex (j * 3 + 1) (by omega)
   obtain ⟨o2, ho2⟩ := hs5.ex (j * 3 + 2) (by omega)
   have f0 := hs5.fr (j * 3)
   have f1 := hs5.fr (j * 3 + 1)
   have f2 := hs5.fr (j * 3 + 2)
   obtain ⟨w6, hw6⟩ : ∃ w6, w6 = put3o w5 G (j * 3) (.int .i64 (a : Int)) (.int .i64 (b : Int)) (.bool t) := ⟨_, rfl⟩
   have hs6 := hs5.put (j * 3) (by omega) (.int .i64 (a : Int)) (.int .i64 (b : Int)) (.bool t)
   have hi6 := hi5.next hs5 hlt Ha.out Hb.out Hq.out
   have hb6 := put3o_below w5 G (j * 3) (.int .i64 (a : Int)) (.int .i64 (b : Int)) (.bool t)
   rw [← hw6] at hs6 hi6 hb6
   have bb := Hbel.out.trans ((b5.mono (Nat.le_of_lt hGr)).trans hb6)
   have Hs6 := ek hs6; have Hi6 := ek hi6; have BB := ek bb; have W6 := ek hw6
   clear e0 e1 e2 b5 hs5 hi5 hs6 hi6 hb6 bb hw6 hly3
   go_wp2
   change SoRel w2 G N C I _ (put3o w5 G (j * 3) _ _ _) ∧ _
   rw [← W6.out]
   refine ⟨⟨j + 1, by go_num, hlt, Hs6.out, Hi6.out, BB.out⟩, ?_⟩
   simp [intOf]
   omega
  ·have hjN : j = N := by omega
   subst hjN
   clear hsb his hbel
   have HN2 := HN
   go_wp2
   go_ret
   exact ⟨G, rfl, by omega, Hsb.out, His.out, hbw⟩
def Xq (gf B : Nat) (w w' : World) : Prop := w.heap.size ≤ w'.heap.size ∧ ∀ g, g ≠ gf → g < B → w'.heap[g]? = w.heap[g]?
theorem Xq.refl (gf B : Nat) (w : World) : Xq gf B w w := ⟨Nat.le_refl _, fun _ _ _ => rfl⟩
theorem Xq.of {gf B B' : Nat} {w w' : World} (h : Below B' w w') (hB : B ≤ B') : Xq gf B w w' := ⟨h.size, fun g _ h2 => h.block g (Nat.lt_of_lt_of_le h2 hB)⟩
theorem Xq.trans {gf B : Nat} {a b c : World} (h : Xq gf B a b) (k : Xq gf B b c) : Xq gf B a c := ⟨Nat.le_trans h.1 k.1, fun g h1 h2 => (k.2 g h1 h2).trans (h.2 g h1 h2)⟩
theorem Xq.less {gf B B' : Nat} {w w' : World} (h : Xq gf B w w') (hB : B' ≤ B) : Xq gf B' w w' := ⟨h.1, fun g h1 h2 => h.2 g h1 (Nat.lt_of_lt_of_le h2 hB)⟩
theorem Xq.cell {gf B : Nat} {w w' : World} (h : Xq gf B w w') (p : Addr) (h1 : p.block ≠ gf) (h2 : p.block < B) : w'.cell? p = w.cell? p := by
 have := h.2 p.block h1 h2
 unfold World.cell?
 rw [this]
theorem Xq.set (w : World) (gf : Nat) (v : Value) (B : Nat) : Xq gf B w (w.setCell ⟨gf, 0,none⟩ v) :=
 ⟨by simp, fun g h1 _ => Below.heap_setCell w _ v g h1⟩
theorem St.xq {B0 B Z gf : Nat} {wz W W' : World} (h : St B0 B Z wz W) (x : Xq gf W.heap.size W W') (hB0 : B0 ≤ gf) (hB : gf < B) (hBW : B ≤ W.heap.size) : St B0 B Z wz W' :=
 ⟨Nat.le_trans h.1 x.1, fun g hg => (x.2 g (by omega) (by have := h.1; omega)).trans (h.2 g hg)⟩
theorem whole1_c (f k : Int) (l : List UInt8) (n B0 B : Nat) (wz W : World) (fa : Nat) (ca : Array Value) (hent : Ent fa)
  (hcall : ∀ W, St B0 B wz.heap.size wz W → ∀ x y : Nat, x < y → y ≤ n → Calls Tryz.prog fa (#[.agg #[.int .i64 (x : Int), .int .i64 (y : Int), .bool (inF f l (x : Int))]] ++ ca) W (RetRn B wz.heap.size W (rdP (scF f k l).1 x y) (told f (scF f k l).2.1 (scF f k l).2.2 x y)))
  (hst : St B0 B wz.heap.size wz W) (gr gf : Nat) (hgr : W.cell? ⟨gr, 0,none⟩ = some (fv fa ca)) (V : Nat) (hgf : W.cell? ⟨gf, 0,none⟩ = some (.int .i64 (V : Int))) (hff : W.frozen? ⟨gf, 0,none⟩ = false)
  (hB0 : B0 ≤ gf) (hgfB : gf < B) (hBZ : B ≤ wz.heap.size) (x y : Nat) (hxy : x < y) (hyn : y ≤ n) (t : Bool) (ht : t = inF f l (x : Int)) :
  Calls Tryz.prog 34 #[.agg #[.int .i64 (x : Int), .int .i64 (y : Int), .bool t], .pointer (some ⟨gr, 0,none⟩), .pointer (some ⟨gf, 0,none⟩)] W fun e w' =>
   ∃ A c, e = .returned (.slice A (rdP (scF f k l).1 x y).length c) ∧ RLS w' (Nr B wz.heap.size W w') A (rdP (scF f k l).1 x y).length c (rdP (scF f k l).1 x y) ∧
    w'.cell? ⟨gf, 0,none⟩ = some (.int .i64 ((if V = 0 then told f (scF f k l).2.1 (scF f k l).2.2 x y else V : Nat) : Int)) ∧ w'.frozen? ⟨gf, 0,none⟩ = false ∧ Xq gf W.heap.size W w' ∧ Below gf W w' := by
 have hgfl : gf < W.heap.size := World.block_lt_of_cell? W _ hgf
 have hgrl : gr < W.heap.size := World.block_lt_of_cell? W _ hgr
 obtain ⟨w0, hw0⟩ : ∃ w0, w0 = W.alloc (.cells #[.int .i64 (x : Int), .int .i64 (y : Int), .bool t] 64) := ⟨_, rfl⟩
 have b0 : Below W.heap.size W w0 := by rw [hw0]; exact ej _ _
 have x0 : Bx w0 W.heap.size (.int .i64 (x : Int)) (.int .i64 (y : Int)) (.bool t) := by rw [hw0]; exact Bx.made _ _ _ _ _
 have hc := hcall w0 (hst.step (by omega) b0) x y hxy hyn
 rw [← ht] at hc
 obtain ⟨R, hR⟩ : ∃ R, R = rdP (scF f k l).1 x y := ⟨_, rfl⟩
 obtain ⟨U, hU⟩ : ∃ U, U = told f (scF f k l).2.1 (scF f k l).2.2 x y := ⟨_, rfl⟩
 rw [← hR, ← hU] at hc ⊢
 have hgr0 : w0.cell? ⟨gr, 0,none⟩ = some (fv fa ca) := (b0.cell (p := ⟨gr, 0,none⟩) hgrl).trans hgr
 have hgf0 : w0.cell? ⟨gf, 0,none⟩ = some (.int .i64 (V : Int)) := (b0.cell (p := ⟨gf, 0,none⟩) hgfl).trans hgf
 have hff0 : w0.frozen? ⟨gf, 0,none⟩ = false := by
  rw [← hff]; unfold World.frozen?; rw [b0.block gf hgfl]
 have Hc := ek hc; have W0 := ek hw0; have B0' := ek b0; have Hgf0 := ek hgf0; have Hff0 := ek hff0; have HZW := ek hst.1
 have z0 := b0.size
 obtain ⟨c0, c1, c2, -, -, -, -⟩ := x0
 clear hcall hst hgr hgf hff hw0 b0 hc ht hR hU hgf0 hff0
 go_enter Tryz.func34, Tryz.ntmps34
 go_wp2_with (rw [← W0.out])
 rw [hent, Oper.upon_enter]
 refine Hc.out.mono ?_
 rintro e w1 ⟨A1, c1', rfl, h1, b1⟩
 have z1 := b1.size
 have hgf1 : w1.cell? ⟨gf, 0,none⟩ = some (.int .i64 (V : Int)) := (b1.cell (p := ⟨gf, 0,none⟩) (by show gf < _; omega)).trans Hgf0.out
 have hff1 : w1.frozen? ⟨gf, 0,none⟩ = false := by
  rw [← Hff0.out]; unfold World.frozen?; rw [b1.block gf (by omega)]
 have b01 := B0'.out.trans (b1.mono z0)
 have h1' : RLS w1 (Nr B wz.heap.size W w1) A1 R.length c1' R := h1.keep (stays_weak fun b hb => ⟨hb.1, hb.2.1.imp id (fun h => by omega), hb.2.2⟩)
 have H1 := ek h1'; have B01 := ek b01; have Hff1 := ek hff1; have Hgf1 := ek hgf1
 clear h1 h1' b1 b01 c0 c1 c2 hgr0
 by_cases hV : V = 0
 ·subst hV
  obtain ⟨w2, hw2⟩ : ∃ w2, w2 = w1.setCell ⟨gf, 0,none⟩ (.int .i64 (U : Int)) := ⟨_, rfl⟩
  have k2 : w2.cell? ⟨gf, 0,none⟩ = some (.int .i64 (U : Int)) := by rw [hw2]; exact World.cell?_setCell_same w1 _ _ hgf1
  have f2 : w2.frozen? ⟨gf, 0,none⟩ = false := by rw [hw2]; simp [Hff1.out]
  have q2 : Xq gf W.heap.size W w2 := (Xq.of B01.out (Nat.le_refl _)).trans (by rw [hw2]; exact Xq.set _ _ _ _)
  have b2 : Below gf W w2 := (B01.out.mono (Nat.le_of_lt hgfl)).trans (by rw [hw2]; exact (Below.refl gf w1).setCell (Nat.le_refl _) _)
  have r2 : RLS w2 (Nr B wz.heap.size W w2) A1 R.length c1' R := H1.out.keep ⟨fun b hb => ⟨hb.1, hb.2.1, by rw [hw2]; simpa using hb.2.2⟩, fun p hp => by
   rw [hw2]
   exact World.cell?_setCell_other w1 _ _ _ (fun e => by subst e; have h : B ≤ gf := hp.1; omega)⟩
  have K2 := ek k2; have F2 := ek f2; have Q2 := ek q2; have B2 := ek b2; have R2 := ek r2; have W2 := ek hw2
  clear k2 f2 q2 b2 r2 hw2
  go_wp2
  rw [← W2.out]
  go_ret
  exact ⟨A1, c1', rfl, R2.out, K2.out, F2.out, Q2.out, B2.out⟩
 ·have d1 : ((V : Int) == 0) = false := by rw [beq_eq_false_iff_ne]; omega
  have d2 : (V == 0) = false := by rw [beq_eq_false_iff_ne]; omega
  go_wp2
  go_ret
  exact ⟨A1, c1', rfl, H1.out, Hgf1.out, Hff1.out, Xq.of B01.out (Nat.le_refl _), B01.out.mono (Nat.le_of_lt hgfl)⟩
def WqRel (B gf : Nat) (w : World) (f : Int) (G X : Nat) (P : List (Nat × List (List (List UInt8)))) (C : List Nat) (o i : Value) (wr : World) : Prop :=
 ∃ A c vs, ∃ j a : Nat, o = .slice A (rdP P 0 a).length c ∧ i = .int .i64 (j : Int) ∧ C[j]? = some a ∧ wr.cell? ⟨gf, 0,none⟩ = some (.int .i64 ((toldW f G X j a : Nat) : Int)) ∧ wr.frozen? ⟨gf, 0,none⟩ = false ∧
  Oc 1 wr 77 w.heap.size A (rdP P 0 a).length c vs ∧ RrsS wr (Sf B wr A) vs (rdP P 0 a) ∧ Xq gf w.heap.size w wr ∧ Below gf w wr
theorem oc_xq {w w' : World} {e : TypeId} {base n c B gf : Nat} {A : Option Addr} {vs : List Value} (h : Oc 1 w e base A n c vs) (x : Xq gf B w w') (hB : w.heap.size ≤ B) (hb : gf < base) : Oc 1 w' e base A n c vs :=
 Oc.other h fun g hA => x.2 g (by have := (oc_ob h g (by rw [hA]; rfl)).1; omega) (by have := (oc_ob h g (by rw [hA]; rfl)).2; omega)
theorem sf_xq {w w' : World} {B gf : Nat} {A : Option Addr} (x : Xq gf w.heap.size w w') (hb : gf < B) : Stays w w' (Sf B w A) (Sf B w' A) :=
 ⟨fun _ ⟨h1, h2, h3⟩ => ⟨h1, Nat.lt_of_lt_of_le h2 x.1, h3⟩, fun p ⟨h1, h2, _⟩ => x.cell p (by omega) h2⟩
theorem collectS_c (f k : Int) (l : List UInt8) (n B0 B : Nat) (wz w : World) (fa : Nat) (ca : Array Value) (hent : Ent fa)
  (hcall : ∀ W, St B0 B wz.heap.size wz W → ∀ x y : Nat, x < y → y ≤ n → Calls Tryz.prog fa (#[.agg #[.int .i64 (x : Int), .int .i64 (y : Int), .bool (inF f l (x : Int))]] ++ ca) W (RetRn B wz.heap.size W (rdP (scF f k l).1 x y) (told f (scF f k l).2.1 (scF f k l).2.2 x y)))
  (hst : St B0 B wz.heap.size wz w) (gr gf gs : Nat) (hgr : w.cell? ⟨gr, 0,none⟩ = some (fv fa ca)) (hgf : w.cell? ⟨gf, 0,none⟩ = some (.int .i64 0)) (hff : w.frozen? ⟨gf, 0,none⟩ = false) (hrf : gr ≠ gf) (hsf : gs ≠ gf)
  (hB0 : B0 ≤ gf) (hgfB : gf < B) (hBZ : B ≤ wz.heap.size) (N : Nat) (C : List Nat) (I : List Bool) (hcu : Cu n C) (hCl : C.length = N + 1) (hI : I = insF f l C) (hsb : Spb w gs N) (his : SpIs w gs C I N) (hN : N ≤ 9000000)
  (hasc : Asc 0 n ((scF f k l).1.map (·.1))) (hall : (Tm.all (scF f k l).1).length ≤ 50000000) :
  Calls Tryz.prog 32 #[.slice (some ⟨gs, 0,none⟩) N N, .func (.func 34) #[] #[.pointer (some ⟨gr, 0,none⟩), .pointer (some ⟨gf, 0,none⟩)]] w fun e w' =>
   ∃ A c, e = .returned (.slice A (Tm.all (scF f k l).1).length c) ∧ RL w' w'.heap.size A (Tm.all (scF f k l).1).length c (Tm.all (scF f k l).1) ∧ w'.cell? ⟨gf, 0,none⟩ = some (.int .i64 ((toldW f (scF f k l).2.1 (scF f k l).2.2 N n : Nat) : Int)) ∧ Below gf w w' := by
 have hBw : B ≤ w.heap.size := by have := hst.1; omega
 have hZw := hst.1
 have hgrl : gr < w.heap.size := World.block_lt_of_cell? w _ hgr
 have hgsl := hsb.lt
 have hw1 := fun (W : World) (hq : Xq gf w.heap.size w W) (W5 : World) (b5 : Below W.heap.size W W5) (V : Nat) (hgf : W.cell? ⟨gf, 0,none⟩ = some (.int .i64 (V : Int))) (hff : W.frozen? ⟨gf, 0,none⟩ = false) (x y : Nat) (hxy : x < y) (hyn : y ≤ n) =>
  whole1_c f k l n B0 B wz W5 fa ca hent hcall ((hst.xq hq hB0 hgfB hBw).step (by omega) b5) gr gf ((b5.cell (p := ⟨gr, 0,none⟩) (Nat.lt_of_lt_of_le hgrl hq.1)).trans ((hq.cell ⟨gr, 0,none⟩ hrf hgrl).trans hgr)) V ((b5.cell (p := ⟨gf, 0,none⟩) (World.block_lt_of_cell? W _ hgf)).trans hgf)
   (by rw [← hff]; unfold World.frozen?; rw [b5.block gf (World.block_lt_of_cell? W _ hgf)]) hB0 hgfB hBZ x y hxy hyn _ rfl
 have hins : ∀ (j a : Nat), C[j]? = some a → I[j]? = some (inF f l (a : Int)) := fun j a h => by rw [hI]; exact insF_at h
 obtain ⟨P, hPe⟩ : ∃ P, P = (scF f k l).1 := ⟨_, rfl⟩
 obtain ⟨G, hGe⟩ : ∃ G, G = (scF f k l).2.1 := ⟨_, rfl⟩
 obtain ⟨X, hXe⟩ : ∃ X, X = (scF f k l).2.2 := ⟨_, rfl⟩
 rw [← hPe, ← hGe, ← hXe] at hw1
 rw [← hPe] at hasc hall
 rw [← hPe, ← hGe, ← hXe]
 obtain ⟨U, hU⟩ : ∃ U, U = toldW f G X N n := ⟨_, rfl⟩
 obtain ⟨R, hR⟩ : ∃ R, R = Tm.all P := ⟨_, rfl⟩
 rw [← hU, ← hR]
 have hpos := cu_pos hcu
 have HU := ek hU; have HR := ek hR; have Hw1 := ek hw1; have Hins := ek hins; have Hall := ek hall; have Hasc := ek hasc; have Hcu := ek hcu; have HCl := ek hCl; have Hsb := ek hsb; have His := ek his; have Hgf := ek hgf; have Hff := ek hff; have Hpos := ek hpos; have HBw := ek hBw; have HZw := ek hZw
 have hgfw : gf < w.heap.size := by omega
 clear hst hcall hent hw1 hU hR hins hall hasc hcu hCl hsb his hgr hgf hff hPe hGe hXe hI hpos hZw
 go_enter Tryz.func32, Tryz.ntmps32
 go_wp2
 go_loopw [5, 7, 10] (fun o _ i wr => WqRel B gf w f G X P C o i wr) (fun _ _ i _ => N - (intOf i).toNat)
 case atStart => exact ⟨none, 0, [], 0, 0, by rw [rdP_none]; rfl, rfl, Hpos.out.2, by rw [toldW_first]; exact Hgf.out, Hff.out, by rw [rdP_none]; exact Oc.nil _ _ _ _, by rw [rdP_none]; exact RrsS.nil, Xq.refl _ _ _, Below.refl _ _⟩
 case round =>
  obtain ⟨A3, c3, vs, j, a, rfl, rfl, hja, hgf, hff, hown, hps, hxq, hbel⟩ := hrel
  rename World => wr
  have hjN : j < N + 1 := by rw [← HCl.out]; exact (List.getElem?_eq_some_iff.1 hja).1
  have z3 := hxq.1
  have Hja := ek hja; have Hown := ek hown; have Hps := ek hps; have Hgf3 := ek hgf; have Hff3 := ek hff; have Hxq := ek hxq; have Hbel := ek hbel
  clear hja hown hps hgf hff hxq hbel
  by_cases hlt : j < N
  ·obtain ⟨b, hb⟩ : ∃ b, C[j + 1]? = some b := ⟨_, List.getElem?_eq_getElem (by rw [HCl.out]; omega)⟩
   have hab := cu_two Hcu.out Hja.out hb
   have hnx := rdP_next Hasc.out 0 a b (Nat.zero_le _) (by omega)
   have htn := toldW_next f G X j a b (cu_at Hcu.out Hja.out).1 (by omega)
   have hln : (rdP P 0 b).length ≤ 50000000 := Nat.le_trans (rdP_len P 0 b) Hall.out
   rw [hnx, List.length_append] at hln
   obtain ⟨k0, k1, k2⟩ := (His.out.keep (Hxq.out.2 gs hsf hgsl)) j a b _ hlt Hja.out hb (Hins.out j a Hja.out)
   obtain ⟨t, ht⟩ : ∃ t, t = inF f l (a : Int) := ⟨_, rfl⟩
   rw [← ht] at k2
   obtain ⟨w5, hw5⟩ : ∃ w5, w5 = wr.alloc (.cells #[.int .i64 (a : Int), .int .i64 (b : Int), .bool t] 64) := ⟨_, rfl⟩
   have b5 : Below wr.heap.size wr w5 := by rw [hw5]; exact ej _ _
   have x5 : Bx w5 wr.heap.size (.int .i64 (a : Int)) (.int .i64 (b : Int)) (.bool t) := by rw [hw5]; exact Bx.made _ _ _ _ _
   obtain ⟨V, hV⟩ : ∃ V, V = toldW f G X j a := ⟨_, rfl⟩
   rw [← hV] at Hgf3
   have hc := Hw1.out wr Hxq.out w5 b5 V Hgf3.out Hff3.out a b hab.1 hab.2
   rw [← ht] at hc
   obtain ⟨T, hT⟩ : ∃ T, T = told f G X a b := ⟨_, rfl⟩
   obtain ⟨L, hL⟩ : ∃ L, L = rdP P 0 a := ⟨_, rfl⟩
   obtain ⟨K, hK⟩ : ∃ K, K = rdP P a b := ⟨_, rfl⟩
   rw [← hT, ← hK] at hc
   rw [← hT, ← hV] at htn
   rw [← htn] at hc
   rw [← hL, ← hK] at hnx hln
   rw [← hL] at Hown Hps ⊢
   have z5 := b5.size
   have hlow : ∀ g, ob A3 = some g → w.heap.size ≤ g ∧ g < wr.heap.size := fun g hg => oc_ob Hown.out g hg
   have Hc := ek hc; have Hnx := ek hnx; have Hb := ek hb; have W5 := ek hw5; have B5 := ek b5; have Hlow := ek hlow; have X5 := ek x5
   obtain ⟨m0, m1, m2, -, -, -, -⟩ := x5
   clear hc hnx hb hw5 b5 hT hV hL hK htn ht hlow
   go_wp2_with (rw [← W5.out])
   refine Hc.out.mono ?_
   rintro e w6 ⟨A5, c5, rfl, ⟨us, hu1, hu2⟩, hgf6, hff6, hxq6, hbel6⟩
   have z6 := hxq6.1
   have hown5 := Hown.out.keep B5.out
   have hown6 := oc_xq hown5 hxq6 (Nat.le_refl _) (by have := HBw.out; omega)
   have hps6 := (Hps.out.keep (sf_below B5.out)).keep (sf_xq hxq6 hgfB)
   have hps7 := hps6.append (hu2.keep (stays_weak (S' := Sf B w6 A3) fun q hq => ⟨hq.1, hq.2.2, fun e => by have h := Hlow.out q e.symm; have h2 := hq.2.1; have h3 := HZw.out; omega⟩))
   have h1 := rrs_one' hu2
   have hxq06 := Hxq.out.trans (((Xq.of B5.out z3).trans (hxq6.less (by omega))))
   have hbel06 := Hbel.out.trans ((B5.out.mono (by omega)).trans hbel6)
   have Hown6 := ek hown6; have Hps7 := ek hps7; have H1 := ek h1; have Hu := ek (show Rc 1 w6 w6.heap.size A5 K.length c5 us from (hu1.keep (stays_weak fun x hx => hx.2.2)).rc); have Hgf6 := ek hgf6; have Hff6 := ek hff6; have Hxq06 := ek hxq06; have Hbel06 := ek hbel06
   have hz6 := hxq06.1
   clear hown5 hown6 hps6 hps7 h1 hu1 hu2 hgf6 hff6 hxq6 hbel6 hxq06 hbel06 m0 m1 m2 k0 k1 k2
   go_wp2_with (at_builtin; go_must (refine Sl.wpAppAt rty rfl (.tmp 14) (.tmp 17) rfl (n := L.length) (m := K.length) (N := L.length + K.length) (ws := vs ++ us) rfl rfl Hown6.out Hu.out H1.out rfl rfl ?hs4 ?hs5 ?hs6 ?_))
   case hs4 => omega
   case hs5 => omega
   case hs6 => exact hz6
   intro A8 c8 w8 hown8 hg8
   have b8 := hg8.belowC Hown6.out hz6
   have hps8 := Hps7.out.keep (sf_grow hg8)
   have hgf8 : w8.cell? ⟨gf, 0,none⟩ = some (.int .i64 ((toldW f G X (j + 1) b : Nat) : Int)) := (b8.cell (p := ⟨gf, 0,none⟩) hgfw).trans Hgf6.out
   have hff8 : w8.frozen? ⟨gf, 0,none⟩ = false := by rw [← Hff6.out]; unfold World.frozen?; rw [b8.block gf hgfw]
   have hxq8 := Hxq06.out.trans (Xq.of b8 (Nat.le_refl _))
   have hbel8 := Hbel06.out.trans (b8.mono (Nat.le_of_lt hgfw))
   have Hown8 := ek hown8; have Hps8 := ek hps8; have Hgf8 := ek hgf8; have Hff8 := ek hff8; have Hxq8 := ek hxq8; have Hbel8 := ek hbel8
   clear hown8 hps8 hg8 hgf8 hff8 hxq8 hbel8 b8
   go_wp2
   go_roundw
   case rel => exact ⟨A8, c8, vs ++ us, j + 1, b, by rw [Hnx.out, List.length_append], by go_num, Hb.out, Hgf8.out, Hff8.out, by rw [Hnx.out, List.length_append]; exact Hown8.out, by rw [Hnx.out]; exact Hps8.out, Hxq8.out, Hbel8.out⟩
   case measure => simp [intOf]; omega
  ·have hje : j = N := by omega
   subst hje
   have han : a = n := (cu_at Hcu.out Hja.out).2 (by rw [HCl.out])
   have hRd : rdP P 0 a = R := by rw [HR.out, han]; exact rdP_all Hasc.out
   have hV : toldW f G X j a = U := by rw [HU.out, han]
   rw [hRd] at Hown Hps ⊢
   rw [hV] at Hgf3
   have hfin : RL wr wr.heap.size A3 R.length c3 R := ⟨vs, Hown.out.rc, Hps.out.keep (stays_weak fun q hq => hq.2.1)⟩
   have Hfin := ek hfin
   clear hfin hV hRd hlt
   go_wp2
   go_ret
   exact ⟨A3, c3, rfl, Hfin.out, Hgf3.out, Hbel.out⟩
theorem whole_bad (f k : Int) (A : Option Addr) (n c : Nat) (l : List UInt8) (E : Option Addr) (m d : Nat) (L : List Int) (D : Option Addr) (q r : Nat) (I : List Bool) (g : Int) (w : World) (h : Arg A n c l E m d L D q r I w) (hM : ¬ Md f k l L I g) :
  Calls Tryz.prog 13 #[flv f k A n c, plv E m d D q r g] w (RetRu w [] 1) := by
 obtain ⟨w0, hw0⟩ : ∃ w0, w0 = w.alloc (.cells #[.int .i64 f, .int .i64 k, .slice A n c] 24) := ⟨_, rfl⟩
 have z0 : w0.heap.size = w.heap.size + 1 := by rw [hw0]; simp
 have b0 : Below w.heap.size w w0 := by rw [hw0]; exact ej _ _
 have x0 : Bx w0 w.heap.size (.int .i64 f) (.int .i64 k) (.slice A n c) := by rw [hw0]; exact Bx.made _ _ _ _ _
 obtain ⟨w1, hw1⟩ : ∃ w1, w1 = w0.alloc (.cells #[.slice E m d, .slice D q r, .int .i64 g] 28) := ⟨_, rfl⟩
 have z1 : w1.heap.size = w.heap.size + 2 := by rw [hw1]; simp [z0]
 have b01 : Below w0.heap.size w0 w1 := by rw [hw1]; exact ej _ _
 have y1 : Bx w1 w0.heap.size (.slice E m d) (.slice D q r) (.int .i64 g) := by rw [hw1]; exact Bx.made _ _ _ _ _
 rw [z0] at y1
 have x1 := x0.below b01 x0.lt
 have b1 := b0.trans (b01.mono (by omega))
 have hmd := isMade_c f k A n c l E m d L D q r I g w1 (h.go b1).b h.n9 (h.go b1).cuts (h.go b1).ins (h.go b1).mx false (by simp [hM])
 have W0 := ek hw0; have W1 := ek hw1; have Z0 := ek z0; have B1 := ek b1; have Hmd := ek hmd
 obtain ⟨c0, c1, c2, -, -, -, -⟩ := x1
 obtain ⟨e0, e1, e2, -, -, -, -⟩ := y1
 clear hw0 hw1 b0 x0 b01 z0 h b1 hmd hM
 go_enter Tryz.func13, Tryz.ntmps13
 go_wp2_with (first | rw [← W0.out, ← W1.out, Z0.out] | rw [← W0.out, ← W1.out])
 refine Hmd.out.mono ?_
 rintro e w2 ⟨rfl, b2⟩
 have bb := B1.out.trans (b2.mono (by omega))
 clear c0 c1 c2 e0 e1 e2 b2
 go_wp2
 go_ret2
 exact ⟨none, 0, rfl, RLS.nil, bb⟩
theorem whole_good (f k : Int) (A : Option Addr) (n c : Nat) (l : List UInt8) (E : Option Addr) (m d : Nat) (C : List Nat) (D : Option Addr) (q r : Nat) (I : List Bool) (g : Int) (w : World) (h : Arg A n c l E m d (ic C) D q r I w) (hM : Md f k l (ic C) I g) :
  Calls Tryz.prog 13 #[flv f k A n c, plv E m d D q r g] w (RetRu w (Tm.all (scF f k l).1) (toldW f (scF f k l).2.1 (scF f k l).2.2 (m - 1) n)) := by
 have hl := h.b.len
 obtain ⟨C', hC', hcu, hF, hg, hI⟩ := id hM
 have hCC := ic_inj hC'
 subst hCC
 rw [hl] at hcu
 have hCl : C.length = m := by have := h.cuts.len1; rw [ivs_length, ic_len] at this; exact this
 have hpos := (cu_pos hcu).1
 have hasc := asc_F hF l
 rw [hl] at hasc
 have hall := all_F hF (l := l) (by have := h.n9; omega)
 have hIC : I.length = C.length := by rw [hI, insF_len]
 obtain ⟨w0, hw0⟩ : ∃ w0, w0 = w.alloc (.cells #[.int .i64 f, .int .i64 k, .slice A n c] 24) := ⟨_, rfl⟩
 have z0 : w0.heap.size = w.heap.size + 1 := by rw [hw0]; simp
 have b0 : Below w.heap.size w w0 := by rw [hw0]; exact ej _ _
 have x0 : Bx w0 w.heap.size (.int .i64 f) (.int .i64 k) (.slice A n c) := by rw [hw0]; exact Bx.made _ _ _ _ _
 obtain ⟨w1, hw1⟩ : ∃ w1, w1 = w0.alloc (.cells #[.slice E m d, .slice D q r, .int .i64 g] 28) := ⟨_, rfl⟩
 have z1 : w1.heap.size = w.heap.size + 2 := by rw [hw1]; simp [z0]
 have b01 : Below w0.heap.size w0 w1 := by rw [hw1]; exact ej _ _
 have y1 : Bx w1 w0.heap.size (.slice E m d) (.slice D q r) (.int .i64 g) := by rw [hw1]; exact Bx.made _ _ _ _ _
 rw [z0] at y1
 have x1 := x0.below b01 x0.lt
 have b1 := b0.trans (b01.mono (by omega))
 have hmd := isMade_c f k A n c l E m d (ic C) D q r I g w1 (h.go b1).b h.n9 (h.go b1).cuts (h.go b1).ins (h.go b1).mx true (by simp [hM])
 have hrd := fun W (hb : Below w.heap.size w W) => readerOf_c f k A n c l w.heap.size W (h.b.below hb) hb.size h.mx.2 h.n9 hF (h.mx.below' hb)
 have hso := fun W (hb : Below w.heap.size w W) => splitsOf_c E m d C D q r I g W (h.go hb).cuts (h.go hb).ins h.m9 hIC
 rw [← hg] at hrd
 have hco := fun (wz W : World) (fa : Nat) (ca : Array Value) (B gr gf gs : Nat) (hent : Ent fa) (hcall) (hst : St w.heap.size B wz.heap.size wz W) (hgr) (hgf) (hff) (hrf : gr ≠ gf) (hsf : gs ≠ gf) (hB0 : w.heap.size ≤ gf) (hgfB : gf < B) (hBZ : B ≤ wz.heap.size) (hsb) (his) =>
  collectS_c f k l n w.heap.size B wz W fa ca hent hcall hst gr gf gs hgr hgf hff hrf hsf hB0 hgfB hBZ (m - 1) C I hcu (by omega) hI hsb his (by have := h.m9; omega) hasc hall
 obtain ⟨U, hU⟩ : ∃ U, U = toldW f (scF f k l).2.1 (scF f k l).2.2 (m - 1) n := ⟨_, rfl⟩
 obtain ⟨R, hR⟩ : ∃ R, R = Tm.all (scF f k l).1 := ⟨_, rfl⟩
 simp only [← hU, ← hR] at hco
 rw [← hU, ← hR]
 have W0 := ek hw0; have W1 := ek hw1; have X1 := ek x1; have Y1 := ek y1; have Z0 := ek z0; have B1 := ek b1; have Hmd := ek hmd; have Hrd := ek hrd; have Hso := ek hso; have Hco := ek hco
 have hlx := x1.lt
 have hly := y1.lt
 obtain ⟨c0, c1, c2, -, -, -, -⟩ := x1
 obtain ⟨e0, e1, e2, -, -, -, -⟩ := y1
 clear hw0 hw1 b0 x0 b01 z0 h b1 hmd hrd hso hco hM hC' hcu hF hg hI hCl hasc hall hIC hU hR hpos
 go_enter Tryz.func13, Tryz.ntmps13
 go_wp2_with (first | rw [← W0.out, ← W1.out, Z0.out] | rw [← W0.out, ← W1.out])
 refine Hmd.out.mono ?_
 rintro e w2 ⟨rfl, b2⟩
 have z2 := b2.size
 obtain ⟨w3, hw3⟩ : ∃ w3, w3 = w2.alloc (.cells #[.int .i64 0] 31) := ⟨_, rfl⟩
 have b3 : Below w2.heap.size w2 w3 := by rw [hw3]; exact ej _ _
 have z3 : w3.heap.size = w2.heap.size + 1 := by rw [hw3]; simp
 have g3 : w3.cell? ⟨w2.heap.size, 0,none⟩ = some (.int .i64 0) := by rw [hw3]; simp
 have f3 : w3.frozen? ⟨w2.heap.size, 0,none⟩ = false := by rw [hw3]; simp
 have b23 := b2.trans (b3.mono z2)
 have x3 := X1.out.below b23 hlx
 have y3 := Y1.out.below b23 hly
 have B3 := ek (B1.out.trans (b23.mono (by omega)))
 have W3 := ek hw3; have G3 := ek g3; have F3' := ek f3; have X3 := ek x3; have Y3 := ek y3
 have hlx3 := x3.lt
 have hly3 := y3.lt
 have Z3 := ek z3
 rw [hw3] at x3 y3
 clear c0 c1 c2 e0 e1 e2 b2 b3 b23 hw3 g3 f3 z3
 obtain ⟨c0, c1, c2, -, -, -, -⟩ := x3
 obtain ⟨e0, e1, e2, -, -, -, -⟩ := y3
 go_wp2_with fail
 rw [← W3.out]
 refine (Hrd.out w3 B3.out).mono ?_
 rintro e w4 ⟨v, rfl, ⟨fa, ca, rfl, hent, hcall⟩, b4⟩
 have z4 := b4.size
 obtain ⟨w5, hw5⟩ : ∃ w5, w5 = w4.alloc (.cells #[fv fa ca] 61) := ⟨_, rfl⟩
 have b5 : Below w4.heap.size w4 w5 := by rw [hw5]; exact ej _ _
 have z5 : w5.heap.size = w4.heap.size + 1 := by rw [hw5]; simp
 have g5 : w5.cell? ⟨w4.heap.size, 0,none⟩ = some (fv fa ca) := by rw [hw5]; simp
 have b45 := b4.trans (b5.mono z4)
 have x5 := X3.out.below b45 hlx3
 have y5 := Y3.out.below b45 hly3
 have b35 := B3.out.trans (b45.mono (by omega))
 have hs5 := Hso.out w5 b35
 have W5 := ek hw5; have G5 := ek g5; have B45 := ek b45; have B5 := ek b5; have B35 := ek b35; have Hs5 := ek hs5; have Hcall := ek hcall; have Hent := ek hent; have Z5 := ek z5
 have hlt5 := b5.size
 clear c0 c1 c2 e0 e1 e2 b4 b5 b45 b35 hw5 g5 hs5 hcall hent z5
 obtain ⟨c0, c1, c2, -, -, -, -⟩ := x5
 obtain ⟨e0, e1, e2, -, -, -, -⟩ := y5
 go_wp2_with (rw [← W5.out])
 refine Hs5.out.mono ?_
 rintro e w6 ⟨gs, rfl, hgs, hsb, his, b6⟩
 have z6 := b6.size
 have hz5 := Z5.out
 have hz3 := Z3.out
 have hc6 := Hco.out w4 w6 fa ca w3.heap.size w4.heap.size w2.heap.size gs Hent.out Hcall.out (((St.refl w4).step (by omega) B5.out).step (by omega) b6) ((b6.cell (p := ⟨w4.heap.size, 0,none⟩) (by show w4.heap.size < _; omega)).trans G5.out)
  ((b6.cell (p := ⟨w2.heap.size, 0,none⟩) (by show w2.heap.size < _; omega)).trans ((B45.out.cell (p := ⟨w2.heap.size, 0,none⟩) (by show w2.heap.size < _; omega)).trans G3.out))
  (by rw [← F3'.out]; unfold World.frozen?; rw [b6.block w2.heap.size (by omega), B45.out.block w2.heap.size (by omega)])
  (by omega) (by omega) (by omega) (by omega) (by omega) hsb his
 have Hc6 := ek hc6; have B6 := ek (B35.out.trans (b6.mono (by omega)))
 clear c0 c1 c2 e0 e1 e2 b6 hsb his hc6 hz5 hz3
 go_wp2_with fail
 refine Hc6.out.mono ?_
 rintro e w7 ⟨A7, c7, rfl, h7, hgf7, b7⟩
 have bb := B6.out.trans (b7.mono (by omega))
 have H7 := ek h7
 clear h7 b7
 go_wp2_with fail
 go_quiet (fail)
 go_wp2
 go_ret2
 exact ⟨A7, c7, rfl, RLS.keep H7.out ⟨fun _ h => h, fun _ _ => rfl⟩, below_drewN bb _⟩
theorem spl : Spl where
 read_good := fun f k A n c l E m d C D q r I g w h hM j a b ha hb => (read_c f k A n c l E m d C D q r I g w h hM j a b ha hb).mono fun _ _ z => z.u
 read_bad := fun f k A n c l E m d L D q r I g w h i hi hb => read_bad f k A n c l E m d L D q r I g w h i hi hb
 whole_good := whole_good
 whole_bad := whole_bad
 all_good := fun f k A n c l w hr hn hF hx => all_c f k A n c (scF f k l).1 (scF f k l).2.1 (scF f k l).2.2 w (fun W hb => scan_ok f k A n c l W ((hr.below hb).more hb.size) hn hF (hx.below' hb)) (pcs_few hF (by have := hr.len; omega)) (all_F hF (by have := hr.len; omega))
 all_bad := fun f k A n c w hn hF => all_c f k A n c [] 0 1 w (fun W _ => (scan_err f k A n c W hn (by rw [hF]; rfl)).mono fun _ _ ⟨h0, h1⟩ => ⟨none, 0, h0, PLS.nil, h1⟩) (by simp) (by simp [Tm.all])
 count := count_c
end Go.Proofs.YtkekmokdlgocaaaGreatDoor.Pl
