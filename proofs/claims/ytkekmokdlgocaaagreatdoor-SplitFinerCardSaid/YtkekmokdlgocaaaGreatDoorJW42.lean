/-
  Joined: Spv TpF.
-/
import Derived.Test.YtkekmokdlgocaaaGreatDoorJW41
set_option maxRecDepth 100000
set_option maxHeartbeats 4000000
namespace Go.Proofs.YtkekmokdlgocaaaGreatDoor
open Go.RowKit Pl
def Pl.Near (B : Nat) (w w' : World) (x : Nat) : Prop := (x < B ∨ w.heap.size ≤ x) ∧ x < w'.heap.size
def Pl.Ns (A : Option Addr) (w : World) (x : Nat) : Prop := x < w.heap.size ∧ some x ≠ ob A
theorem Pl.ns_grow {w w' : World} {A A' : Option Addr} (hg : Grows w w' A A') : Stays w w' (Ns A w) (Ns A' w') :=
 ⟨fun b hb => ⟨Nat.lt_of_lt_of_le hb.1 hg.size, ne_grows hg hb.2 hb.1⟩, fun p hp => hg.cell p hp.1 hp.2⟩
theorem Pl.ns_below {w w' : World} {A : Option Addr} (b : Below w.heap.size w w') : Stays w w' (Ns A w) (Ns A w') :=
 ⟨fun x hx => ⟨Nat.lt_of_lt_of_le hx.1 b.size, hx.2⟩, fun p hp => b.cell hp.1⟩
theorem Pl.near_ns {w w' : World} {B n c : Nat} {A : Option Addr} {e : TypeId} {vs : List Value} (ho : Oc 1 w e B A n c vs) : ∀ x, Near B w w' x → Ns A w' x := fun x hx => ⟨hx.2, fun q => by
 have := oc_ob ho x q.symm
 have := hx.1
 omega⟩
structure Pl.SpN : Prop where
 read_near : ∀ (f k : Int) (A : Option Addr) (n c : Nat) (l : List UInt8) (E : Option Addr) (m d : Nat) (C : List Nat) (D : Option Addr) (q r : Nat) (I : List Bool) (g : Int) (w : World) (B : Nat), Arg A n c l E m d (ic C) D q r I w → B ≤ w.heap.size → Rb w B A n c l → Rc 1 w B E m d (ivs (ic C)) → Rc 1 w B D q r (lvb I) → Md f k l (ic C) I g → ∀ j a b : Nat, C[j]? = some a → C[j + 1]? = some b →
  Calls Tryz.prog 9 #[flv f k A n c, plv E m d D q r g, .int .i64 (j : Int)] w fun e w' => ∃ A' c', e = .returned (.tuple #[.slice A' (rdP (scF f k l).1 a b).length c', .int .i64 (told f (scF f k l).2.1 (scF f k l).2.2 a b : Int)]) ∧ RLS w' (Near B w w') A' (rdP (scF f k l).1 a b).length c' (rdP (scF f k l).1 a b) ∧ Below w.heap.size w w'
def Pl.FiOut (wb : World) (C C2 : List Nat) (k i : Value) (wr : World) : Prop :=
 ∃ K j a : Nat, k = .int .i64 (K : Int) ∧ i = .int .i64 (j : Int) ∧ C[j]? = some a ∧ C2[K]? = some a ∧ Below wb.heap.size wb wr
def Pl.FiIn (wb : World) (P : List (Nat × List (List (List UInt8)))) (C2 : List Nat) (a b : Nat) (o k : Value) (wr : World) : Prop :=
 ∃ A c vs, ∃ K a' : Nat, o = .slice A (rdP P a a').length c ∧ k = .int .i64 (K : Int) ∧ C2[K]? = some a' ∧ a ≤ a' ∧ a' ≤ b ∧ Oc 1 wr 77 wb.heap.size A (rdP P a a').length c vs ∧ RrsS wr (Ns A wr) vs (rdP P a a') ∧ Below wb.heap.size wb wr
theorem Pl.rdP_mem {P : List (Nat × List (List (List UInt8)))} {a b : Nat} {r : List (List UInt8)} (h : r ∈ rdP P a b) : r ∈ Tm.all P := by
 unfold rdP Tm.btw at h
 obtain ⟨p, hp, hr⟩ := List.mem_flatMap.1 h
 exact List.mem_flatMap.2 ⟨p, (List.mem_filter.1 hp).1, hr⟩
theorem splitFiner_walk' (S : Spl) (S2 : SpN) (f k : Int) (A : Option Addr) (n c : Nat) (l : List UInt8) (E : Option Addr) (m d : Nat) (cs : List Int) (E2 : Option Addr) (m2 d2 : Nat) (ms : List Int) (w : World) (hr : Rb w w.heap.size A n c l) (hc : Rc 1 w w.heap.size E m d (ivs cs)) (hc2 : Rc 1 w w.heap.size E2 m2 d2 (ivs ms)) (hx : Sq.Mx w) :
  Calls Tryz.prog 7 #[flv f k A n c, .slice E m d, .slice E2 m2 d2] w fun e w' => e = .returned (.bool true) ∧ Below w.heap.size w w' := by
 have hmax : n ≤ 9223372036854775807 := by have h2 := hr.2.1; have h3 := hr.2.2.1; unfold maxLen at h3; omega
 have hmax3 : m2 ≤ 9223372036854775807 := by have h2 := hc2.2.1; have h3 := hc2.2.2.1; unfold maxLen at h3; omega
 have hmax2 : m ≤ 9223372036854775807 := by have h2 := hc.2.1; have h3 := hc.2.2.1; unfold maxLen at h3; omega
 obtain ⟨w0, hw0⟩ : ∃ w0, w0 = w.alloc (.cells #[.int .i64 f, .int .i64 k, .slice A n c] 24) := ⟨_, rfl⟩
 have b0 : Below w.heap.size w w0 := by rw [hw0]; exact ej _ _
 have x0 : Bx w0 w.heap.size (.int .i64 f) (.int .i64 k) (.slice A n c) := by rw [hw0]; exact Bx.made _ _ _ _ _
 have z0 := b0.size
 have hx0 := hx.below b0 hx.2
 have hlt := x0.lt
 have W0 := ek hw0; have X0 := ek x0; have HS := ek S; have HS2 := ek S2; have B0 := ek b0; have Hx0 := ek hx0
 have Ha := ek (alive12_c S w0 hx0)
 have Hr := ek ((hr.below b0).more z0); have Hc := ek ((hc.below b0).more z0); have Hc2 := ek ((hc2.below b0).more z0)
 obtain ⟨c0, c1, c2, -, -, -, -⟩ := x0
 clear hw0 hx hx0 b0 S S2 hr hc hc2
 by_cases h1 : 1000 < n
 ·have dd1 : decide ((1000 : Int) < (n : Int)) = true := by simp; omega
  go_enter Tryz.func7, Tryz.ntmps7
  go_wp2_with (rw [← W0.out])
  refine Ha.out.mono ?_
  rintro e w2 ⟨rfl, b2⟩
  have bb := B0.out.trans (b2.mono z0)
  go_wp2
  go_ret
  exact ⟨rfl, bb⟩
 ·have dd1 : decide ((1000 : Int) < (n : Int)) = false := by simp; omega
  by_cases h2 : 60 < m
  ·have dd2 : decide ((60 : Int) < (m : Int)) = true := by simp; omega
   go_enter Tryz.func7, Tryz.ntmps7
   go_wp2_with (rw [← W0.out])
   refine Ha.out.mono ?_
   rintro e w2 ⟨rfl, b2⟩
   have bb := B0.out.trans (b2.mono z0)
   go_wp2
   go_ret
   exact ⟨rfl, bb⟩
  ·have dd2 : decide ((60 : Int) < (m : Int)) = false := by simp; omega
   by_cases h3 : 60 < m2
   ·have dd3 : decide ((60 : Int) < (m2 : Int)) = true := by simp; omega
    go_enter Tryz.func7, Tryz.ntmps7
    go_wp2_with (rw [← W0.out])
    refine Ha.out.mono ?_
    rintro e w2 ⟨rfl, b2⟩
    have bb := B0.out.trans (b2.mono z0)
    go_wp2
    go_ret
    exact ⟨rfl, bb⟩
   have dd3 : decide ((60 : Int) < (m2 : Int)) = false := by simp; omega
   obtain ⟨o, ho⟩ : ∃ o, o = isF f k := ⟨_, rfl⟩
   have hma := fun W => rmay_c f k A n c o (by rw [ho]; simp; omega) W
   have Hma := ek hma; have Ho := ek ho
   clear Ha hma ho
   go_enter Tryz.func7, Tryz.ntmps7
   go_wp2_with (rw [← W0.out])
   refine (plain12_c f k A n c _).mono ?_
   rintro e w1 ⟨rfl, b1⟩
   have z1 := b1.size
   go_wp2_with fail
   refine (Hma.out _).mono ?_
   rintro e w2 ⟨rfl, b2⟩
   have z2 := b2.size
   have b02 := b1.trans (b2.mono z1)
   have X2 := ek (X0.out.below b02 hlt); have B02 := ek b02
   have hlt2 : w.heap.size < w2.heap.size := by omega
   clear c0 c1 c2 b1 b2 b02
   have early : ∀ W, Below w2.heap.size w2 W → Sq.Mx W := fun W h => Hx0.out.below (B02.out.trans (h.mono (by omega))) Hx0.out.2
   have Early := ek early
   have stop : ∀ (W : World), Below w2.heap.size w2 W → Below w.heap.size w W := fun W h => B0.out.trans ((B02.out.trans (h.mono (by omega))).mono z0)
   have Stop := ek stop
   clear stop early
   cases o with
   | false =>
    go_wp2_with fail
    refine (alive12_c HS.out _ (Early.out _ (Below.refl _ _))).mono ?_
    rintro e w3 ⟨rfl, b3⟩
    have bb := Stop.out _ b3
    go_wp2
    go_ret
    exact ⟨rfl, bb⟩
   | true =>
    have hF : isF f k = true := Ho.out.symm
    obtain ⟨C, hC, hcu⟩ := isC_cu (cuts_isC n cs)
    obtain ⟨Ms, hM⟩ : ∃ M, M = C.length := ⟨_, rfl⟩
    have hMl := cu_len hcu
    rw [← hM] at hMl
    have hil : (insF f l C).length = Ms := by rw [insF_len', hM]
    have drs : Below w2.heap.size w2 w2.drew := below_drewN (Below.refl _ _) 1
    have hrW : ∀ W, Below w2.heap.size w2 W → Rb W W.heap.size A n c l := fun W h => (Hr.out.below (B02.out.trans (h.mono (by omega)))).more (by have := h.size; omega)
    obtain ⟨G, hG⟩ : ∃ G, G = (scF f k l).2.1 := ⟨_, rfl⟩
    obtain ⟨X, hX⟩ : ∃ X, X = (scF f k l).2.2 := ⟨_, rfl⟩
    obtain ⟨P, hP⟩ : ∃ P, P = (scF f k l).1 := ⟨_, rfl⟩
    obtain ⟨I, hI⟩ : ∃ I, I = insF f l C := ⟨_, rfl⟩
    have hcuts : ∀ W, Below w2.heap.size w2.drew W → Calls Tryz.prog 21 #[.int .i64 (n : Int), .slice E m d] W fun e w' => ∃ A c, e = .returned (.slice A Ms c) ∧ Rc 1 w' w'.heap.size A Ms c (ivs (ic C)) ∧ Below W.heap.size W w' := fun W h => by
     have hB := drs.trans h
     have := cuts_c E n m d w0.heap.size cs W (Hc.out.below (B02.out.trans (hB.mono (by omega)))) (by have := hB.size; omega) (by omega)
     rw [hC] at this
     refine this.mono fun e w' ⟨A1, c1, h1, h2, h3⟩ => ?_
     rw [ic_len, ← hM] at h1 h2
     exact ⟨A1, c1, h1, h2.rc, h3⟩
    have hmk : ∀ W A3 a3, Below w2.heap.size w2.drew W → Rc 1 W W.heap.size A3 Ms a3 (ivs (ic C)) → Calls Tryz.prog 25 #[flv f k A n c, .slice A3 Ms a3] W fun e w' => ∃ A c D d, e = .returned (.tuple #[plv A Ms c D Ms d (G : Int), .int .i64 0]) ∧ RcS 1 w' (Fr W.heap.size w') A Ms c (ivs (ic C)) ∧ RcS 1 w' (Fr W.heap.size w') D Ms d (lvb I) ∧ Below W.heap.size W w' := fun W A3 a3 h h3 => by
     have hB := drs.trans h
     have := make_ok f k A n c l A3 Ms a3 C W (hrW W hB) (by omega) h3 hcu hF (Early.out W hB)
     unfold RetPl at this
     rw [hil, ← hM, ← hG, ← hI] at this
     exact this
    have hMd : Md f k l (ic C) I (G : Int) := ⟨C, rfl, by rw [Hr.out.len]; exact hcu, hF, by rw [hG], hI⟩
    have hasc := asc_F hF l
    rw [Hr.out.len, ← hP] at hasc
    have hall := fun (W : World) (h : Below w2.heap.size w2 W) => HS.out.all_good f k A n c l W (hrW W h) (by omega) hF (Early.out W h)
    have hrd := fun (A4 : Option Addr) (a4 : Nat) (D4 : Option Addr) (d4 : Nat) (W : World) (h : Arg A n c l A4 Ms a4 (ic C) D4 Ms d4 I W) (j a b : Nat) (ha : C[j]? = some a) (hb : C[j + 1]? = some b) => HS.out.read_good f k A n c l A4 Ms a4 C D4 Ms d4 I (G : Int) W h hMd j a b ha hb
    have hA := all_F hF (l := l) (by rw [Hr.out.len]; omega)
    have hRs := recs_F f k l
    rw [← hP, ← hX] at hall
    rw [← hP, ← hG, ← hX] at hrd
    rw [← hP] at hA hRs
    obtain ⟨R, hR⟩ : ∃ R, R = Tm.all P := ⟨_, rfl⟩
    rw [← hR] at hall hA hRs
    have hpos := (cu_pos hcu).2
    have Hcutss := ek hcuts; have Hmks := ek hmk; have HrW := ek hrW; have Hasc := ek hasc; have Hall := ek hall; have Hrd := ek hrd; have HRs := ek hRs; have HR := ek hR; have Hcu := ek hcu; have HM := ek hM; have Hpos := ek hpos; have HG := ek hG; have HX := ek hX; have HP := ek hP; have HC := ek hC; have HA := ek hA
    have F0s := ek (show w2.drew.cell? ⟨w.heap.size, 0, none⟩ = _ from X2.out.c0); have F1s := ek (show w2.drew.cell? ⟨w.heap.size, 1, none⟩ = _ from X2.out.c1); have F2s := ek (show w2.drew.cell? ⟨w.heap.size, 2, none⟩ = _ from X2.out.c2)
    have Drs := ek drs
    clear hcuts hmk hrW hasc hall hrd hRs hR hcu hM hMd hF hC hG hX hP hI hil drs hpos
    obtain ⟨c0, c1, c2, -, -, -, -⟩ := X2.out
    go_upto_region 3 with fail
    refine region_via (α := Nat × Option Addr × Nat × Option Addr × Nat × Option Addr × Nat) (fun x a => Act.put (Act.put (Act.put (Act.put (Act.put (Act.put (Act.put (Act.put (Act.put (Act.put (Act.put (Act.put (a) (some 40) (flv f k A n c)) (some 41) (.pointer (some ⟨w.heap.size, 2, none⟩))) (some 42) (.slice A n c)) (some 43) (.int .i64 (n : Int))) (some 44) (.slice E m d)) (some 45) (.slice x.2.1 Ms x.2.2.1)) (some 46) (.tuple #[plv x.2.2.2.1 Ms x.2.2.2.2.1 x.2.2.2.2.2.1 Ms x.2.2.2.2.2.2 (G : Int), .int .i64 0])) (some 39) (.tuple #[plv x.2.2.2.1 Ms x.2.2.2.2.1 x.2.2.2.2.2.1 Ms x.2.2.2.2.2.2 (G : Int), .int .i64 0])) (some 47) (plv x.2.2.2.1 Ms x.2.2.2.2.1 x.2.2.2.2.2.1 Ms x.2.2.2.2.2.2 (G : Int))) (some 48) (.int .i64 0)) (some 7) (.pointer (some ⟨x.1, 0, none⟩))) (some 8) (.int .i64 0)) (fun x w' => Bx w' x.1 (.slice x.2.2.2.1 Ms x.2.2.2.2.1) (.slice x.2.2.2.2.2.1 Ms x.2.2.2.2.2.2) (.int .i64 (G : Int)) ∧ Rc 1 w' w'.heap.size x.2.2.2.1 Ms x.2.2.2.2.1 (ivs (ic C)) ∧ Rc 1 w' w'.heap.size x.2.2.2.2.2.1 Ms x.2.2.2.2.2.2 (lvb I) ∧ Below w2.heap.size w2.drew w') ?_ ?_
    ·refine wp_region_tree (Below w2.heap.size) (Below.refl _) (fun _ _ _ => Below.trans) (.read 0 (.read 1 (.read 2 (.read 3 (.read 4 (.two 5 10 (.two 6 10 (.read 7 (.read 8 (.read 9 (.alone 10 (.alone 11 (.read 12 (.done))))))) (.alone 6 (.read 7 (.read 8 (.read 9 (.alone 11 (.read 12 (.done)))))))) (.alone 5 (.alone 6 (.read 7 (.read 8 (.read 9 (.alone 11 (.read 12 (.done)))))))))))))) (by kernel_rfl) (by kernel_rfl) (by kernel_rfl) (by kernel_rfl) (fun _ _ _ _ _ h => nomatch h.1) ?_
     obtain ⟨s0, hs0⟩ : ∃ s, s = w2.drew := ⟨_, rfl⟩
     have Cs := ek (show Below w2.heap.size w2.drew s0 by rw [hs0]; exact Below.refl _ _)
     rw [← hs0]
     have Hs0 := ek hs0
     clear hs0 c0 c1 c2
     refine wpS_read (o := ⟨some 40, .load 24 (.tmp 3), 24, "law.go:105", #[], none⟩) (v := flv f k A n c) rfl (by rfl) ?_ ?_
     ·intro w' hw'; have hb := Cs.out.trans hw'; have q0 := (hb.cell (p := ⟨w.heap.size, 0, none⟩) hlt2).trans F0s.out; have q1 := (hb.cell (p := ⟨w.heap.size, 1, none⟩) hlt2).trans F1s.out; have q2 := (hb.cell (p := ⟨w.heap.size, 2, none⟩) hlt2).trans F2s.out; go_simp
     try simp only [Act.put, ep, eh, ei]
     refine wpS_read (o := ⟨some 41, .fieldAddr 24 (.tmp 3) 2, 0, "law.go:105", #[], none⟩) (v := .pointer (some ⟨w.heap.size, 2, none⟩)) rfl (by rfl) ?_ ?_
     ·intro w' _; go_simp
     try simp only [Act.put, ep, eh, ei]
     refine wpS_read (o := ⟨some 42, .load 22 (.tmp 41), 22, "law.go:105", #[⟨1, .data⟩], none⟩) (v := .slice A n c) rfl (by rfl) ?_ ?_
     ·intro w' hw'; have hb := Cs.out.trans hw'; have q2 := (hb.cell (p := ⟨w.heap.size, 2, none⟩) hlt2).trans F2s.out; go_simp
     try simp only [Act.put, ep, eh, ei]
     refine wpS_read (o := ⟨some 43, .call { callee := .builtin .len, args := #[.tmp 42], argTypes := #[22] }, 3, "law.go:105", #[⟨2, .data⟩], none⟩) (v := .int .i64 (n : Int)) rfl (by rfl) ?_ ?_
     ·intro w' _; go_simp
     try simp only [Act.put, ep, eh, ei]
     refine wpS_read (o := ⟨some 44, .move (.tmp 1), 25, "law.go:105", #[], none⟩) (v := .slice E m d) rfl (by rfl) ?_ ?_
     ·intro w' _; go_simp
     try simp only [Act.put, ep, eh, ei]
     refine wpS_two ?_ ?_
     refine stS_call (o := ⟨some 45, .call { callee := .value (.func 21), args := #[.tmp 43, .tmp 44], argTypes := #[3, 25] }, 25, "law.go:105", #[⟨3, .data⟩, ⟨4, .data⟩], none⟩) rfl (by rfl) (fun K' hK => ?_)
     go_simp
     go_at_call 21
     with_reducible refine (Hcutss.out s0 Cs.out).mono ?_
     rintro e s1 ⟨A3s, a3s, rfl, h3, ys1⟩
     have Cx_ := Cs
     have Cs := ek (Cs.out.trans (ys1.mono Cs.out.size))
     have KRs := ek h3
     refine hK _ _ (ys1.mono (Nat.le_trans (Nat.le_refl _) Cx_.out.size)) ?_
     clear hK K' h3 ys1
     try simp only [Act.put, ep, eh, ei]
     refine wpS_two ?_ ?_
     refine stS_call (o := ⟨some 46, .call { callee := .value (.func 25), args := #[.tmp 40, .tmp 45], argTypes := #[24, 25] }, 55, "law.go:105", #[⟨0, .data⟩, ⟨5, .data⟩, ⟨5, .chain⟩], none⟩) rfl (by rfl) (fun K' hK => ?_)
     go_simp
     go_at_call 25
     with_reducible refine (Hmks.out s1 A3s a3s Cs.out KRs.out).mono ?_
     rintro e s2 ⟨A4s, a4s, D4s, d4s, rfl, r4, s4, ys2⟩
     have Cx_ := Cs
     have Cs := ek (Cs.out.trans (ys2.mono Cs.out.size))
     have RAs := ek (r4.keep (stays_weak fr_lt))
     have RDs := ek (s4.keep (stays_weak fr_lt))
     refine hK _ _ (ys2.mono Cx_.out.size) ?_
     clear hK K' r4 s4 ys2
     try simp only [Act.put, ep, eh, ei]
     refine wpS_read (o := ⟨some 39, .move (.tmp 46), 55, "law.go:105", #[⟨6, .data⟩], none⟩) (v := .tuple #[plv A4s Ms a4s D4s Ms d4s (G : Int), .int .i64 0]) rfl (by rfl) ?_ ?_
     ·intro w' _; go_simp
     try simp only [Act.put, ep, eh, ei]
     refine wpS_read (o := ⟨some 47, .extract (.tmp 39) 0, 28, "law.go:105", #[⟨7, .data⟩], none⟩) (v := plv A4s Ms a4s D4s Ms d4s (G : Int)) rfl (by rfl) ?_ ?_
     ·intro w' _; go_simp
     try simp only [Act.put, ep, eh, ei]
     refine wpS_read (o := ⟨some 48, .extract (.tmp 39) 1, 31, "law.go:105", #[⟨7, .data⟩, { on := 11, ground := .gcOnly Go.Departure.lateStores }], none⟩) (v := .int .i64 0) rfl (by rfl) ?_ ?_
     ·intro w' _; go_simp
     try simp only [Act.put, ep, eh, ei]
     refine wpS_alone ?_
     obtain ⟨gps, hgp⟩ : ∃ g, g = (World.heap s2).size := ⟨_, rfl⟩
     obtain ⟨s3, hnx⟩ : ∃ u, u = World.alloc s2 (.cells #[.slice none 0 0, .slice none 0 0, .int .i64 0] 28) := ⟨_, rfl⟩
     have ys3 : Below (World.heap s2).size s2 s3 := by rw [hnx]; exact ej _ _
     have BGs := ek (show Bx s3 gps (.slice none 0 0) (.slice none 0 0) (.int .i64 0) by rw [hnx, hgp]; exact Bx.made _ _ _ _ _)
     have GPs := ek (show w2.heap.size ≤ gps by rw [hgp]; exact Cs.out.size)
     have Cx_ := Cs
     have Cs := ek (Cs.out.trans (ys3.mono Cs.out.size))
     have RAs := ek (RAs.out.keep (show Stays s2 s3 (· < (World.heap s2).size) (NeS gps s3) from ⟨fun b hb => ⟨Nat.lt_of_lt_of_le hb ys3.size, by have h : b < (World.heap s2).size := hb; omega⟩, fun p hp => ys3.cell hp⟩))
     have RDs := ek (RDs.out.keep (show Stays s2 s3 (· < (World.heap s2).size) (NeS gps s3) from ⟨fun b hb => ⟨Nat.lt_of_lt_of_le hb ys3.size, by have h : b < (World.heap s2).size := hb; omega⟩, fun p hp => ys3.cell hp⟩))
     have W_ := ek hnx; have G_ := ek hgp
     refine stS_value (o := ⟨some 7, .alloc 28, 0, "law.go:105", #[], none⟩) (v := .pointer (some ⟨gps, 0, none⟩)) (w1 := s3) rfl (by rfl) ?_ ?_ ?_
     ·rw [W_.out, G_.out]; go_simp
     ·exact ys3.mono Cx_.out.size
     clear ys3 hnx hgp
     try simp only [Act.put, ep, eh, ei]
     refine wpS_alone ?_
     obtain ⟨s4, hnx⟩ : ∃ u, u = put3 s3 gps (.slice A4s Ms a4s) (.slice D4s Ms d4s) (.int .i64 (G : Int)) := ⟨_, rfl⟩
     have ys4 : Below gps s3 s4 := by rw [hnx]; exact put3_below _ _ _ _ _
     have P8s := ek (show Bx s4 gps (.slice A4s Ms a4s) (.slice D4s Ms d4s) (.int .i64 (G : Int)) by rw [hnx]; exact put3_box BGs.out _ _ _)
     have hst : Stays s3 s4 (NeS gps s3) (· < (World.heap s4).size) := ⟨fun b hb => Nat.lt_of_lt_of_le hb.1 ys4.size, fun p hp => by rw [hnx]; exact ex_put3 _ _ (p.block + 1) _ _ _ p hp.2 (by omega)⟩
     have RAs := ek (RAs.out.keep hst).rc; have RDs := ek (RDs.out.keep hst).rc
     obtain ⟨o0, o1, o2, o3, o4, o5, o6⟩ := BGs.out
     have W_ := ek hnx
     refine stS_call (o := ⟨none, .store 28 (.tmp 7) (.tmp 47), 0, "law.go:105", #[⟨10, .data⟩, ⟨8, .data⟩, ⟨6, .chain⟩, ⟨0, .phase⟩, ⟨1, .phase⟩, ⟨2, .phase⟩, ⟨3, .phase⟩, ⟨4, .phase⟩, ⟨5, .phase⟩, ⟨6, .phase⟩, ⟨7, .phase⟩, ⟨8, .phase⟩, { on := 9, ground := .textOnly Go.Departure.lateStores }, ⟨10, .phase⟩], none⟩) rfl (by rfl) (fun K' hK => ?_)
     go_simp
     change K' _ (put3 s3 gps _ _ _)
     rw [← W_.out]
     have Cs := ek (Cs.out.trans (ys4.mono GPs.out))
     refine hK _ _ (ys4.mono GPs.out) ?_
     clear hK K' o0 o1 o2 o3 o4 o5 o6 hst hnx ys4
     try simp only [Act.put, ep, eh, ei]
     refine wpS_read (o := ⟨some 8, .assign (.tmp 48), 31, "law.go:105", #[⟨9, .data⟩, ⟨11, .chain⟩, ⟨0, .phase⟩, ⟨1, .phase⟩, ⟨2, .phase⟩, ⟨3, .phase⟩, ⟨4, .phase⟩, ⟨5, .phase⟩, ⟨6, .phase⟩, ⟨7, .phase⟩, ⟨8, .phase⟩, ⟨9, .phase⟩, ⟨10, .phase⟩, ⟨11, .phase⟩], none⟩) (v := .int .i64 0) rfl (by rfl) ?_ ?_
     ·intro w' _; go_simp
     try simp only [Act.put, ep, eh, ei]
     refine wpS_done ?_
     exact ⟨rfl, (gps, A3s, a3s, A4s, a4s, D4s, d4s), (by first | rfl | simp only [Act.put, ep, eh, ei]), P8s.out, RAs.out, RDs.out, (by rw [Hs0.out]; exact Cs.out)⟩
     obtain ⟨gps, hgp⟩ : ∃ g, g = (World.heap s1).size := ⟨_, rfl⟩
     obtain ⟨s2, hnx⟩ : ∃ u, u = World.alloc s1 (.cells #[.slice none 0 0, .slice none 0 0, .int .i64 0] 28) := ⟨_, rfl⟩
     have ys2 : Below (World.heap s1).size s1 s2 := by rw [hnx]; exact ej _ _
     have BGs := ek (show Bx s2 gps (.slice none 0 0) (.slice none 0 0) (.int .i64 0) by rw [hnx, hgp]; exact Bx.made _ _ _ _ _)
     have GPs := ek (show w2.heap.size ≤ gps by rw [hgp]; exact Cs.out.size)
     have Cx_ := Cs
     have Cs := ek (Cs.out.trans (ys2.mono Cs.out.size))
     have KRs := ek ((KRs.out.below ys2).more ys2.size)
     have W_ := ek hnx; have G_ := ek hgp
     refine stS_value (o := ⟨some 7, .alloc 28, 0, "law.go:105", #[], none⟩) (v := .pointer (some ⟨gps, 0, none⟩)) (w1 := s2) rfl (by rfl) ?_ ?_ ?_
     ·rw [W_.out, G_.out]; go_simp
     ·exact ys2.mono Cx_.out.size
     clear ys2 hnx hgp
     try simp only [Act.put, ep, eh, ei]
     refine wpS_alone ?_
     refine stS_call (o := ⟨some 46, .call { callee := .value (.func 25), args := #[.tmp 40, .tmp 45], argTypes := #[24, 25] }, 55, "law.go:105", #[⟨0, .data⟩, ⟨5, .data⟩, ⟨5, .chain⟩], none⟩) rfl (by rfl) (fun K' hK => ?_)
     go_simp
     go_at_call 25
     with_reducible refine (Hmks.out s2 A3s a3s Cs.out KRs.out).mono ?_
     rintro e s3 ⟨A4s, a4s, D4s, d4s, rfl, r4, s4, ys3⟩
     have Cx_ := Cs
     have Cs := ek (Cs.out.trans (ys3.mono Cs.out.size))
     have RAs := ek (r4.keep (stays_weak (S' := NeS gps s3) fun b hb => ⟨hb.2, by have h1 : (World.heap s2).size ≤ b := hb.1; have h2 := BGs.out.lt; omega⟩))
     have RDs := ek (s4.keep (stays_weak (S' := NeS gps s3) fun b hb => ⟨hb.2, by have h1 : (World.heap s2).size ≤ b := hb.1; have h2 := BGs.out.lt; omega⟩))
     have BGs := ek (BGs.out.below ys3 BGs.out.lt)
     refine hK _ _ (ys3.mono Cx_.out.size) ?_
     clear hK K' r4 s4 ys3
     try simp only [Act.put, ep, eh, ei]
     refine wpS_read (o := ⟨some 39, .move (.tmp 46), 55, "law.go:105", #[⟨6, .data⟩], none⟩) (v := .tuple #[plv A4s Ms a4s D4s Ms d4s (G : Int), .int .i64 0]) rfl (by rfl) ?_ ?_
     ·intro w' _; go_simp
     try simp only [Act.put, ep, eh, ei]
     refine wpS_read (o := ⟨some 47, .extract (.tmp 39) 0, 28, "law.go:105", #[⟨7, .data⟩], none⟩) (v := plv A4s Ms a4s D4s Ms d4s (G : Int)) rfl (by rfl) ?_ ?_
     ·intro w' _; go_simp
     try simp only [Act.put, ep, eh, ei]
     refine wpS_read (o := ⟨some 48, .extract (.tmp 39) 1, 31, "law.go:105", #[⟨7, .data⟩, { on := 11, ground := .gcOnly Go.Departure.lateStores }], none⟩) (v := .int .i64 0) rfl (by rfl) ?_ ?_
     ·intro w' _; go_simp
     try simp only [Act.put, ep, eh, ei]
     refine wpS_alone ?_
     obtain ⟨s4, hnx⟩ : ∃ u, u = put3 s3 gps (.slice A4s Ms a4s) (.slice D4s Ms d4s) (.int .i64 (G : Int)) := ⟨_, rfl⟩
     have ys4 : Below gps s3 s4 := by rw [hnx]; exact put3_below _ _ _ _ _
     have P8s := ek (show Bx s4 gps (.slice A4s Ms a4s) (.slice D4s Ms d4s) (.int .i64 (G : Int)) by rw [hnx]; exact put3_box BGs.out _ _ _)
     have hst : Stays s3 s4 (NeS gps s3) (· < (World.heap s4).size) := ⟨fun b hb => Nat.lt_of_lt_of_le hb.1 ys4.size, fun p hp => by rw [hnx]; exact ex_put3 _ _ (p.block + 1) _ _ _ p hp.2 (by omega)⟩
     have RAs := ek (RAs.out.keep hst).rc; have RDs := ek (RDs.out.keep hst).rc
     obtain ⟨o0, o1, o2, o3, o4, o5, o6⟩ := BGs.out
     have W_ := ek hnx
     refine stS_call (o := ⟨none, .store 28 (.tmp 7) (.tmp 47), 0, "law.go:105", #[⟨10, .data⟩, ⟨8, .data⟩, ⟨6, .chain⟩, ⟨0, .phase⟩, ⟨1, .phase⟩, ⟨2, .phase⟩, ⟨3, .phase⟩, ⟨4, .phase⟩, ⟨5, .phase⟩, ⟨6, .phase⟩, ⟨7, .phase⟩, ⟨8, .phase⟩, { on := 9, ground := .textOnly Go.Departure.lateStores }, ⟨10, .phase⟩], none⟩) rfl (by rfl) (fun K' hK => ?_)
     go_simp
     change K' _ (put3 s3 gps _ _ _)
     rw [← W_.out]
     have Cs := ek (Cs.out.trans (ys4.mono GPs.out))
     refine hK _ _ (ys4.mono GPs.out) ?_
     clear hK K' o0 o1 o2 o3 o4 o5 o6 hst hnx ys4
     try simp only [Act.put, ep, eh, ei]
     refine wpS_read (o := ⟨some 8, .assign (.tmp 48), 31, "law.go:105", #[⟨9, .data⟩, ⟨11, .chain⟩, ⟨0, .phase⟩, ⟨1, .phase⟩, ⟨2, .phase⟩, ⟨3, .phase⟩, ⟨4, .phase⟩, ⟨5, .phase⟩, ⟨6, .phase⟩, ⟨7, .phase⟩, ⟨8, .phase⟩, ⟨9, .phase⟩, ⟨10, .phase⟩, ⟨11, .phase⟩], none⟩) (v := .int .i64 0) rfl (by rfl) ?_ ?_
     ·intro w' _; go_simp
     try simp only [Act.put, ep, eh, ei]
     refine wpS_done ?_
     exact ⟨rfl, (gps, A3s, a3s, A4s, a4s, D4s, d4s), (by first | rfl | simp only [Act.put, ep, eh, ei]), P8s.out, RAs.out, RDs.out, (by rw [Hs0.out]; exact Cs.out)⟩
     obtain ⟨gps, hgp⟩ : ∃ g, g = (World.heap s0).size := ⟨_, rfl⟩
     obtain ⟨s1, hnx⟩ : ∃ u, u = World.alloc s0 (.cells #[.slice none 0 0, .slice none 0 0, .int .i64 0] 28) := ⟨_, rfl⟩
     have ys1 : Below (World.heap s0).size s0 s1 := by rw [hnx]; exact ej _ _
     have BGs := ek (show Bx s1 gps (.slice none 0 0) (.slice none 0 0) (.int .i64 0) by rw [hnx, hgp]; exact Bx.made _ _ _ _ _)
     have GPs := ek (show w2.heap.size ≤ gps by rw [hgp]; exact Cs.out.size)
     have Cx_ := Cs
     have Cs := ek (Cs.out.trans (ys1.mono Cs.out.size))
     have W_ := ek hnx; have G_ := ek hgp
     refine stS_value (o := ⟨some 7, .alloc 28, 0, "law.go:105", #[], none⟩) (v := .pointer (some ⟨gps, 0, none⟩)) (w1 := s1) rfl (by rfl) ?_ ?_ ?_
     ·rw [W_.out, G_.out]; go_simp
     ·exact ys1.mono Cx_.out.size
     clear ys1 hnx hgp
     try simp only [Act.put, ep, eh, ei]
     refine wpS_alone ?_
     refine stS_call (o := ⟨some 45, .call { callee := .value (.func 21), args := #[.tmp 43, .tmp 44], argTypes := #[3, 25] }, 25, "law.go:105", #[⟨3, .data⟩, ⟨4, .data⟩], none⟩) rfl (by rfl) (fun K' hK => ?_)
     go_simp
     go_at_call 21
     with_reducible refine (Hcutss.out s1 Cs.out).mono ?_
     rintro e s2 ⟨A3s, a3s, rfl, h3, ys2⟩
     have Cx_ := Cs
     have Cs := ek (Cs.out.trans (ys2.mono Cs.out.size))
     have BGs := ek (BGs.out.below ys2 BGs.out.lt)
     have KRs := ek h3
     refine hK _ _ (ys2.mono (Nat.le_trans (Nat.le_refl _) Cx_.out.size)) ?_
     clear hK K' h3 ys2
     try simp only [Act.put, ep, eh, ei]
     refine wpS_alone ?_
     refine stS_call (o := ⟨some 46, .call { callee := .value (.func 25), args := #[.tmp 40, .tmp 45], argTypes := #[24, 25] }, 55, "law.go:105", #[⟨0, .data⟩, ⟨5, .data⟩, ⟨5, .chain⟩], none⟩) rfl (by rfl) (fun K' hK => ?_)
     go_simp
     go_at_call 25
     with_reducible refine (Hmks.out s2 A3s a3s Cs.out KRs.out).mono ?_
     rintro e s3 ⟨A4s, a4s, D4s, d4s, rfl, r4, s4, ys3⟩
     have Cx_ := Cs
     have Cs := ek (Cs.out.trans (ys3.mono Cs.out.size))
     have RAs := ek (r4.keep (stays_weak (S' := NeS gps s3) fun b hb => ⟨hb.2, by have h1 : (World.heap s2).size ≤ b := hb.1; have h2 := BGs.out.lt; omega⟩))
     have RDs := ek (s4.keep (stays_weak (S' := NeS gps s3) fun b hb => ⟨hb.2, by have h1 : (World.heap s2).size ≤ b := hb.1; have h2 := BGs.out.lt; omega⟩))
     have BGs := ek (BGs.out.below ys3 BGs.out.lt)
     refine hK _ _ (ys3.mono Cx_.out.size) ?_
     clear hK K' r4 s4 ys3
     try simp only [Act.put, ep, eh, ei]
     refine wpS_read (o := ⟨some 39, .move (.tmp 46), 55, "law.go:105", #[⟨6, .data⟩], none⟩) (v := .tuple #[plv A4s Ms a4s D4s Ms d4s (G : Int), .int .i64 0]) rfl (by rfl) ?_ ?_
     ·intro w' _; go_simp
     try simp only [Act.put, ep, eh, ei]
     refine wpS_read (o := ⟨some 47, .extract (.tmp 39) 0, 28, "law.go:105", #[⟨7, .data⟩], none⟩) (v := plv A4s Ms a4s D4s Ms d4s (G : Int)) rfl (by rfl) ?_ ?_
     ·intro w' _; go_simp
     try simp only [Act.put, ep, eh, ei]
     refine wpS_read (o := ⟨some 48, .extract (.tmp 39) 1, 31, "law.go:105", #[⟨7, .data⟩, { on := 11, ground := .gcOnly Go.Departure.lateStores }], none⟩) (v := .int .i64 0) rfl (by rfl) ?_ ?_
     ·intro w' _; go_simp
     try simp only [Act.put, ep, eh, ei]
     refine wpS_alone ?_
     obtain ⟨s4, hnx⟩ : ∃ u, u = put3 s3 gps (.slice A4s Ms a4s) (.slice D4s Ms d4s) (.int .i64 (G : Int)) := ⟨_, rfl⟩
     have ys4 : Below gps s3 s4 := by rw [hnx]; exact put3_below _ _ _ _ _
     have P8s := ek (show Bx s4 gps (.slice A4s Ms a4s) (.slice D4s Ms d4s) (.int .i64 (G : Int)) by rw [hnx]; exact put3_box BGs.out _ _ _)
     have hst : Stays s3 s4 (NeS gps s3) (· < (World.heap s4).size) := ⟨fun b hb => Nat.lt_of_lt_of_le hb.1 ys4.size, fun p hp => by rw [hnx]; exact ex_put3 _ _ (p.block + 1) _ _ _ p hp.2 (by omega)⟩
     have RAs := ek (RAs.out.keep hst).rc; have RDs := ek (RDs.out.keep hst).rc
     obtain ⟨o0, o1, o2, o3, o4, o5, o6⟩ := BGs.out
     have W_ := ek hnx
     refine stS_call (o := ⟨none, .store 28 (.tmp 7) (.tmp 47), 0, "law.go:105", #[⟨10, .data⟩, ⟨8, .data⟩, ⟨6, .chain⟩, ⟨0, .phase⟩, ⟨1, .phase⟩, ⟨2, .phase⟩, ⟨3, .phase⟩, ⟨4, .phase⟩, ⟨5, .phase⟩, ⟨6, .phase⟩, ⟨7, .phase⟩, ⟨8, .phase⟩, { on := 9, ground := .textOnly Go.Departure.lateStores }, ⟨10, .phase⟩], none⟩) rfl (by rfl) (fun K' hK => ?_)
     go_simp
     change K' _ (put3 s3 gps _ _ _)
     rw [← W_.out]
     have Cs := ek (Cs.out.trans (ys4.mono GPs.out))
     refine hK _ _ (ys4.mono GPs.out) ?_
     clear hK K' o0 o1 o2 o3 o4 o5 o6 hst hnx ys4
     try simp only [Act.put, ep, eh, ei]
     refine wpS_read (o := ⟨some 8, .assign (.tmp 48), 31, "law.go:105", #[⟨9, .data⟩, ⟨11, .chain⟩, ⟨0, .phase⟩, ⟨1, .phase⟩, ⟨2, .phase⟩, ⟨3, .phase⟩, ⟨4, .phase⟩, ⟨5, .phase⟩, ⟨6, .phase⟩, ⟨7, .phase⟩, ⟨8, .phase⟩, ⟨9, .phase⟩, ⟨10, .phase⟩, ⟨11, .phase⟩], none⟩) (v := .int .i64 0) rfl (by rfl) ?_ ?_
     ·intro w' _; go_simp
     try simp only [Act.put, ep, eh, ei]
     refine wpS_done ?_
     exact ⟨rfl, (gps, A3s, a3s, A4s, a4s, D4s, d4s), (by first | rfl | simp only [Act.put, ep, eh, ei]), P8s.out, RAs.out, RDs.out, (by rw [Hs0.out]; exact Cs.out)⟩
    ·rintro ⟨gps, A3s, a3s, A4s, a4s, D4s, d4s⟩ w3 ⟨hp3, hA3, hD3, hb3⟩
     have z3 := hb3.size
     have z3' : w2.heap.size ≤ w3.heap.size := z3
     have hlt3 : w.heap.size < w3.heap.size := by omega
     have D3 := fun (W : World) (h : Below w3.heap.size w3.drew W) => Drs.out.trans (hb3.trans (((below_drewN (Below.refl w3.heap.size w3) 1).trans h).mono z3'))
     have drt : Below w3.heap.size w3 w3.drew := below_drewN (Below.refl _ _) 1
     obtain ⟨C2, hC2, hcu2⟩ := isC_cu (cuts_isC n (cs ++ ms))
     obtain ⟨Mt, hM2⟩ : ∃ M, M = C2.length := ⟨_, rfl⟩
     have hMl2 := cu_len hcu2
     rw [← hM2] at hMl2
     have hF : isF f k = true := Ho.out.symm
     have hil2 : (insF f l C2).length = Mt := by rw [insF_len', hM2]
     obtain ⟨I2, hI2⟩ : ∃ I, I = insF f l C2 := ⟨_, rfl⟩
     have HrW3 := fun (W : World) (h : Below w3.heap.size w3.drew W) => HrW.out W (D3 W h)
     have HcT0 := fun (W : World) (h : Below w3.heap.size w3.drew W) => Hc.out.below (B02.out.trans ((D3 W h).mono (by omega)))
     have HcU0 := fun (W : World) (h : Below w3.heap.size w3.drew W) => Hc2.out.below (B02.out.trans ((D3 W h).mono (by omega)))
     have hcut2 : ∀ W A7 a7, Below w3.heap.size w3.drew W → Rc 1 W W.heap.size A7 (m + m2) a7 (ivs (cs ++ ms)) → Calls Tryz.prog 21 #[.int .i64 (n : Int), .slice A7 (m + m2) a7] W fun e w' => ∃ A c, e = .returned (.slice A Mt c) ∧ Rc 1 w' w'.heap.size A Mt c (ivs (ic C2)) ∧ Below W.heap.size W w' := fun W A7 a7 h h7 => by
      have := cuts_c A7 n (m + m2) a7 W.heap.size (cs ++ ms) W h7 (Nat.le_refl _) (by omega)
      rw [hC2] at this
      refine this.mono fun e w' ⟨A1, c1, h1, h2, h3⟩ => ?_
      rw [ic_len, ← hM2] at h1 h2
      exact ⟨A1, c1, h1, h2.rc, h3⟩
     have hmk2 : ∀ W A3 a3, Below w3.heap.size w3.drew W → Rc 1 W W.heap.size A3 Mt a3 (ivs (ic C2)) → Calls Tryz.prog 25 #[flv f k A n c, .slice A3 Mt a3] W fun e w' => ∃ A c D d, e = .returned (.tuple #[plv A Mt c D Mt d (G : Int), .int .i64 0]) ∧ RcS 1 w' (Fr W.heap.size w') A Mt c (ivs (ic C2)) ∧ RcS 1 w' (Fr W.heap.size w') D Mt d (lvb I2) ∧ Below W.heap.size W w' := fun W A3 a3 h h3 => by
      have := make_ok f k A n c l A3 Mt a3 C2 W (HrW3 W h) (by omega) h3 hcu2 hF (Early.out W (D3 W h))
      unfold RetPl at this
      rw [hil2, ← hM2, ← HG.out, ← hI2] at this
      exact this
     have hMd2 : Md f k l (ic C2) I2 (G : Int) := ⟨C2, rfl, by rw [Hr.out.len]; exact hcu2, hF, by rw [HG.out], hI2⟩
     have hrd2 := fun (A4 : Option Addr) (a4 : Nat) (D4 : Option Addr) (d4 : Nat) (W : World) (B : Nat) (h : Arg A n c l A4 Mt a4 (ic C2) D4 Mt d4 I2 W) (hB : B ≤ W.heap.size) (h1 : Rb W B A n c l) (h2 : Rc 1 W B A4 Mt a4 (ivs (ic C2))) (h3 : Rc 1 W B D4 Mt d4 (lvb I2)) (j a b : Nat) (ha : C2[j]? = some a) (hb : C2[j + 1]? = some b) => HS2.out.read_near f k A n c l A4 Mt a4 C2 D4 Mt d4 I2 (G : Int) W B h hB h1 h2 h3 hMd2 j a b ha hb
     rw [← HG.out, ← HX.out, ← HP.out] at hrd2
     have hsub := cuts_sub HC.out hC2
     have Hcutt := ek hcut2; have Hmkt := ek hmk2; have Hrd2 := ek hrd2; have Hcu2 := ek hcu2; have HM2 := ek hM2; have Hsub := ek hsub; have HcT := ek HcT0; have HcT2 := ek HcU0; have D3h := ek D3
     have P3 := ek hp3; have RA3 := ek hA3; have RD3 := ek hD3; have HB3 := ek hb3; have Drt := ek drt
     have F0t := ek (show w3.drew.cell? ⟨w.heap.size, 0, none⟩ = _ from (hb3.cell (p := ⟨w.heap.size, 0, none⟩) hlt2).trans F0s.out); have F1t := ek (show w3.drew.cell? ⟨w.heap.size, 1, none⟩ = _ from (hb3.cell (p := ⟨w.heap.size, 1, none⟩) hlt2).trans F1s.out); have F2t := ek (show w3.drew.cell? ⟨w.heap.size, 2, none⟩ = _ from (hb3.cell (p := ⟨w.heap.size, 2, none⟩) hlt2).trans F2s.out)
     clear hcut2 hmk2 hrd2 hcu2 hM2 hsub HcT0 HcU0 D3 hp3 hA3 hD3 hb3 drt hC2 hil2 hI2 hMd2 HrW3 hF
     dsimp only
     try simp only [Act.put, ep, eh, ei]
     go_upto_region 4 with fail
     refine region_via (α := Nat × Option Addr × Option Addr × Nat × Option Addr × Nat × Option Addr × Nat × Option Addr × Nat × Option Addr × Nat) (fun x a => Act.put (Act.put (Act.put (Act.put (Act.put (Act.put (Act.put (Act.put (Act.put (Act.put (Act.put (Act.put (Act.put (Act.put (Act.put (Act.put (a) (some 50) (flv f k A n c)) (some 51) (.pointer (some ⟨w.heap.size, 2, none⟩))) (some 52) (.slice A n c)) (some 53) (.int .i64 (n : Int))) (some 54) (.slice x.2.1 0 0)) (some 55) (.slice E m d)) (some 56) (.slice x.2.2.1 m x.2.2.2.1)) (some 57) (.slice E2 m2 d2)) (some 58) (.slice x.2.2.2.2.1 (m + m2) x.2.2.2.2.2.1)) (some 59) (.slice x.2.2.2.2.2.2.1 Mt x.2.2.2.2.2.2.2.1)) (some 60) (.tuple #[plv x.2.2.2.2.2.2.2.2.1 Mt x.2.2.2.2.2.2.2.2.2.1 x.2.2.2.2.2.2.2.2.2.2.1 Mt x.2.2.2.2.2.2.2.2.2.2.2 (G : Int), .int .i64 0])) (some 49) (.tuple #[plv x.2.2.2.2.2.2.2.2.1 Mt x.2.2.2.2.2.2.2.2.2.1 x.2.2.2.2.2.2.2.2.2.2.1 Mt x.2.2.2.2.2.2.2.2.2.2.2 (G : Int), .int .i64 0])) (some 61) (plv x.2.2.2.2.2.2.2.2.1 Mt x.2.2.2.2.2.2.2.2.2.1 x.2.2.2.2.2.2.2.2.2.2.1 Mt x.2.2.2.2.2.2.2.2.2.2.2 (G : Int))) (some 62) (.int .i64 0)) (some 9) (.pointer (some ⟨x.1, 0, none⟩))) (some 10) (.int .i64 0)) (fun x w' => Bx w' x.1 (.slice x.2.2.2.2.2.2.2.2.1 Mt x.2.2.2.2.2.2.2.2.2.1) (.slice x.2.2.2.2.2.2.2.2.2.2.1 Mt x.2.2.2.2.2.2.2.2.2.2.2) (.int .i64 (G : Int)) ∧ Rc 1 w' w'.heap.size x.2.2.2.2.2.2.2.2.1 Mt x.2.2.2.2.2.2.2.2.2.1 (ivs (ic C2)) ∧ Rc 1 w' w'.heap.size x.2.2.2.2.2.2.2.2.2.2.1 Mt x.2.2.2.2.2.2.2.2.2.2.2 (lvb I2) ∧ Below w3.heap.size w3.drew w') ?_ ?_
     ·refine wp_region_tree (Below w3.heap.size) (Below.refl _) (fun _ _ _ => Below.trans) (.read 0 (.read 1 (.read 2 (.read 3 (.read 5 (.read 7 (.two 4 14 (.two 6 14 (.two 8 14 (.two 9 14 (.two 10 14 (.read 11 (.read 12 (.read 13 (.alone 14 (.alone 15 (.read 16 (.done))))))) (.alone 10 (.read 11 (.read 12 (.read 13 (.alone 15 (.read 16 (.done)))))))) (.alone 9 (.alone 10 (.read 11 (.read 12 (.read 13 (.alone 15 (.read 16 (.done))))))))) (.alone 8 (.alone 9 (.alone 10 (.read 11 (.read 12 (.read 13 (.alone 15 (.read 16 (.done)))))))))) (.alone 6 (.alone 8 (.alone 9 (.alone 10 (.read 11 (.read 12 (.read 13 (.alone 15 (.read 16 (.done))))))))))) (.alone 4 (.alone 6 (.alone 8 (.alone 9 (.alone 10 (.read 11 (.read 12 (.read 13 (.alone 15 (.read 16 (.done)))))))))))))))))) (by kernel_rfl) (by kernel_rfl) (by kernel_rfl) (by kernel_rfl) (fun _ _ _ _ _ h => nomatch h.1) ?_
      obtain ⟨t0, ht0⟩ : ∃ s, s = w3.drew := ⟨_, rfl⟩
      have Ct := ek (show Below w3.heap.size w3.drew t0 by rw [ht0]; exact Below.refl _ _)
      rw [← ht0]
      have Ht0 := ek ht0
      clear ht0
      refine wpS_read (o := ⟨some 50, .load 24 (.tmp 3), 24, "law.go:106", #[], none⟩) (v := flv f k A n c) rfl (by rfl) ?_ ?_
      ·intro w' hw'; have hb := Ct.out.trans hw'; have q0 := (hb.cell (p := ⟨w.heap.size, 0, none⟩) hlt3).trans F0t.out; have q1 := (hb.cell (p := ⟨w.heap.size, 1, none⟩) hlt3).trans F1t.out; have q2 := (hb.cell (p := ⟨w.heap.size, 2, none⟩) hlt3).trans F2t.out; go_simp
      try simp only [Act.put, ep, eh, ei]
      refine wpS_read (o := ⟨some 51, .fieldAddr 24 (.tmp 3) 2, 0, "law.go:106", #[], none⟩) (v := .pointer (some ⟨w.heap.size, 2, none⟩)) rfl (by rfl) ?_ ?_
      ·intro w' _; go_simp
      try simp only [Act.put, ep, eh, ei]
      refine wpS_read (o := ⟨some 52, .load 22 (.tmp 51), 22, "law.go:106", #[⟨1, .data⟩], none⟩) (v := .slice A n c) rfl (by rfl) ?_ ?_
      ·intro w' hw'; have hb := Ct.out.trans hw'; have q2 := (hb.cell (p := ⟨w.heap.size, 2, none⟩) hlt3).trans F2t.out; go_simp
      try simp only [Act.put, ep, eh, ei]
      refine wpS_read (o := ⟨some 53, .call { callee := .builtin .len, args := #[.tmp 52], argTypes := #[22] }, 3, "law.go:106", #[⟨2, .data⟩], none⟩) (v := .int .i64 (n : Int)) rfl (by rfl) ?_ ?_
      ·intro w' _; go_simp
      try simp only [Act.put, ep, eh, ei]
      refine wpS_read (o := ⟨some 55, .move (.tmp 1), 25, "law.go:106", #[], none⟩) (v := .slice E m d) rfl (by rfl) ?_ ?_
      ·intro w' _; go_simp
      try simp only [Act.put, ep, eh, ei]
      refine wpS_read (o := ⟨some 57, .move (.tmp 2), 25, "law.go:106", #[], none⟩) (v := .slice E2 m2 d2) rfl (by rfl) ?_ ?_
      ·intro w' _; go_simp
      try simp only [Act.put, ep, eh, ei]
      refine wpS_two ?_ ?_
      obtain ⟨A5t, hA5⟩ : ∃ A : Option Addr, A = some ⟨(World.heap t0).size, 0, none⟩ := ⟨_, rfl⟩
      obtain ⟨t1, hnx⟩ : ∃ u, u = World.alloc t0 (.cells #[] 3) := ⟨_, rfl⟩
      have yt1 : Below (World.heap t0).size t0 t1 := by rw [hnx]; exact ej _ _
      have OWt := ek (show Oc 1 t1 3 w3.heap.size A5t 0 0 [] by rw [hnx, hA5]; exact (Oc.made0 1 _ _).mono Ct.out.size)
      have Cx_ := Ct
      have Ct := ek (Ct.out.trans (yt1.mono Ct.out.size))
      have W_ := ek hnx; have G_ := ek hA5
      refine stS_value (o := ⟨some 54, .buildSlice 25 0 #[], 25, "law.go:106", #[], none⟩) (v := .slice A5t 0 0) (w1 := t1) rfl (by rfl) ?_ ?_ ?_
      ·rw [W_.out, G_.out]; go_simp
      ·exact yt1.mono Cx_.out.size
      clear yt1 hnx hA5
      try simp only [Act.put, ep, eh, ei]
      refine wpS_two ?_ ?_
      refine stS_app ity (o := ⟨some 56, .call { callee := .builtin .append, args := #[.tmp 54, .tmp 55], argTypes := #[25, 25] }, 25, "law.go:106", #[⟨4, .data⟩, ⟨5, .data⟩], none⟩) rfl (by rfl) (.tmp 54) (.tmp 55) rfl rfl rfl OWt.out (HcT.out t1 Ct.out) (ivs_one _) (Nat.zero_add _) (List.nil_append _) (by omega) (by omega) Ct.out.size ?_
      intro A6t a6t t2 ho hg
      have yt2 := ocBelow hg OWt.out Ct.out.size
      have OWt := ek ho
      refine ⟨yt2, ?_⟩
      have Ct := ek (Ct.out.trans yt2)
      clear yt2 ho hg
      try simp only [Act.put, ep, eh, ei]
      refine wpS_two ?_ ?_
      refine stS_app ity (o := ⟨some 58, .call { callee := .builtin .append, args := #[.tmp 56, .tmp 57], argTypes := #[25, 25] }, 25, "law.go:106", #[⟨6, .data⟩, ⟨7, .data⟩, ⟨6, .chain⟩], none⟩) rfl (by rfl) (.tmp 56) (.tmp 57) rfl rfl rfl OWt.out (HcT2.out t2 Ct.out) (ivs_one _) rfl (ivs_app _ _) (by omega) (by omega) Ct.out.size ?_
      intro A7t a7t t3 ho hg
      have yt3 := ocBelow hg OWt.out Ct.out.size
      have OWt := ek ho
      refine ⟨yt3, ?_⟩
      have Ct := ek (Ct.out.trans yt3)
      clear yt3 ho hg
      try simp only [Act.put, ep, eh, ei]
      refine wpS_two ?_ ?_
      refine stS_call (o := ⟨some 59, .call { callee := .value (.func 21), args := #[.tmp 53, .tmp 58], argTypes := #[3, 25] }, 25, "law.go:106", #[⟨3, .data⟩, ⟨8, .data⟩, ⟨8, .chain⟩], none⟩) rfl (by rfl) (fun K' hK => ?_)
      go_simp
      go_at_call 21
      with_reducible refine (Hcutt.out t3 A7t a7t Ct.out OWt.out.rc).mono ?_
      rintro e t4 ⟨A3t, a3t, rfl, h3, yt4⟩
      have Cx_ := Ct
      have Ct := ek (Ct.out.trans (yt4.mono Ct.out.size))
      have KRt := ek h3
      refine hK _ _ (yt4.mono Cx_.out.size) ?_
      clear hK K' h3 yt4
      try simp only [Act.put, ep, eh, ei]
      refine wpS_two ?_ ?_
      refine stS_call (o := ⟨some 60, .call { callee := .value (.func 25), args := #[.tmp 50, .tmp 59], argTypes := #[24, 25] }, 55, "law.go:106", #[⟨0, .data⟩, ⟨9, .data⟩, ⟨9, .chain⟩], none⟩) rfl (by rfl) (fun K' hK => ?_)
      go_simp
      go_at_call 25
      with_reducible refine (Hmkt.out t4 A3t a3t Ct.out KRt.out).mono ?_
      rintro e t5 ⟨A4t, a4t, D4t, d4t, rfl, r4, s4, yt5⟩
      have Cx_ := Ct
      have Ct := ek (Ct.out.trans (yt5.mono Ct.out.size))
      have RAt := ek (r4.keep (stays_weak fr_lt))
      have RDt := ek (s4.keep (stays_weak fr_lt))
      refine hK _ _ (yt5.mono Cx_.out.size) ?_
      clear hK K' r4 s4 yt5
      try simp only [Act.put, ep, eh, ei]
      refine wpS_read (o := ⟨some 49, .move (.tmp 60), 55, "law.go:106", #[⟨10, .data⟩], none⟩) (v := .tuple #[plv A4t Mt a4t D4t Mt d4t (G : Int), .int .i64 0]) rfl (by rfl) ?_ ?_
      ·intro w' _; go_simp
      try simp only [Act.put, ep, eh, ei]
      refine wpS_read (o := ⟨some 61, .extract (.tmp 49) 0, 28, "law.go:106", #[⟨11, .data⟩], none⟩) (v := plv A4t Mt a4t D4t Mt d4t (G : Int)) rfl (by rfl) ?_ ?_
      ·intro w' _; go_simp
      try simp only [Act.put, ep, eh, ei]
      refine wpS_read (o := ⟨some 62, .extract (.tmp 49) 1, 31, "law.go:106", #[⟨11, .data⟩, { on := 15, ground := .gcOnly Go.Departure.lateStores }], none⟩) (v := .int .i64 0) rfl (by rfl) ?_ ?_
      ·intro w' _; go_simp
      try simp only [Act.put, ep, eh, ei]
      refine wpS_alone ?_
      obtain ⟨gpt, hgp⟩ : ∃ g, g = (World.heap t5).size := ⟨_, rfl⟩
      obtain ⟨t6, hnx⟩ : ∃ u, u = World.alloc t5 (.cells #[.slice none 0 0, .slice none 0 0, .int .i64 0] 28) := ⟨_, rfl⟩
      have yt6 : Below (World.heap t5).size t5 t6 := by rw [hnx]; exact ej _ _
      have BGt := ek (show Bx t6 gpt (.slice none 0 0) (.slice none 0 0) (.int .i64 0) by rw [hnx, hgp]; exact Bx.made _ _ _ _ _)
      have GPt := ek (show w3.heap.size ≤ gpt by rw [hgp]; exact Ct.out.size)
      have Cx_ := Ct
      have Ct := ek (Ct.out.trans (yt6.mono Ct.out.size))
      have RAt := ek (RAt.out.keep (show Stays t5 t6 (· < (World.heap t5).size) (NeS gpt t6) from ⟨fun b hb => ⟨Nat.lt_of_lt_of_le hb yt6.size, by have h : b < (World.heap t5).size := hb; omega⟩, fun p hp => yt6.cell hp⟩))
      have RDt := ek (RDt.out.keep (show Stays t5 t6 (· < (World.heap t5).size) (NeS gpt t6) from ⟨fun b hb => ⟨Nat.lt_of_lt_of_le hb yt6.size, by have h : b < (World.heap t5).size := hb; omega⟩, fun p hp => yt6.cell hp⟩))
      have W_ := ek hnx; have G_ := ek hgp
      refine stS_value (o := ⟨some 9, .alloc 28, 0, "law.go:106", #[], none⟩) (v := .pointer (some ⟨gpt, 0, none⟩)) (w1 := t6) rfl (by rfl) ?_ ?_ ?_
      ·rw [W_.out, G_.out]; go_simp
      ·exact yt6.mono Cx_.out.size
      clear yt6 hnx hgp
      try simp only [Act.put, ep, eh, ei]
      refine wpS_alone ?_
      obtain ⟨t7, hnx⟩ : ∃ u, u = put3 t6 gpt (.slice A4t Mt a4t) (.slice D4t Mt d4t) (.int .i64 (G : Int)) := ⟨_, rfl⟩
      have yt7 : Below gpt t6 t7 := by rw [hnx]; exact put3_below _ _ _ _ _
      have P8t := ek (show Bx t7 gpt (.slice A4t Mt a4t) (.slice D4t Mt d4t) (.int .i64 (G : Int)) by rw [hnx]; exact put3_box BGt.out _ _ _)
      have hst : Stays t6 t7 (NeS gpt t6) (· < (World.heap t7).size) := ⟨fun b hb => Nat.lt_of_lt_of_le hb.1 yt7.size, fun p hp => by rw [hnx]; exact ex_put3 _ _ (p.block + 1) _ _ _ p hp.2 (by omega)⟩
      have RAt := ek (RAt.out.keep hst).rc; have RDt := ek (RDt.out.keep hst).rc
      obtain ⟨o0, o1, o2, o3, o4, o5, o6⟩ := BGt.out
      have W_ := ek hnx
      refine stS_call (o := ⟨none, .store 28 (.tmp 9) (.tmp 61), 0, "law.go:106", #[⟨14, .data⟩, ⟨12, .data⟩, ⟨10, .chain⟩, ⟨0, .phase⟩, ⟨1, .phase⟩, ⟨2, .phase⟩, ⟨3, .phase⟩, ⟨4, .phase⟩, ⟨5, .phase⟩, ⟨6, .phase⟩, ⟨7, .phase⟩, ⟨8, .phase⟩, ⟨9, .phase⟩, ⟨10, .phase⟩, ⟨11, .phase⟩, ⟨12, .phase⟩, { on := 13, ground := .textOnly Go.Departure.lateStores }, ⟨14, .phase⟩], none⟩) rfl (by rfl) (fun K' hK => ?_)
      go_simp
      change K' _ (put3 t6 gpt _ _ _)
      rw [← W_.out]
      have Ct := ek (Ct.out.trans (yt7.mono GPt.out))
      refine hK _ _ (yt7.mono GPt.out) ?_
      clear hK K' o0 o1 o2 o3 o4 o5 o6 hst hnx yt7
      try simp only [Act.put, ep, eh, ei]
      refine wpS_read (o := ⟨some 10, .assign (.tmp 62), 31, "law.go:106", #[⟨13, .data⟩, ⟨15, .chain⟩, ⟨0, .phase⟩, ⟨1, .phase⟩, ⟨2, .phase⟩, ⟨3, .phase⟩, ⟨4, .phase⟩, ⟨5, .phase⟩, ⟨6, .phase⟩, ⟨7, .phase⟩, ⟨8, .phase⟩, ⟨9, .phase⟩, ⟨10, .phase⟩, ⟨11, .phase⟩, ⟨12, .phase⟩, ⟨13, .phase⟩, ⟨14, .phase⟩, ⟨15, .phase⟩], none⟩) (v := .int .i64 0) rfl (by rfl) ?_ ?_
      ·intro w' _; go_simp
      try simp only [Act.put, ep, eh, ei]
      refine wpS_done ?_
      exact ⟨rfl, (gpt, A5t, A6t, a6t, A7t, a7t, A3t, a3t, A4t, a4t, D4t, d4t), (by first | rfl | simp only [Act.put, ep, eh, ei]), P8t.out, RAt.out, RDt.out, (by rw [Ht0.out]; exact Ct.out)⟩
      obtain ⟨gpt, hgp⟩ : ∃ g, g = (World.heap t4).size := ⟨_, rfl⟩
      obtain ⟨t5, hnx⟩ : ∃ u, u = World.alloc t4 (.cells #[.slice none 0 0, .slice none 0 0, .int .i64 0] 28) := ⟨_, rfl⟩
      have yt5 : Below (World.heap t4).size t4 t5 := by rw [hnx]; exact ej _ _
      have BGt := ek (show Bx t5 gpt (.slice none 0 0) (.slice none 0 0) (.int .i64 0) by rw [hnx, hgp]; exact Bx.made _ _ _ _ _)
      have GPt := ek (show w3.heap.size ≤ gpt by rw [hgp]; exact Ct.out.size)
      have Cx_ := Ct
      have Ct := ek (Ct.out.trans (yt5.mono Ct.out.size))
      have KRt := ek ((KRt.out.below yt5).more yt5.size)
      have W_ := ek hnx; have G_ := ek hgp
      refine stS_value (o := ⟨some 9, .alloc 28, 0, "law.go:106", #[], none⟩) (v := .pointer (some ⟨gpt, 0, none⟩)) (w1 := t5) rfl (by rfl) ?_ ?_ ?_
      ·rw [W_.out, G_.out]; go_simp
      ·exact yt5.mono Cx_.out.size
      clear yt5 hnx hgp
      try simp only [Act.put, ep, eh, ei]
      refine wpS_alone ?_
      refine stS_call (o := ⟨some 60, .call { callee := .value (.func 25), args := #[.tmp 50, .tmp 59], argTypes := #[24, 25] }, 55, "law.go:106", #[⟨0, .data⟩, ⟨9, .data⟩, ⟨9, .chain⟩], none⟩) rfl (by rfl) (fun K' hK => ?_)
      go_simp
      go_at_call 25
      with_reducible refine (Hmkt.out t5 A3t a3t Ct.out KRt.out).mono ?_
      rintro e t6 ⟨A4t, a4t, D4t, d4t, rfl, r4, s4, yt6⟩
      have Cx_ := Ct
      have Ct := ek (Ct.out.trans (yt6.mono Ct.out.size))
      have RAt := ek (r4.keep (stays_weak (S' := NeS gpt t6) fun b hb => ⟨hb.2, by have h1 : (World.heap t5).size ≤ b := hb.1; have h2 := BGt.out.lt; omega⟩))
      have RDt := ek (s4.keep (stays_weak (S' := NeS gpt t6) fun b hb => ⟨hb.2, by have h1 : (World.heap t5).size ≤ b := hb.1; have h2 := BGt.out.lt; omega⟩))
      have BGt := ek (BGt.out.below yt6 BGt.out.lt)
      refine hK _ _ (yt6.mono Cx_.out.size) ?_
      clear hK K' r4 s4 yt6
      try simp only [Act.put, ep, eh, ei]
      refine wpS_read (o := ⟨some 49, .move (.tmp 60), 55, "law.go:106", #[⟨10, .data⟩], none⟩) (v := .tuple #[plv A4t Mt a4t D4t Mt d4t (G : Int), .int .i64 0]) rfl (by rfl) ?_ ?_
      ·intro w' _; go_simp
      try simp only [Act.put, ep, eh, ei]
      refine wpS_read (o := ⟨some 61, .extract (.tmp 49) 0, 28, "law.go:106", #[⟨11, .data⟩], none⟩) (v := plv A4t Mt a4t D4t Mt d4t (G : Int)) rfl (by rfl) ?_ ?_
      ·intro w' _; go_simp
      try simp only [Act.put, ep, eh, ei]
      refine wpS_read (o := ⟨some 62, .extract (.tmp 49) 1, 31, "law.go:106", #[⟨11, .data⟩, { on := 15, ground := .gcOnly Go.Departure.lateStores }], none⟩) (v := .int .i64 0) rfl (by rfl) ?_ ?_
      ·intro w' _; go_simp
      try simp only [Act.put, ep, eh, ei]
      refine wpS_alone ?_
      obtain ⟨t7, hnx⟩ : ∃ u, u = put3 t6 gpt (.slice A4t Mt a4t) (.slice D4t Mt d4t) (.int .i64 (G : Int)) := ⟨_, rfl⟩
      have yt7 : Below gpt t6 t7 := by rw [hnx]; exact put3_below _ _ _ _ _
      have P8t := ek (show Bx t7 gpt (.slice A4t Mt a4t) (.slice D4t Mt d4t) (.int .i64 (G : Int)) by rw [hnx]; exact put3_box BGt.out _ _ _)
      have hst : Stays t6 t7 (NeS gpt t6) (· < (World.heap t7).size) := ⟨fun b hb => Nat.lt_of_lt_of_le hb.1 yt7.size, fun p hp => by rw [hnx]; exact ex_put3 _ _ (p.block + 1) _ _ _ p hp.2 (by omega)⟩
      have RAt := ek (RAt.out.keep hst).rc; have RDt := ek (RDt.out.keep hst).rc
      obtain ⟨o0, o1, o2, o3, o4, o5, o6⟩ := BGt.out
      have W_ := ek hnx
      refine stS_call (o := ⟨none, .store 28 (.tmp 9) (.tmp 61), 0, "law.go:106", #[⟨14, .data⟩, ⟨12, .data⟩, ⟨10, .chain⟩, ⟨0, .phase⟩, ⟨1, .phase⟩, ⟨2, .phase⟩, ⟨3, .phase⟩, ⟨4, .phase⟩, ⟨5, .phase⟩, ⟨6, .phase⟩, ⟨7, .phase⟩, ⟨8, .phase⟩, ⟨9, .phase⟩, ⟨10, .phase⟩, ⟨11, .phase⟩, ⟨12, .phase⟩, { on := 13, ground := .textOnly Go.Departure.lateStores }, ⟨14, .phase⟩], none⟩) rfl (by rfl) (fun K' hK => ?_)
      go_simp
      change K' _ (put3 t6 gpt _ _ _)
      rw [← W_.out]
      have Ct := ek (Ct.out.trans (yt7.mono GPt.out))
      refine hK _ _ (yt7.mono GPt.out) ?_
      clear hK K' o0 o1 o2 o3 o4 o5 o6 hst hnx yt7
      try simp only [Act.put, ep, eh, ei]
      refine wpS_read (o := ⟨some 10, .assign (.tmp 62), 31, "law.go:106", #[⟨13, .data⟩, ⟨15, .chain⟩, ⟨0, .phase⟩, ⟨1, .phase⟩, ⟨2, .phase⟩, ⟨3, .phase⟩, ⟨4, .phase⟩, ⟨5, .phase⟩, ⟨6, .phase⟩, ⟨7, .phase⟩, ⟨8, .phase⟩, ⟨9, .phase⟩, ⟨10, .phase⟩, ⟨11, .phase⟩, ⟨12, .phase⟩, ⟨13, .phase⟩, ⟨14, .phase⟩, ⟨15, .phase⟩], none⟩) (v := .int .i64 0) rfl (by rfl) ?_ ?_
      ·intro w' _; go_simp
      try simp only [Act.put, ep, eh, ei]
      refine wpS_done ?_
      exact ⟨rfl, (gpt, A5t, A6t, a6t, A7t, a7t, A3t, a3t, A4t, a4t, D4t, d4t), (by first | rfl | simp only [Act.put, ep, eh, ei]), P8t.out, RAt.out, RDt.out, (by rw [Ht0.out]; exact Ct.out)⟩
      obtain ⟨gpt, hgp⟩ : ∃ g, g = (World.heap t3).size := ⟨_, rfl⟩
      obtain ⟨t4, hnx⟩ : ∃ u, u = World.alloc t3 (.cells #[.slice none 0 0, .slice none 0 0, .int .i64 0] 28) := ⟨_, rfl⟩
      have yt4 : Below (World.heap t3).size t3 t4 := by rw [hnx]; exact ej _ _
      have BGt := ek (show Bx t4 gpt (.slice none 0 0) (.slice none 0 0) (.int .i64 0) by rw [hnx, hgp]; exact Bx.made _ _ _ _ _)
      have GPt := ek (show w3.heap.size ≤ gpt by rw [hgp]; exact Ct.out.size)
      have NEt := ek (show some gpt ≠ ob A7t by rw [hgp]; exact ne_own OWt.out (Nat.le_refl _))
      have OWt := ek (OWt.out.keep yt4)
      have Cx_ := Ct
      have Ct := ek (Ct.out.trans (yt4.mono Ct.out.size))
      have W_ := ek hnx; have G_ := ek hgp
      refine stS_value (o := ⟨some 9, .alloc 28, 0, "law.go:106", #[], none⟩) (v := .pointer (some ⟨gpt, 0, none⟩)) (w1 := t4) rfl (by rfl) ?_ ?_ ?_
      ·rw [W_.out, G_.out]; go_simp
      ·exact yt4.mono Cx_.out.size
      clear yt4 hnx hgp
      try simp only [Act.put, ep, eh, ei]
      refine wpS_alone ?_
      refine stS_call (o := ⟨some 59, .call { callee := .value (.func 21), args := #[.tmp 53, .tmp 58], argTypes := #[3, 25] }, 25, "law.go:106", #[⟨3, .data⟩, ⟨8, .data⟩, ⟨8, .chain⟩], none⟩) rfl (by rfl) (fun K' hK => ?_)
      go_simp
      go_at_call 21
      with_reducible refine (Hcutt.out t4 A7t a7t Ct.out OWt.out.rc).mono ?_
      rintro e t5 ⟨A3t, a3t, rfl, h3, yt5⟩
      have Cx_ := Ct
      have Ct := ek (Ct.out.trans (yt5.mono Ct.out.size))
      have BGt := ek (BGt.out.below yt5 BGt.out.lt)
      have KRt := ek h3
      refine hK _ _ (yt5.mono Cx_.out.size) ?_
      clear hK K' h3 yt5
      try simp only [Act.put, ep, eh, ei]
      refine wpS_alone ?_
      refine stS_call (o := ⟨some 60, .call { callee := .value (.func 25), args := #[.tmp 50, .tmp 59], argTypes := #[24, 25] }, 55, "law.go:106", #[⟨0, .data⟩, ⟨9, .data⟩, ⟨9, .chain⟩], none⟩) rfl (by rfl) (fun K' hK => ?_)
      go_simp
      go_at_call 25
      with_reducible refine (Hmkt.out t5 A3t a3t Ct.out KRt.out).mono ?_
      rintro e t6 ⟨A4t, a4t, D4t, d4t, rfl, r4, s4, yt6⟩
      have Cx_ := Ct
      have Ct := ek (Ct.out.trans (yt6.mono Ct.out.size))
      have RAt := ek (r4.keep (stays_weak (S' := NeS gpt t6) fun b hb => ⟨hb.2, by have h1 : (World.heap t5).size ≤ b := hb.1; have h2 := BGt.out.lt; omega⟩))
      have RDt := ek (s4.keep (stays_weak (S' := NeS gpt t6) fun b hb => ⟨hb.2, by have h1 : (World.heap t5).size ≤ b := hb.1; have h2 := BGt.out.lt; omega⟩))
      have BGt := ek (BGt.out.below yt6 BGt.out.lt)
      refine hK _ _ (yt6.mono Cx_.out.size) ?_
      clear hK K' r4 s4 yt6
      try simp only [Act.put, ep, eh, ei]
      refine wpS_read (o := ⟨some 49, .move (.tmp 60), 55, "law.go:106", #[⟨10, .data⟩], none⟩) (v := .tuple #[plv A4t Mt a4t D4t Mt d4t (G : Int), .int .i64 0]) rfl (by rfl) ?_ ?_
      ·intro w' _; go_simp
      try simp only [Act.put, ep, eh, ei]
      refine wpS_read (o := ⟨some 61, .extract (.tmp 49) 0, 28, "law.go:106", #[⟨11, .data⟩], none⟩) (v := plv A4t Mt a4t D4t Mt d4t (G : Int)) rfl (by rfl) ?_ ?_
      ·intro w' _; go_simp
      try simp only [Act.put, ep, eh, ei]
      refine wpS_read (o := ⟨some 62, .extract (.tmp 49) 1, 31, "law.go:106", #[⟨11, .data⟩, { on := 15, ground := .gcOnly Go.Departure.lateStores }], none⟩) (v := .int .i64 0) rfl (by rfl) ?_ ?_
      ·intro w' _; go_simp
      try simp only [Act.put, ep, eh, ei]
      refine wpS_alone ?_
      obtain ⟨t7, hnx⟩ : ∃ u, u = put3 t6 gpt (.slice A4t Mt a4t) (.slice D4t Mt d4t) (.int .i64 (G : Int)) := ⟨_, rfl⟩
      have yt7 : Below gpt t6 t7 := by rw [hnx]; exact put3_below _ _ _ _ _
      have P8t := ek (show Bx t7 gpt (.slice A4t Mt a4t) (.slice D4t Mt d4t) (.int .i64 (G : Int)) by rw [hnx]; exact put3_box BGt.out _ _ _)
      have hst : Stays t6 t7 (NeS gpt t6) (· < (World.heap t7).size) := ⟨fun b hb => Nat.lt_of_lt_of_le hb.1 yt7.size, fun p hp => by rw [hnx]; exact ex_put3 _ _ (p.block + 1) _ _ _ p hp.2 (by omega)⟩
      have RAt := ek (RAt.out.keep hst).rc; have RDt := ek (RDt.out.keep hst).rc
      obtain ⟨o0, o1, o2, o3, o4, o5, o6⟩ := BGt.out
      have W_ := ek hnx
      refine stS_call (o := ⟨none, .store 28 (.tmp 9) (.tmp 61), 0, "law.go:106", #[⟨14, .data⟩, ⟨12, .data⟩, ⟨10, .chain⟩, ⟨0, .phase⟩, ⟨1, .phase⟩, ⟨2, .phase⟩, ⟨3, .phase⟩, ⟨4, .phase⟩, ⟨5, .phase⟩, ⟨6, .phase⟩, ⟨7, .phase⟩, ⟨8, .phase⟩, ⟨9, .phase⟩, ⟨10, .phase⟩, ⟨11, .phase⟩, ⟨12, .phase⟩, { on := 13, ground := .textOnly Go.Departure.lateStores }, ⟨14, .phase⟩], none⟩) rfl (by rfl) (fun K' hK => ?_)
      go_simp
      change K' _ (put3 t6 gpt _ _ _)
      rw [← W_.out]
      have Ct := ek (Ct.out.trans (yt7.mono GPt.out))
      refine hK _ _ (yt7.mono GPt.out) ?_
      clear hK K' o0 o1 o2 o3 o4 o5 o6 hst hnx yt7
      try simp only [Act.put, ep, eh, ei]
      refine wpS_read (o := ⟨some 10, .assign (.tmp 62), 31, "law.go:106", #[⟨13, .data⟩, ⟨15, .chain⟩, ⟨0, .phase⟩, ⟨1, .phase⟩, ⟨2, .phase⟩, ⟨3, .phase⟩, ⟨4, .phase⟩, ⟨5, .phase⟩, ⟨6, .phase⟩, ⟨7, .phase⟩, ⟨8, .phase⟩, ⟨9, .phase⟩, ⟨10, .phase⟩, ⟨11, .phase⟩, ⟨12, .phase⟩, ⟨13, .phase⟩, ⟨14, .phase⟩, ⟨15, .phase⟩], none⟩) (v := .int .i64 0) rfl (by rfl) ?_ ?_
      ·intro w' _; go_simp
      try simp only [Act.put, ep, eh, ei]
      refine wpS_done ?_
      exact ⟨rfl, (gpt, A5t, A6t, a6t, A7t, a7t, A3t, a3t, A4t, a4t, D4t, d4t), (by first | rfl | simp only [Act.put, ep, eh, ei]), P8t.out, RAt.out, RDt.out, (by rw [Ht0.out]; exact Ct.out)⟩
      obtain ⟨gpt, hgp⟩ : ∃ g, g = (World.heap t2).size := ⟨_, rfl⟩
      obtain ⟨t3, hnx⟩ : ∃ u, u = World.alloc t2 (.cells #[.slice none 0 0, .slice none 0 0, .int .i64 0] 28) := ⟨_, rfl⟩
      have yt3 : Below (World.heap t2).size t2 t3 := by rw [hnx]; exact ej _ _
      have BGt := ek (show Bx t3 gpt (.slice none 0 0) (.slice none 0 0) (.int .i64 0) by rw [hnx, hgp]; exact Bx.made _ _ _ _ _)
      have GPt := ek (show w3.heap.size ≤ gpt by rw [hgp]; exact Ct.out.size)
      have NEt := ek (show some gpt ≠ ob A6t by rw [hgp]; exact ne_own OWt.out (Nat.le_refl _))
      have OWt := ek (OWt.out.keep yt3)
      have Cx_ := Ct
      have Ct := ek (Ct.out.trans (yt3.mono Ct.out.size))
      have W_ := ek hnx; have G_ := ek hgp
      refine stS_value (o := ⟨some 9, .alloc 28, 0, "law.go:106", #[], none⟩) (v := .pointer (some ⟨gpt, 0, none⟩)) (w1 := t3) rfl (by rfl) ?_ ?_ ?_
      ·rw [W_.out, G_.out]; go_simp
      ·exact yt3.mono Cx_.out.size
      clear yt3 hnx hgp
      try simp only [Act.put, ep, eh, ei]
      refine wpS_alone ?_
      refine stS_app ity (o := ⟨some 58, .call { callee := .builtin .append, args := #[.tmp 56, .tmp 57], argTypes := #[25, 25] }, 25, "law.go:106", #[⟨6, .data⟩, ⟨7, .data⟩, ⟨6, .chain⟩], none⟩) rfl (by rfl) (.tmp 56) (.tmp 57) rfl rfl rfl OWt.out (HcT2.out t3 Ct.out) (ivs_one _) rfl (ivs_app _ _) (by omega) (by omega) Ct.out.size ?_
      intro A7t a7t t4 ho hg
      have yt4 := ocBelow hg OWt.out Ct.out.size
      have NEt_ := ek (ne_grows hg NEt.out BGt.out.lt)
      have BGt := ek (BGt.out.keep yt4.size (hg.heap _ BGt.out.lt NEt.out))
      have NEt := NEt_
      have OWt := ek ho
      refine ⟨yt4, ?_⟩
      have Ct := ek (Ct.out.trans yt4)
      clear yt4 ho hg
      try simp only [Act.put, ep, eh, ei]
      refine wpS_alone ?_
      refine stS_call (o := ⟨some 59, .call { callee := .value (.func 21), args := #[.tmp 53, .tmp 58], argTypes := #[3, 25] }, 25, "law.go:106", #[⟨3, .data⟩, ⟨8, .data⟩, ⟨8, .chain⟩], none⟩) rfl (by rfl) (fun K' hK => ?_)
      go_simp
      go_at_call 21
      with_reducible refine (Hcutt.out t4 A7t a7t Ct.out OWt.out.rc).mono ?_
      rintro e t5 ⟨A3t, a3t, rfl, h3, yt5⟩
      have Cx_ := Ct
      have Ct := ek (Ct.out.trans (yt5.mono Ct.out.size))
      have BGt := ek (BGt.out.below yt5 BGt.out.lt)
      have KRt := ek h3
      refine hK _ _ (yt5.mono Cx_.out.size) ?_
      clear hK K' h3 yt5
      try simp only [Act.put, ep, eh, ei]
      refine wpS_alone ?_
      refine stS_call (o := ⟨some 60, .call { callee := .value (.func 25), args := #[.tmp 50, .tmp 59], argTypes := #[24, 25] }, 55, "law.go:106", #[⟨0, .data⟩, ⟨9, .data⟩, ⟨9, .chain⟩], none⟩) rfl (by rfl) (fun K' hK => ?_)
      go_simp
      go_at_call 25
      with_reducible refine (Hmkt.out t5 A3t a3t Ct.out KRt.out).mono ?_
      rintro e t6 ⟨A4t, a4t, D4t, d4t, rfl, r4, s4, yt6⟩
      have Cx_ := Ct
      have Ct := ek (Ct.out.trans (yt6.mono Ct.out.size))
      have RAt := ek (r4.keep (stays_weak (S' := NeS gpt t6) fun b hb => ⟨hb.2, by have h1 : (World.heap t5).size ≤ b := hb.1; have h2 := BGt.out.lt; omega⟩))
      have RDt := ek (s4.keep (stays_weak (S' := NeS gpt t6) fun b hb => ⟨hb.2, by have h1 : (World.heap t5).size ≤ b := hb.1; have h2 := BGt.out.lt; omega⟩))
      have BGt := ek (BGt.out.below yt6 BGt.out.lt)
      refine hK _ _ (yt6.mono Cx_.out.size) ?_
      clear hK K' r4 s4 yt6
      try simp only [Act.put, ep, eh, ei]
      refine wpS_read (o := ⟨some 49, .move (.tmp 60), 55, "law.go:106", #[⟨10, .data⟩], none⟩) (v := .tuple #[plv A4t Mt a4t D4t Mt d4t (G : Int), .int .i64 0]) rfl (by rfl) ?_ ?_
      ·intro w' _; go_simp
      try simp only [Act.put, ep, eh, ei]
      refine wpS_read (o := ⟨some 61, .extract (.tmp 49) 0, 28, "law.go:106", #[⟨11, .data⟩], none⟩) (v := plv A4t Mt a4t D4t Mt d4t (G : Int)) rfl (by rfl) ?_ ?_
      ·intro w' _; go_simp
      try simp only [Act.put, ep, eh, ei]
      refine wpS_read (o := ⟨some 62, .extract (.tmp 49) 1, 31, "law.go:106", #[⟨11, .data⟩, { on := 15, ground := .gcOnly Go.Departure.lateStores }], none⟩) (v := .int .i64 0) rfl (by rfl) ?_ ?_
      ·intro w' _; go_simp
      try simp only [Act.put, ep, eh, ei]
      refine wpS_alone ?_
      obtain ⟨t7, hnx⟩ : ∃ u, u = put3 t6 gpt (.slice A4t Mt a4t) (.slice D4t Mt d4t) (.int .i64 (G : Int)) := ⟨_, rfl⟩
      have yt7 : Below gpt t6 t7 := by rw [hnx]; exact put3_below _ _ _ _ _
      have P8t := ek (show Bx t7 gpt (.slice A4t Mt a4t) (.slice D4t Mt d4t) (.int .i64 (G : Int)) by rw [hnx]; exact put3_box BGt.out _ _ _)
      have hst : Stays t6 t7 (NeS gpt t6) (· < (World.heap t7).size) := ⟨fun b hb => Nat.lt_of_lt_of_le hb.1 yt7.size, fun p hp => by rw [hnx]; exact ex_put3 _ _ (p.block + 1) _ _ _ p hp.2 (by omega)⟩
      have RAt := ek (RAt.out.keep hst).rc; have RDt := ek (RDt.out.keep hst).rc
      obtain ⟨o0, o1, o2, o3, o4, o5, o6⟩ := BGt.out
      have W_ := ek hnx
      refine stS_call (o := ⟨none, .store 28 (.tmp 9) (.tmp 61), 0, "law.go:106", #[⟨14, .data⟩, ⟨12, .data⟩, ⟨10, .chain⟩, ⟨0, .phase⟩, ⟨1, .phase⟩, ⟨2, .phase⟩, ⟨3, .phase⟩, ⟨4, .phase⟩, ⟨5, .phase⟩, ⟨6, .phase⟩, ⟨7, .phase⟩, ⟨8, .phase⟩, ⟨9, .phase⟩, ⟨10, .phase⟩, ⟨11, .phase⟩, ⟨12, .phase⟩, { on := 13, ground := .textOnly Go.Departure.lateStores }, ⟨14, .phase⟩], none⟩) rfl (by rfl) (fun K' hK => ?_)
      go_simp
      change K' _ (put3 t6 gpt _ _ _)
      rw [← W_.out]
      have Ct := ek (Ct.out.trans (yt7.mono GPt.out))
      refine hK _ _ (yt7.mono GPt.out) ?_
      clear hK K' o0 o1 o2 o3 o4 o5 o6 hst hnx yt7
      try simp only [Act.put, ep, eh, ei]
      refine wpS_read (o := ⟨some 10, .assign (.tmp 62), 31, "law.go:106", #[⟨13, .data⟩, ⟨15, .chain⟩, ⟨0, .phase⟩, ⟨1, .phase⟩, ⟨2, .phase⟩, ⟨3, .phase⟩, ⟨4, .phase⟩, ⟨5, .phase⟩, ⟨6, .phase⟩, ⟨7, .phase⟩, ⟨8, .phase⟩, ⟨9, .phase⟩, ⟨10, .phase⟩, ⟨11, .phase⟩, ⟨12, .phase⟩, ⟨13, .phase⟩, ⟨14, .phase⟩, ⟨15, .phase⟩], none⟩) (v := .int .i64 0) rfl (by rfl) ?_ ?_
      ·intro w' _; go_simp
      try simp only [Act.put, ep, eh, ei]
      refine wpS_done ?_
      exact ⟨rfl, (gpt, A5t, A6t, a6t, A7t, a7t, A3t, a3t, A4t, a4t, D4t, d4t), (by first | rfl | simp only [Act.put, ep, eh, ei]), P8t.out, RAt.out, RDt.out, (by rw [Ht0.out]; exact Ct.out)⟩
      obtain ⟨gpt, hgp⟩ : ∃ g, g = (World.heap t1).size := ⟨_, rfl⟩
      obtain ⟨t2, hnx⟩ : ∃ u, u = World.alloc t1 (.cells #[.slice none 0 0, .slice none 0 0, .int .i64 0] 28) := ⟨_, rfl⟩
      have yt2 : Below (World.heap t1).size t1 t2 := by rw [hnx]; exact ej _ _
      have BGt := ek (show Bx t2 gpt (.slice none 0 0) (.slice none 0 0) (.int .i64 0) by rw [hnx, hgp]; exact Bx.made _ _ _ _ _)
      have GPt := ek (show w3.heap.size ≤ gpt by rw [hgp]; exact Ct.out.size)
      have NEt := ek (show some gpt ≠ ob A5t by rw [hgp]; exact ne_own OWt.out (Nat.le_refl _))
      have OWt := ek (OWt.out.keep yt2)
      have Cx_ := Ct
      have Ct := ek (Ct.out.trans (yt2.mono Ct.out.size))
      have W_ := ek hnx; have G_ := ek hgp
      refine stS_value (o := ⟨some 9, .alloc 28, 0, "law.go:106", #[], none⟩) (v := .pointer (some ⟨gpt, 0, none⟩)) (w1 := t2) rfl (by rfl) ?_ ?_ ?_
      ·rw [W_.out, G_.out]; go_simp
      ·exact yt2.mono Cx_.out.size
      clear yt2 hnx hgp
      try simp only [Act.put, ep, eh, ei]
      refine wpS_alone ?_
      refine stS_app ity (o := ⟨some 56, .call { callee := .builtin .append, args := #[.tmp 54, .tmp 55], argTypes := #[25, 25] }, 25, "law.go:106", #[⟨4, .data⟩, ⟨5, .data⟩], none⟩) rfl (by rfl) (.tmp 54) (.tmp 55) rfl rfl rfl OWt.out (HcT.out t2 Ct.out) (ivs_one _) (Nat.zero_add _) (List.nil_append _) (by omega) (by omega) Ct.out.size ?_
      intro A6t a6t t3 ho hg
      have yt3 := ocBelow hg OWt.out Ct.out.size
      have NEt_ := ek (ne_grows hg NEt.out BGt.out.lt)
      have BGt := ek (BGt.out.keep yt3.size (hg.heap _ BGt.out.lt NEt.out))
      have NEt := NEt_
      have OWt := ek ho
      refine ⟨yt3, ?_⟩
      have Ct := ek (Ct.out.trans yt3)
      clear yt3 ho hg
      try simp only [Act.put, ep, eh, ei]
      refine wpS_alone ?_
      refine stS_app ity (o := ⟨some 58, .call { callee := .builtin .append, args := #[.tmp 56, .tmp 57], argTypes := #[25, 25] }, 25, "law.go:106", #[⟨6, .data⟩, ⟨7, .data⟩, ⟨6, .chain⟩], none⟩) rfl (by rfl) (.tmp 56) (.tmp 57) rfl rfl rfl OWt.out (HcT2.out t3 Ct.out) (ivs_one _) rfl (ivs_app _ _) (by omega) (by omega) Ct.out.size ?_
      intro A7t a7t t4 ho hg
      have yt4 := ocBelow hg OWt.out Ct.out.size
      have NEt_ := ek (ne_grows hg NEt.out BGt.out.lt)
      have BGt := ek (BGt.out.keep yt4.size (hg.heap _ BGt.out.lt NEt.out))
      have NEt := NEt_
      have OWt := ek ho
      refine ⟨yt4, ?_⟩
      have Ct := ek (Ct.out.trans yt4)
      clear yt4 ho hg
      try simp only [Act.put, ep, eh, ei]
      refine wpS_alone ?_
      refine stS_call (o := ⟨some 59, .call { callee := .value (.func 21), args := #[.tmp 53, .tmp 58], argTypes := #[3, 25] }, 25, "law.go:106", #[⟨3, .data⟩, ⟨8, .data⟩, ⟨8, .chain⟩], none⟩) rfl (by rfl) (fun K' hK => ?_)
      go_simp
      go_at_call 21
      with_reducible refine (Hcutt.out t4 A7t a7t Ct.out OWt.out.rc).mono ?_
      rintro e t5 ⟨A3t, a3t, rfl, h3, yt5⟩
      have Cx_ := Ct
      have Ct := ek (Ct.out.trans (yt5.mono Ct.out.size))
      have BGt := ek (BGt.out.below yt5 BGt.out.lt)
      have KRt := ek h3
      refine hK _ _ (yt5.mono Cx_.out.size) ?_
      clear hK K' h3 yt5
      try simp only [Act.put, ep, eh, ei]
      refine wpS_alone ?_
      refine stS_call (o := ⟨some 60, .call { callee := .value (.func 25), args := #[.tmp 50, .tmp 59], argTypes := #[24, 25] }, 55, "law.go:106", #[⟨0, .data⟩, ⟨9, .data⟩, ⟨9, .chain⟩], none⟩) rfl (by rfl) (fun K' hK => ?_)
      go_simp
      go_at_call 25
      with_reducible refine (Hmkt.out t5 A3t a3t Ct.out KRt.out).mono ?_
      rintro e t6 ⟨A4t, a4t, D4t, d4t, rfl, r4, s4, yt6⟩
      have Cx_ := Ct
      have Ct := ek (Ct.out.trans (yt6.mono Ct.out.size))
      have RAt := ek (r4.keep (stays_weak (S' := NeS gpt t6) fun b hb => ⟨hb.2, by have h1 : (World.heap t5).size ≤ b := hb.1; have h2 := BGt.out.lt; omega⟩))
      have RDt := ek (s4.keep (stays_weak (S' := NeS gpt t6) fun b hb => ⟨hb.2, by have h1 : (World.heap t5).size ≤ b := hb.1; have h2 := BGt.out.lt; omega⟩))
      have BGt := ek (BGt.out.below yt6 BGt.out.lt)
      refine hK _ _ (yt6.mono Cx_.out.size) ?_
      clear hK K' r4 s4 yt6
      try simp only [Act.put, ep, eh, ei]
      refine wpS_read (o := ⟨some 49, .move (.tmp 60), 55, "law.go:106", #[⟨10, .data⟩], none⟩) (v := .tuple #[plv A4t Mt a4t D4t Mt d4t (G : Int), .int .i64 0]) rfl (by rfl) ?_ ?_
      ·intro w' _; go_simp
      try simp only [Act.put, ep, eh, ei]
      refine wpS_read (o := ⟨some 61, .extract (.tmp 49) 0, 28, "law.go:106", #[⟨11, .data⟩], none⟩) (v := plv A4t Mt a4t D4t Mt d4t (G : Int)) rfl (by rfl) ?_ ?_
      ·intro w' _; go_simp
      try simp only [Act.put, ep, eh, ei]
      refine wpS_read (o := ⟨some 62, .extract (.tmp 49) 1, 31, "law.go:106", #[⟨11, .data⟩, { on := 15, ground := .gcOnly Go.Departure.lateStores }], none⟩) (v := .int .i64 0) rfl (by rfl) ?_ ?_
      ·intro w' _; go_simp
      try simp only [Act.put, ep, eh, ei]
      refine wpS_alone ?_
      obtain ⟨t7, hnx⟩ : ∃ u, u = put3 t6 gpt (.slice A4t Mt a4t) (.slice D4t Mt d4t) (.int .i64 (G : Int)) := ⟨_, rfl⟩
      have yt7 : Below gpt t6 t7 := by rw [hnx]; exact put3_below _ _ _ _ _
      have P8t := ek (show Bx t7 gpt (.slice A4t Mt a4t) (.slice D4t Mt d4t) (.int .i64 (G : Int)) by rw [hnx]; exact put3_box BGt.out _ _ _)
      have hst : Stays t6 t7 (NeS gpt t6) (· < (World.heap t7).size) := ⟨fun b hb => Nat.lt_of_lt_of_le hb.1 yt7.size, fun p hp => by rw [hnx]; exact ex_put3 _ _ (p.block + 1) _ _ _ p hp.2 (by omega)⟩
      have RAt := ek (RAt.out.keep hst).rc; have RDt := ek (RDt.out.keep hst).rc
      obtain ⟨o0, o1, o2, o3, o4, o5, o6⟩ := BGt.out
      have W_ := ek hnx
      refine stS_call (o := ⟨none, .store 28 (.tmp 9) (.tmp 61), 0, "law.go:106", #[⟨14, .data⟩, ⟨12, .data⟩, ⟨10, .chain⟩, ⟨0, .phase⟩, ⟨1, .phase⟩, ⟨2, .phase⟩, ⟨3, .phase⟩, ⟨4, .phase⟩, ⟨5, .phase⟩, ⟨6, .phase⟩, ⟨7, .phase⟩, ⟨8, .phase⟩, ⟨9, .phase⟩, ⟨10, .phase⟩, ⟨11, .phase⟩, ⟨12, .phase⟩, { on := 13, ground := .textOnly Go.Departure.lateStores }, ⟨14, .phase⟩], none⟩) rfl (by rfl) (fun K' hK => ?_)
      go_simp
      change K' _ (put3 t6 gpt _ _ _)
      rw [← W_.out]
      have Ct := ek (Ct.out.trans (yt7.mono GPt.out))
      refine hK _ _ (yt7.mono GPt.out) ?_
      clear hK K' o0 o1 o2 o3 o4 o5 o6 hst hnx yt7
      try simp only [Act.put, ep, eh, ei]
      refine wpS_read (o := ⟨some 10, .assign (.tmp 62), 31, "law.go:106", #[⟨13, .data⟩, ⟨15, .chain⟩, ⟨0, .phase⟩, ⟨1, .phase⟩, ⟨2, .phase⟩, ⟨3, .phase⟩, ⟨4, .phase⟩, ⟨5, .phase⟩, ⟨6, .phase⟩, ⟨7, .phase⟩, ⟨8, .phase⟩, ⟨9, .phase⟩, ⟨10, .phase⟩, ⟨11, .phase⟩, ⟨12, .phase⟩, ⟨13, .phase⟩, ⟨14, .phase⟩, ⟨15, .phase⟩], none⟩) (v := .int .i64 0) rfl (by rfl) ?_ ?_
      ·intro w' _; go_simp
      try simp only [Act.put, ep, eh, ei]
      refine wpS_done ?_
      exact ⟨rfl, (gpt, A5t, A6t, a6t, A7t, a7t, A3t, a3t, A4t, a4t, D4t, d4t), (by first | rfl | simp only [Act.put, ep, eh, ei]), P8t.out, RAt.out, RDt.out, (by rw [Ht0.out]; exact Ct.out)⟩
      obtain ⟨gpt, hgp⟩ : ∃ g, g = (World.heap t0).size := ⟨_, rfl⟩
      obtain ⟨t1, hnx⟩ : ∃ u, u = World.alloc t0 (.cells #[.slice none 0 0, .slice none 0 0, .int .i64 0] 28) := ⟨_, rfl⟩
      have yt1 : Below (World.heap t0).size t0 t1 := by rw [hnx]; exact ej _ _
      have BGt := ek (show Bx t1 gpt (.slice none 0 0) (.slice none 0 0) (.int .i64 0) by rw [hnx, hgp]; exact Bx.made _ _ _ _ _)
      have GPt := ek (show w3.heap.size ≤ gpt by rw [hgp]; exact Ct.out.size)
      have Cx_ := Ct
      have Ct := ek (Ct.out.trans (yt1.mono Ct.out.size))
      have W_ := ek hnx; have G_ := ek hgp
      refine stS_value (o := ⟨some 9, .alloc 28, 0, "law.go:106", #[], none⟩) (v := .pointer (some ⟨gpt, 0, none⟩)) (w1 := t1) rfl (by rfl) ?_ ?_ ?_
      ·rw [W_.out, G_.out]; go_simp
      ·exact yt1.mono Cx_.out.size
      clear yt1 hnx hgp
      try simp only [Act.put, ep, eh, ei]
      refine wpS_alone ?_
      obtain ⟨A5t, hA5⟩ : ∃ A : Option Addr, A = some ⟨(World.heap t1).size, 0, none⟩ := ⟨_, rfl⟩
      obtain ⟨t2, hnx⟩ : ∃ u, u = World.alloc t1 (.cells #[] 3) := ⟨_, rfl⟩
      have yt2 : Below (World.heap t1).size t1 t2 := by rw [hnx]; exact ej _ _
      have OWt := ek (show Oc 1 t2 3 w3.heap.size A5t 0 0 [] by rw [hnx, hA5]; exact (Oc.made0 1 _ _).mono Ct.out.size)
      have NEt := ek (show some gpt ≠ ob A5t by rw [hA5]; intro e; have e2 : gpt = (World.heap t1).size := Option.some.inj e; have := BGt.out.lt; omega)
      have Cx_ := Ct
      have Ct := ek (Ct.out.trans (yt2.mono Ct.out.size))
      have BGt := ek (BGt.out.below yt2 BGt.out.lt)
      have W_ := ek hnx; have G_ := ek hA5
      refine stS_value (o := ⟨some 54, .buildSlice 25 0 #[], 25, "law.go:106", #[], none⟩) (v := .slice A5t 0 0) (w1 := t2) rfl (by rfl) ?_ ?_ ?_
      ·rw [W_.out, G_.out]; go_simp
      ·exact yt2.mono Cx_.out.size
      clear yt2 hnx hA5
      try simp only [Act.put, ep, eh, ei]
      refine wpS_alone ?_
      refine stS_app ity (o := ⟨some 56, .call { callee := .builtin .append, args := #[.tmp 54, .tmp 55], argTypes := #[25, 25] }, 25, "law.go:106", #[⟨4, .data⟩, ⟨5, .data⟩], none⟩) rfl (by rfl) (.tmp 54) (.tmp 55) rfl rfl rfl OWt.out (HcT.out t2 Ct.out) (ivs_one _) (Nat.zero_add _) (List.nil_append _) (by omega) (by omega) Ct.out.size ?_
      intro A6t a6t t3 ho hg
      have yt3 := ocBelow hg OWt.out Ct.out.size
      have NEt_ := ek (ne_grows hg NEt.out BGt.out.lt)
      have BGt := ek (BGt.out.keep yt3.size (hg.heap _ BGt.out.lt NEt.out))
      have NEt := NEt_
      have OWt := ek ho
      refine ⟨yt3, ?_⟩
      have Ct := ek (Ct.out.trans yt3)
      clear yt3 ho hg
      try simp only [Act.put, ep, eh, ei]
      refine wpS_alone ?_
      refine stS_app ity (o := ⟨some 58, .call { callee := .builtin .append, args := #[.tmp 56, .tmp 57], argTypes := #[25, 25] }, 25, "law.go:106", #[⟨6, .data⟩, ⟨7, .data⟩, ⟨6, .chain⟩], none⟩) rfl (by rfl) (.tmp 56) (.tmp 57) rfl rfl rfl OWt.out (HcT2.out t3 Ct.out) (ivs_one _) rfl (ivs_app _ _) (by omega) (by omega) Ct.out.size ?_
      intro A7t a7t t4 ho hg
      have yt4 := ocBelow hg OWt.out Ct.out.size
      have NEt_ := ek (ne_grows hg NEt.out BGt.out.lt)
      have BGt := ek (BGt.out.keep yt4.size (hg.heap _ BGt.out.lt NEt.out))
      have NEt := NEt_
      have OWt := ek ho
      refine ⟨yt4, ?_⟩
      have Ct := ek (Ct.out.trans yt4)
      clear yt4 ho hg
      try simp only [Act.put, ep, eh, ei]
      refine wpS_alone ?_
      refine stS_call (o := ⟨some 59, .call { callee := .value (.func 21), args := #[.tmp 53, .tmp 58], argTypes := #[3, 25] }, 25, "law.go:106", #[⟨3, .data⟩, ⟨8, .data⟩, ⟨8, .chain⟩], none⟩) rfl (by rfl) (fun K' hK => ?_)
      go_simp
      go_at_call 21
      with_reducible refine (Hcutt.out t4 A7t a7t Ct.out OWt.out.rc).mono ?_
      rintro e t5 ⟨A3t, a3t, rfl, h3, yt5⟩
      have Cx_ := Ct
      have Ct := ek (Ct.out.trans (yt5.mono Ct.out.size))
      have BGt := ek (BGt.out.below yt5 BGt.out.lt)
      have KRt := ek h3
      refine hK _ _ (yt5.mono Cx_.out.size) ?_
      clear hK K' h3 yt5
      try simp only [Act.put, ep, eh, ei]
      refine wpS_alone ?_
      refine stS_call (o := ⟨some 60, .call { callee := .value (.func 25), args := #[.tmp 50, .tmp 59], argTypes := #[24, 25] }, 55, "law.go:106", #[⟨0, .data⟩, ⟨9, .data⟩, ⟨9, .chain⟩], none⟩) rfl (by rfl) (fun K' hK => ?_)
      go_simp
      go_at_call 25
      with_reducible refine (Hmkt.out t5 A3t a3t Ct.out KRt.out).mono ?_
      rintro e t6 ⟨A4t, a4t, D4t, d4t, rfl, r4, s4, yt6⟩
      have Cx_ := Ct
      have Ct := ek (Ct.out.trans (yt6.mono Ct.out.size))
      have RAt := ek (r4.keep (stays_weak (S' := NeS gpt t6) fun b hb => ⟨hb.2, by have h1 : (World.heap t5).size ≤ b := hb.1; have h2 := BGt.out.lt; omega⟩))
      have RDt := ek (s4.keep (stays_weak (S' := NeS gpt t6) fun b hb => ⟨hb.2, by have h1 : (World.heap t5).size ≤ b := hb.1; have h2 := BGt.out.lt; omega⟩))
      have BGt := ek (BGt.out.below yt6 BGt.out.lt)
      refine hK _ _ (yt6.mono Cx_.out.size) ?_
      clear hK K' r4 s4 yt6
      try simp only [Act.put, ep, eh, ei]
      refine wpS_read (o := ⟨some 49, .move (.tmp 60), 55, "law.go:106", #[⟨10, .data⟩], none⟩) (v := .tuple #[plv A4t Mt a4t D4t Mt d4t (G : Int), .int .i64 0]) rfl (by rfl) ?_ ?_
      ·intro w' _; go_simp
      try simp only [Act.put, ep, eh, ei]
      refine wpS_read (o := ⟨some 61, .extract (.tmp 49) 0, 28, "law.go:106", #[⟨11, .data⟩], none⟩) (v := plv A4t Mt a4t D4t Mt d4t (G : Int)) rfl (by rfl) ?_ ?_
      ·intro w' _; go_simp
      try simp only [Act.put, ep, eh, ei]
      refine wpS_read (o := ⟨some 62, .extract (.tmp 49) 1, 31, "law.go:106", #[⟨11, .data⟩, { on := 15, ground := .gcOnly Go.Departure.lateStores }], none⟩) (v := .int .i64 0) rfl (by rfl) ?_ ?_
      ·intro w' _; go_simp
      try simp only [Act.put, ep, eh, ei]
      refine wpS_alone ?_
      obtain ⟨t7, hnx⟩ : ∃ u, u = put3 t6 gpt (.slice A4t Mt a4t) (.slice D4t Mt d4t) (.int .i64 (G : Int)) := ⟨_, rfl⟩
      have yt7 : Below gpt t6 t7 := by rw [hnx]; exact put3_below _ _ _ _ _
      have P8t := ek (show Bx t7 gpt (.slice A4t Mt a4t) (.slice D4t Mt d4t) (.int .i64 (G : Int)) by rw [hnx]; exact put3_box BGt.out _ _ _)
      have hst : Stays t6 t7 (NeS gpt t6) (· < (World.heap t7).size) := ⟨fun b hb => Nat.lt_of_lt_of_le hb.1 yt7.size, fun p hp => by rw [hnx]; exact ex_put3 _ _ (p.block + 1) _ _ _ p hp.2 (by omega)⟩
      have RAt := ek (RAt.out.keep hst).rc; have RDt := ek (RDt.out.keep hst).rc
      obtain ⟨o0, o1, o2, o3, o4, o5, o6⟩ := BGt.out
      have W_ := ek hnx
      refine stS_call (o := ⟨none, .store 28 (.tmp 9) (.tmp 61), 0, "law.go:106", #[⟨14, .data⟩, ⟨12, .data⟩, ⟨10, .chain⟩, ⟨0, .phase⟩, ⟨1, .phase⟩, ⟨2, .phase⟩, ⟨3, .phase⟩, ⟨4, .phase⟩, ⟨5, .phase⟩, ⟨6, .phase⟩, ⟨7, .phase⟩, ⟨8, .phase⟩, ⟨9, .phase⟩, ⟨10, .phase⟩, ⟨11, .phase⟩, ⟨12, .phase⟩, { on := 13, ground := .textOnly Go.Departure.lateStores }, ⟨14, .phase⟩], none⟩) rfl (by rfl) (fun K' hK => ?_)
      go_simp
      change K' _ (put3 t6 gpt _ _ _)
      rw [← W_.out]
      have Ct := ek (Ct.out.trans (yt7.mono GPt.out))
      refine hK _ _ (yt7.mono GPt.out) ?_
      clear hK K' o0 o1 o2 o3 o4 o5 o6 hst hnx yt7
      try simp only [Act.put, ep, eh, ei]
      refine wpS_read (o := ⟨some 10, .assign (.tmp 62), 31, "law.go:106", #[⟨13, .data⟩, ⟨15, .chain⟩, ⟨0, .phase⟩, ⟨1, .phase⟩, ⟨2, .phase⟩, ⟨3, .phase⟩, ⟨4, .phase⟩, ⟨5, .phase⟩, ⟨6, .phase⟩, ⟨7, .phase⟩, ⟨8, .phase⟩, ⟨9, .phase⟩, ⟨10, .phase⟩, ⟨11, .phase⟩, ⟨12, .phase⟩, ⟨13, .phase⟩, ⟨14, .phase⟩, ⟨15, .phase⟩], none⟩) (v := .int .i64 0) rfl (by rfl) ?_ ?_
      ·intro w' _; go_simp
      try simp only [Act.put, ep, eh, ei]
      refine wpS_done ?_
      exact ⟨rfl, (gpt, A5t, A6t, a6t, A7t, a7t, A3t, a3t, A4t, a4t, D4t, d4t), (by first | rfl | simp only [Act.put, ep, eh, ei]), P8t.out, RAt.out, RDt.out, (by rw [Ht0.out]; exact Ct.out)⟩
     ·rintro ⟨gpt, A5t, A6t, a6t, A7t, a7t, A3t, a3t, A4t, a4t, D4t, d4t⟩ w4 ⟨hp4, hA4, hD4, hb4⟩
      have z4 := hb4.size
      have z4' : w3.heap.size ≤ w4.heap.size := z4
      have b34 := Drt.out.trans hb4
      have b24 := D3h.out w4 hb4
      have x4 := X2.out.below b24 hlt2
      have p4 := P3.out.below b34 P3.out.lt
      have argp : Arg A n c l A4s Ms a4s (ic C) D4s Ms d4s I w4 := ⟨HrW.out w4 b24, by omega, (RA3.out.below b34).more z4', (RD3.out.below b34).more z4', by omega, by omega, Early.out w4 b24⟩
      have argq : Arg A n c l A4t Mt a4t (ic C2) D4t Mt d4t I2 w4 := ⟨HrW.out w4 b24, by omega, hA4, hD4, by omega, by omega, Early.out w4 b24⟩
      have hPl := P3.out.lt
      have X4 := ek x4; have P4 := ek p4; have Q4 := ek hp4; have AP := ek argp; have AQ := ek argq; have B24 := ek b24
      have lx4 := x4.lt; have lp4 := p4.lt; have lq4 := hp4.lt
      have hpos2 := (cu_pos Hcu2.out).2
      have Hpos2 := ek hpos2
      clear hA4 hD4 hb4 b34 b24 x4 p4 argp argq hp4 hpos2
      clear F0s F1s F2s F0t F1t F2t Hcutss Hmks Hcutt Hmkt HcT HcT2 RA3 RD3 P3 HB3 Drt D3h X2 B02 W0 X0 Hr Hc Hc2 Drs Hma
      dsimp only
      try simp only [Act.put, ep, eh, ei]
      go_wp2_with fail
      go_loopw [11, 12, 13, 14, 15, 16, 17] (fun k i _ _ _ _ _ wr => FiOut w4 C C2 k i wr) (fun _ i _ _ _ _ _ _ => Ms - (intOf i).toNat)
      case atStart => exact ⟨0, 0, 0, rfl, rfl, Hpos.out, Hpos2.out, Below.refl _ _⟩
      case round =>
       obtain ⟨K, j, a, rfl, rfl, hja, hka, hbel⟩ := hrel
       rename World => wr
       have zr := hbel.size
       have hjm : j < Ms := by rw [HM.out]; exact (List.getElem?_eq_some_iff.1 hja).1
       have hkm : K < Mt := by rw [HM2.out]; exact (List.getElem?_eq_some_iff.1 hka).1
       have Xr := ek (X4.out.below hbel lx4); have Pr := ek (P4.out.below hbel lp4); have Hja := ek hja; have Hka := ek hka; have Hbel := ek hbel
       clear hja hka hbel
       obtain ⟨p0, p1, p2, -, -, -, -⟩ := Pr.out
       go_wp2_with fail
       refine (HS.out.count A4s Ms a4s D4s Ms d4s (G : Int) wr (by omega)).mono ?_
       rintro e w5 ⟨rfl, b5⟩
       have z5 := b5.size
       have bel5 := Hbel.out.trans (b5.mono zr)
       have X5 := ek (X4.out.below bel5 lx4); have P5 := ek (P4.out.below bel5 lp4); have Q5 := ek (Q4.out.below bel5 lq4); have B45 := ek bel5
       clear p0 p1 p2 b5 bel5
       by_cases hlt : j + 1 < Ms
       ·have dd1 : decide ((j : Int) < ((Ms - 1 : Nat) : Int)) = true := by simp; omega
        have dd2 : decide (j < Ms - 1) = true := by simp; omega
        obtain ⟨b, hb⟩ : ∃ b, C[j + 1]? = some b := ⟨_, List.getElem?_eq_getElem (by rw [← HM.out]; exact hlt)⟩
        have hab := cu_two Hcu.out Hja.out hb
        have hrd := Hrd.out A4s a4s D4s d4s w5 (AP.out.go B45.out) j a b Hja.out hb
        obtain ⟨T, hT⟩ : ∃ T, T = told f G X a b := ⟨_, rfl⟩
        rw [← hT] at hrd
        have Hr5 := ek hrd; have Hb := ek hb
        clear hrd hb hT
        obtain ⟨c0, c1, c2, -, -, -, -⟩ := X5.out
        obtain ⟨p0, p1, p2, -, -, -, -⟩ := P5.out
        go_wp2_with fail
        refine Hr5.out.mono ?_
        rintro e w6 ⟨A6, c6, rfl, h6, b6⟩
        have z6 := b6.size
        have b46 := B45.out.trans (b6.mono (by omega))
        have B46 := ek b46; have H6 := ek h6
        obtain ⟨w7, hw7⟩ : ∃ w7, w7 = w6.alloc (.cells #[] 77) := ⟨_, rfl⟩
        have b7 : Below w6.heap.size w6 w7 := by rw [hw7]; exact ej _ _
        have own7 : Oc 1 w7 77 w6.heap.size (some ⟨w6.heap.size, 0, none⟩) 0 0 [] := by rw [hw7]; exact Oc.made0 1 _ _
        have W7 := ek hw7; have Own7 := ek own7; have B67 := ek b7
        clear hw7 own7 b7 c0 c1 c2 p0 p1 p2 b6 h6 b46
        go_wp2_with (rw [← W7.out])
        go_loopw [11, 15, 16, 17] (fun k o _ _ wr => FiIn w6 P C2 a b o k wr) (fun k _ _ _ _ => Mt - (intOf k).toNat)
        case atStart => exact ⟨some ⟨w6.heap.size, 0, none⟩, 0, [], K, a, by rw [rdP_none]; rfl, rfl, Hka.out, Nat.le_refl _, by omega, by rw [rdP_none]; exact Own7.out, by rw [rdP_none]; exact RrsS.nil, B67.out⟩
        case round =>
         obtain ⟨A8, c8, vs, K8, a8, rfl, rfl, hk8, ha8, hb8, hown, hps, hb68⟩ := hrel
         rename World => wi
         have zi := hb68.size
         have hkm8 : K8 < Mt := by rw [HM2.out]; exact (List.getElem?_eq_some_iff.1 hk8).1
         have b4i := B46.out.trans (hb68.mono (by omega))
         have Xi := ek (X4.out.below b4i lx4); have Pi := ek (P4.out.below b4i lp4); have Qi := ek (Q4.out.below b4i lq4); have Hk8 := ek hk8; have Hown := ek hown; have Hps := ek hps; have B6i := ek hb68; have B4i := ek b4i
         clear hk8 hown hps hb68 b4i
         have lpi : gps < wi.heap.size := Pi.out.lt
         have lqi : gpt < wi.heap.size := Qi.out.lt
         have Pi0 := ek (show wi.drew.cell? ⟨gps, 0, none⟩ = _ from Pi.out.c0)
         have Qi0 := ek (show wi.drew.cell? ⟨gpt, 0, none⟩ = _ from Qi.out.c0); have Qi1 := ek (show wi.drew.cell? ⟨gpt, 1, none⟩ = _ from Qi.out.c1); have Qi2 := ek (show wi.drew.cell? ⟨gpt, 2, none⟩ = _ from Qi.out.c2)
         have Bi0 := ek (Below.refl wi.heap.size wi.drew)
         have dri : Below wi.heap.size wi wi.drew := below_drewN (Below.refl _ _) 1
         have Dri := ek dri
         clear dri
         have wrapK : IntKind.i64.wrap ((K8 : Int) + 1) = ((K8 + 1 : Nat) : Int) := by rw [IntWalk.i64_in _ (by omega)]; omega
         have tonK : ((K8 : Int) + 1).toNat = K8 + 1 ∧ 0 ≤ (K8 : Int) + 1 := by omega
         have wrapj : IntKind.i64.wrap ((j : Int) + 1) = ((j + 1 : Nat) : Int) := by rw [IntWalk.i64_in _ (by omega)]; omega
         have tonj : ((j : Int) + 1).toNat = j + 1 ∧ 0 ≤ (j : Int) + 1 := by omega
         have cnt := fun W => HS.out.count A4t Mt a4t D4t Mt d4t (G : Int) W (by omega)
         have Cnt := ek cnt; have WrapK := ek wrapK; have TonK := ek tonK; have Wrapj := ek wrapj; have Tonj := ek tonj
         clear cnt wrapK tonK wrapj tonj
         have AQi := ek (AQ.out.go B4i.out); have APi := ek (AP.out.go B4i.out)
         have done : ∀ W, Below wi.heap.size wi.drew W → a8 = b → Calls Tryz.prog 15 #[.slice A8 (rdP P a a8).length c8, .slice A6 (rdP P a b).length c6] W fun e w' => e = .returned (.bool true) ∧ Below W.heap.size W w' := fun W h he => by
          have hw := Dri.out.trans h
          have hn1 : (rdP P a b).length ≤ 50000000 := Nat.le_trans (rdP_len P a b) (by rw [← HR.out]; exact hA)
          have q1 := Hown.out; have q2 := Hps.out
          rw [he] at q1 q2 ⊢
          refine recs12 A8 A6 c8 c6 (rdP P a b) W ?_ ?_ (by omega) (fun r hr => HRs.out r (by rw [HR.out]; exact rdP_mem hr))
          ·exact ⟨vs, (q1.keep hw).rc, (q2.keep (ns_below hw)).keep (stays_weak fun x hx => hx.1)⟩
          ·exact RLS.keep H6.out (stays_below (B6i.out.trans (hw.mono zi)) (by have := hw.size; omega))
         have Done := ek done
         clear done
         by_cases h13 : K8 + 1 < Mt
         ·have dd1 : decide ((K8 : Int) < ((Mt - 1 : Nat) : Int)) = true := by simp; omega
          have dd1' : decide (K8 < Mt - 1) = true := by simp; omega
          obtain ⟨b9, hb9⟩ : ∃ b9, C2[K8 + 1]? = some b9 := ⟨_, List.getElem?_eq_getElem (by rw [← HM2.out]; exact h13)⟩
          have hab9 := cu_two Hcu2.out Hk8.out hb9
          obtain ⟨eb, eo, ev, hA4t, hebl, hec, heg⟩ := AQi.out.cuts.at_ h13
          rw [ivs_get _ _ _ (ic_get hb9)] at heg
          injection heg with heg
          rw [← heg] at hec
          obtain ⟨gb, go, gv, hA4s, hgbl, hgc, hgg⟩ := APi.out.cuts.at_ hlt
          rw [ivs_get _ _ _ (ic_get Hb.out)] at hgg
          injection hgg with hgg
          rw [← hgg] at hgc
          have HAt := ek hA4t; have HAs := ek hA4s; have HEc := ek (show wi.drew.cell? ⟨eb, eo + (K8 + 1), none⟩ = _ from hec); have HGc := ek (show wi.drew.cell? ⟨gb, go + (j + 1), none⟩ = _ from hgc); have Hb9 := ek hb9
          clear hA4t hA4s hec hgc hb9 heg hgg ev gv
          by_cases hle : b9 ≤ b
          ·have dd2 : decide ((b9 : Int) ≤ (b : Int)) = true := by simp; omega
           have dd2' : decide (b9 ≤ b) = true := by simp; omega
           go_upto_region 13 with fail
           refine wp_region_schedR (Below wi.heap.size) (Below.refl _) (fun _ _ _ => Below.trans) [(false, 0), (false, 1), (true, 2), (false, 3), (false, 4), (false, 5), (false, 6), (false, 7), (false, 8), (false, 9), (false, 10), (false, 11), (false, 12), (false, 13), (false, 14), (false, 15), (false, 16), (false, 17), (false, 18)] (by kernel_rfl) (by kernel_rfl) (by kernel_rfl) (by kernel_rfl) (fun _ _ d _ _ h => by cases d <;> exact h) ?_
           refine wpR_read (o := ⟨some 83, .move (.tmp 11), 3, "law.go:114", #[], none⟩) (v := .int .i64 (K8 : Int)) rfl (by rfl) ?_ ?_
           ·intro w' _; go_simp
           try simp only [Act.put, ep, eh, ei]
           refine wpR_read (o := ⟨some 84, .load 28 (.tmp 9), 28, "law.go:114", #[], none⟩) (v := plv A4t Mt a4t D4t Mt d4t (G : Int)) rfl (by rfl) ?_ ?_
           ·intro w' hw'; have hb := Bi0.out.trans hw'; have q0 := (hb.cell (p := ⟨gpt, 0, none⟩) lqi).trans Qi0.out; have q1 := (hb.cell (p := ⟨gpt, 1, none⟩) lqi).trans Qi1.out; have q2 := (hb.cell (p := ⟨gpt, 2, none⟩) lqi).trans Qi2.out; go_simp
           try simp only [Act.put, ep, eh, ei]
           refine wpR_call (o := ⟨some 85, .call { callee := .value (.func 16), args := #[.tmp 84], argTypes := #[28] }, 3, "law.go:114", #[⟨1, .data⟩], none⟩) rfl (by rfl) (fun K' hK => ?_)
           go_simp
           go_at_call 16
           with_reducible refine (Cnt.out _).mono ?_
           rintro e wj ⟨rfl, yj⟩
           have Bi1 := ek (Bi0.out.trans (yj.mono Bi0.out.size))
           refine hK.out _ _ (yj.mono Bi0.out.size) ?_
           clear hK K' yj
           try simp only [Act.put, ep, eh, ei]
           refine wpR_read (o := ⟨some 86, .binOp .lss 3 (.tmp 83) (.tmp 85) 3, 4, "law.go:114", #[⟨0, .data⟩, ⟨2, .data⟩], none⟩) (v := .bool true) rfl (by rfl) ?_ ?_
           ·intro w' _; go_simp
           try simp only [Act.put, ep, eh, ei]
           refine wpR_read (o := ⟨some 87, .move (.tmp 86), 4, "law.go:114", #[⟨3, .data⟩, ⟨2, .chain⟩], none⟩) (v := .bool true) rfl (by rfl) ?_ ?_
           ·intro w' _; go_simp
           try simp only [Act.put, ep, eh, ei]
           refine wpR_read (o := ⟨some 88, .fieldAddr 28 (.tmp 9) 0, 0, "law.go:114", #[⟨4, .guard⟩], some (4, true)⟩) (v := .pointer (some ⟨gpt, 0, none⟩)) rfl (by rfl) ?_ ?_
           ·intro w' _; go_simp
           try simp only [Act.put, ep, eh, ei]
           refine wpR_read (o := ⟨some 89, .load 25 (.tmp 88), 25, "law.go:114", #[⟨5, .data⟩, ⟨4, .guard⟩], some (4, true)⟩) (v := .slice A4t Mt a4t) rfl (by rfl) ?_ ?_
           ·intro w' hw'; have hb := Bi1.out.trans hw'; have q0 := (hb.cell (p := ⟨gpt, 0, none⟩) lqi).trans Qi0.out; go_simp
           try simp only [Act.put, ep, eh, ei]
           refine wpR_read (o := ⟨some 90, .move (.tmp 11), 3, "law.go:114", #[⟨4, .guard⟩], some (4, true)⟩) (v := .int .i64 (K8 : Int)) rfl (by rfl) ?_ ?_
           ·intro w' _; go_simp
           try simp only [Act.put, ep, eh, ei]
           refine wpR_read (o := ⟨some 91, .binOp .add 3 (.tmp 90) (.const (.int .i64 1)) 3, 3, "law.go:114", #[⟨7, .data⟩, ⟨4, .guard⟩], some (4, true)⟩) (v := .int .i64 ((K8 + 1 : Nat) : Int)) rfl (by rfl) ?_ ?_
           ·intro w' _; have q1 := WrapK.out; go_simp
           try simp only [Act.put, ep, eh, ei]
           refine wpR_read (o := ⟨some 92, .indexAddr 25 (.tmp 89) (.tmp 91), 0, "law.go:114", #[⟨6, .data⟩, ⟨8, .data⟩, ⟨4, .guard⟩], some (4, true)⟩) (v := .pointer (some ⟨eb, eo + (K8 + 1), none⟩)) rfl (by rfl) ?_ ?_
           ·intro w' _; obtain ⟨q1, q2⟩ := TonK.out; have q3 : (K8 : Int) + 1 < (Mt : Int) := (by omega); have q4 := WrapK.out; rw [HAt.out]; go_simp
           try simp only [Act.put, ep, eh, ei]
           refine wpR_read (o := ⟨some 93, .load 3 (.tmp 92), 3, "law.go:114", #[⟨9, .data⟩, ⟨4, .guard⟩], some (4, true)⟩) (v := .int .i64 (b9 : Int)) rfl (by rfl) ?_ ?_
           ·intro w' hw'; have hb := Bi1.out.trans hw'; have q0 := (hb.cell (p := ⟨eb, eo + (K8 + 1), none⟩) hebl).trans HEc.out; go_simp
           try simp only [Act.put, ep, eh, ei]
           refine wpR_read (o := ⟨some 94, .fieldAddr 28 (.tmp 7) 0, 0, "law.go:114", #[⟨4, .guard⟩], some (4, true)⟩) (v := .pointer (some ⟨gps, 0, none⟩)) rfl (by rfl) ?_ ?_
           ·intro w' _; go_simp
           try simp only [Act.put, ep, eh, ei]
           refine wpR_read (o := ⟨some 95, .load 25 (.tmp 94), 25, "law.go:114", #[⟨11, .data⟩, ⟨4, .guard⟩], some (4, true)⟩) (v := .slice A4s Ms a4s) rfl (by rfl) ?_ ?_
           ·intro w' hw'; have hb := Bi1.out.trans hw'; have q0 := (hb.cell (p := ⟨gps, 0, none⟩) lpi).trans Pi0.out; go_simp
           try simp only [Act.put, ep, eh, ei]
           refine wpR_read (o := ⟨some 96, .move (.tmp 12), 3, "law.go:114", #[⟨4, .guard⟩], some (4, true)⟩) (v := .int .i64 (j : Int)) rfl (by rfl) ?_ ?_
           ·intro w' _; go_simp
           try simp only [Act.put, ep, eh, ei]
           refine wpR_read (o := ⟨some 97, .binOp .add 3 (.tmp 96) (.const (.int .i64 1)) 3, 3, "law.go:114", #[⟨13, .data⟩, ⟨4, .guard⟩], some (4, true)⟩) (v := .int .i64 ((j + 1 : Nat) : Int)) rfl (by rfl) ?_ ?_
           ·intro w' _; have q1 := Wrapj.out; go_simp
           try simp only [Act.put, ep, eh, ei]
           refine wpR_read (o := ⟨some 98, .indexAddr 25 (.tmp 95) (.tmp 97), 0, "law.go:114", #[⟨12, .data⟩, ⟨14, .data⟩, ⟨4, .guard⟩], some (4, true)⟩) (v := .pointer (some ⟨gb, go + (j + 1), none⟩)) rfl (by rfl) ?_ ?_
           ·intro w' _; obtain ⟨q1, q2⟩ := Tonj.out; have q3 : (j : Int) + 1 < (Ms : Int) := (by omega); have q4 := Wrapj.out; rw [HAs.out]; go_simp
           try simp only [Act.put, ep, eh, ei]
           refine wpR_read (o := ⟨some 99, .load 3 (.tmp 98), 3, "law.go:114", #[⟨15, .data⟩, ⟨4, .guard⟩], some (4, true)⟩) (v := .int .i64 (b : Int)) rfl (by rfl) ?_ ?_
           ·intro w' hw'; have hb := Bi1.out.trans hw'; have q0 := (hb.cell (p := ⟨gb, go + (j + 1), none⟩) hgbl).trans HGc.out; go_simp
           try simp only [Act.put, ep, eh, ei]
           refine wpR_read (o := ⟨some 100, .binOp .leq 3 (.tmp 93) (.tmp 99) 3, 4, "law.go:114", #[⟨10, .data⟩, ⟨16, .data⟩, ⟨4, .guard⟩], some (4, true)⟩) (v := .bool true) rfl (by rfl) ?_ ?_
           ·intro w' _; go_simp
           try simp only [Act.put, ep, eh, ei]
           refine wpR_read (o := ⟨some 101, .pick (.tmp 87) (.tmp 100) (.const (.bool false)), 4, "law.go:114", #[⟨4, .data⟩, ⟨17, .data⟩], none⟩) (v := .bool true) rfl (by rfl) ?_ ?_
           ·intro w' _; go_simp
           try simp only [Act.put, ep, eh, ei]
           refine wpR_done ?_
           have zj : wi.heap.size ≤ wj.heap.size := Bi1.out.size
           have bij := Dri.out.trans Bi1.out
           have b4j := B4i.out.trans (bij.mono (by omega))
           have hr9 := Hrd2.out A4t a4t D4t d4t wj w6.heap.size (AQ.out.go b4j) (by omega) ((AQ.out.b.below b4j).more (by omega)) ((AQ.out.cuts.below b4j).more (by omega)) ((AQ.out.ins.below b4j).more (by omega)) K8 a8 b9 Hk8.out Hb9.out
           obtain ⟨T9, hT9⟩ : ∃ T, T = told f G X a8 b9 := ⟨_, rfl⟩
           have hnx := rdP_next Hasc.out a a8 b9 ha8 (by omega)
           have hln : (rdP P a b9).length ≤ 50000000 := Nat.le_trans (rdP_len P a b9) (by rw [← HR.out]; exact hA)
           rw [hnx, List.length_append] at hln
           obtain ⟨L, hL⟩ : ∃ L, L = rdP P a a8 := ⟨_, rfl⟩
           obtain ⟨Kx, hKx⟩ : ∃ L, L = rdP P a8 b9 := ⟨_, rfl⟩
           rw [← hT9, ← hKx] at hr9
           rw [← hL, ← hKx] at hnx hln
           have hownj := Hown.out.keep bij
           have hpsj := Hps.out.keep (ns_below bij)
           rw [← hL] at hownj hpsj ⊢
           have Hr9 := ek hr9; have Hnx := ek hnx; have Hownj := ek hownj; have Hpsj := ek hpsj; have Bij := ek bij; have B4j := ek b4j
           have Xj := ek (X4.out.below b4j lx4); have Qj := ek (Q4.out.below b4j lq4)
           clear hr9 hnx hownj hpsj bij b4j hT9 hL hKx Hown Hps dd1 dd1' dd2 dd2' Done
           obtain ⟨c0, c1, c2, -, -, -, -⟩ := Xj.out
           obtain ⟨q0, q1, q2, -, -, -, -⟩ := Qj.out
           go_wp2_with fail
           refine Hr9.out.mono ?_
           rintro e w10 ⟨A10, c10, rfl, ⟨us, hu1, hu2⟩, b10⟩
           have z10 := b10.size
           have hown10 := Hownj.out.keep b10
           have hps10 := (Hpsj.out.keep (ns_below b10)).append (hu2.keep (stays_weak (near_ns Hownj.out)))
           have h1x := rrs_one' hu2
           have Hown10 := ek hown10; have Hps10 := ek hps10; have H1x := ek h1x; have Hu := ek (show Rc 1 w10 w10.heap.size A10 Kx.length c10 us from (hu1.keep (stays_weak fun x hx => hx.2)).rc)
           have HB10 := ek (B6i.out.trans ((Bij.out.trans (b10.mono zj)).mono zi))
           clear hown10 hps10 h1x hu1 hu2 b10 c0 c1 c2 q0 q1 q2
           go_wp2_with (at_builtin; go_must (refine Sl.wpAppAt rty rfl (.tmp 109) (.tmp 110) rfl (n := L.length) (m := Kx.length) (N := L.length + Kx.length) (ws := vs ++ us) rfl rfl Hown10.out Hu.out H1x.out rfl rfl ?hs4 ?hs5 ?hs6 ?_))
           case hs4 => omega
           case hs5 => omega
           case hs6 => have := HB10.out.size; omega
           intro A11 c11 w11 hown11 hg11
           have b11 := HB10.out.trans (hg11.belowC Hown10.out (by have := HB10.out.size; omega))
           have hps11 := Hps10.out.keep (ns_grow hg11)
           have Hown11 := ek hown11; have Hps11 := ek hps11
           clear hown11 hps11 hg11
           go_wp2
           go_roundw
           case rel => exact ⟨A11, c11, vs ++ us, K8 + 1, b9, by rw [Hnx.out, List.length_append], by go_num, Hb9.out, by omega, by omega, by rw [Hnx.out, List.length_append]; exact Hown11.out, by rw [Hnx.out]; exact Hps11.out, b11⟩
           case measure => simp [intOf]; omega
          ·have dd2 : decide ((b9 : Int) ≤ (b : Int)) = false := by simp; omega
           have dd2' : decide (b9 ≤ b) = false := by simp; omega
           go_upto_region 13 with fail
           refine wp_region_schedR (Below wi.heap.size) (Below.refl _) (fun _ _ _ => Below.trans) [(false, 0), (false, 1), (true, 2), (false, 3), (false, 4), (false, 5), (false, 6), (false, 7), (false, 8), (false, 9), (false, 10), (false, 11), (false, 12), (false, 13), (false, 14), (false, 15), (false, 16), (false, 17), (false, 18)] (by kernel_rfl) (by kernel_rfl) (by kernel_rfl) (by kernel_rfl) (fun _ _ d _ _ h => by cases d <;> exact h) ?_
           refine wpR_read (o := ⟨some 83, .move (.tmp 11), 3, "law.go:114", #[], none⟩) (v := .int .i64 (K8 : Int)) rfl (by rfl) ?_ ?_
           ·intro w' _; go_simp
           try simp only [Act.put, ep, eh, ei]
           refine wpR_read (o := ⟨some 84, .load 28 (.tmp 9), 28, "law.go:114", #[], none⟩) (v := plv A4t Mt a4t D4t Mt d4t (G : Int)) rfl (by rfl) ?_ ?_
           ·intro w' hw'; have hb := Bi0.out.trans hw'; have q0 := (hb.cell (p := ⟨gpt, 0, none⟩) lqi).trans Qi0.out; have q1 := (hb.cell (p := ⟨gpt, 1, none⟩) lqi).trans Qi1.out; have q2 := (hb.cell (p := ⟨gpt, 2, none⟩) lqi).trans Qi2.out; go_simp
           try simp only [Act.put, ep, eh, ei]
           refine wpR_call (o := ⟨some 85, .call { callee := .value (.func 16), args := #[.tmp 84], argTypes := #[28] }, 3, "law.go:114", #[⟨1, .data⟩], none⟩) rfl (by rfl) (fun K' hK => ?_)
           go_simp
           go_at_call 16
           with_reducible refine (Cnt.out _).mono ?_
           rintro e wj ⟨rfl, yj⟩
           have Bi1 := ek (Bi0.out.trans (yj.mono Bi0.out.size))
           refine hK.out _ _ (yj.mono Bi0.out.size) ?_
           clear hK K' yj
           try simp only [Act.put, ep, eh, ei]
           refine wpR_read (o := ⟨some 86, .binOp .lss 3 (.tmp 83) (.tmp 85) 3, 4, "law.go:114", #[⟨0, .data⟩, ⟨2, .data⟩], none⟩) (v := .bool true) rfl (by rfl) ?_ ?_
           ·intro w' _; go_simp
           try simp only [Act.put, ep, eh, ei]
           refine wpR_read (o := ⟨some 87, .move (.tmp 86), 4, "law.go:114", #[⟨3, .data⟩, ⟨2, .chain⟩], none⟩) (v := .bool true) rfl (by rfl) ?_ ?_
           ·intro w' _; go_simp
           try simp only [Act.put, ep, eh, ei]
           refine wpR_read (o := ⟨some 88, .fieldAddr 28 (.tmp 9) 0, 0, "law.go:114", #[⟨4, .guard⟩], some (4, true)⟩) (v := .pointer (some ⟨gpt, 0, none⟩)) rfl (by rfl) ?_ ?_
           ·intro w' _; go_simp
           try simp only [Act.put, ep, eh, ei]
           refine wpR_read (o := ⟨some 89, .load 25 (.tmp 88), 25, "law.go:114", #[⟨5, .data⟩, ⟨4, .guard⟩], some (4, true)⟩) (v := .slice A4t Mt a4t) rfl (by rfl) ?_ ?_
           ·intro w' hw'; have hb := Bi1.out.trans hw'; have q0 := (hb.cell (p := ⟨gpt, 0, none⟩) lqi).trans Qi0.out; go_simp
           try simp only [Act.put, ep, eh, ei]
           refine wpR_read (o := ⟨some 90, .move (.tmp 11), 3, "law.go:114", #[⟨4, .guard⟩], some (4, true)⟩) (v := .int .i64 (K8 : Int)) rfl (by rfl) ?_ ?_
           ·intro w' _; go_simp
           try simp only [Act.put, ep, eh, ei]
           refine wpR_read (o := ⟨some 91, .binOp .add 3 (.tmp 90) (.const (.int .i64 1)) 3, 3, "law.go:114", #[⟨7, .data⟩, ⟨4, .guard⟩], some (4, true)⟩) (v := .int .i64 ((K8 + 1 : Nat) : Int)) rfl (by rfl) ?_ ?_
           ·intro w' _; have q1 := WrapK.out; go_simp
           try simp only [Act.put, ep, eh, ei]
           refine wpR_read (o := ⟨some 92, .indexAddr 25 (.tmp 89) (.tmp 91), 0, "law.go:114", #[⟨6, .data⟩, ⟨8, .data⟩, ⟨4, .guard⟩], some (4, true)⟩) (v := .pointer (some ⟨eb, eo + (K8 + 1), none⟩)) rfl (by rfl) ?_ ?_
           ·intro w' _; obtain ⟨q1, q2⟩ := TonK.out; have q3 : (K8 : Int) + 1 < (Mt : Int) := (by omega); have q4 := WrapK.out; rw [HAt.out]; go_simp
           try simp only [Act.put, ep, eh, ei]
           refine wpR_read (o := ⟨some 93, .load 3 (.tmp 92), 3, "law.go:114", #[⟨9, .data⟩, ⟨4, .guard⟩], some (4, true)⟩) (v := .int .i64 (b9 : Int)) rfl (by rfl) ?_ ?_
           ·intro w' hw'; have hb := Bi1.out.trans hw'; have q0 := (hb.cell (p := ⟨eb, eo + (K8 + 1), none⟩) hebl).trans HEc.out; go_simp
           try simp only [Act.put, ep, eh, ei]
           refine wpR_read (o := ⟨some 94, .fieldAddr 28 (.tmp 7) 0, 0, "law.go:114", #[⟨4, .guard⟩], some (4, true)⟩) (v := .pointer (some ⟨gps, 0, none⟩)) rfl (by rfl) ?_ ?_
           ·intro w' _; go_simp
           try simp only [Act.put, ep, eh, ei]
           refine wpR_read (o := ⟨some 95, .load 25 (.tmp 94), 25, "law.go:114", #[⟨11, .data⟩, ⟨4, .guard⟩], some (4, true)⟩) (v := .slice A4s Ms a4s) rfl (by rfl) ?_ ?_
           ·intro w' hw'; have hb := Bi1.out.trans hw'; have q0 := (hb.cell (p := ⟨gps, 0, none⟩) lpi).trans Pi0.out; go_simp
           try simp only [Act.put, ep, eh, ei]
           refine wpR_read (o := ⟨some 96, .move (.tmp 12), 3, "law.go:114", #[⟨4, .guard⟩], some (4, true)⟩) (v := .int .i64 (j : Int)) rfl (by rfl) ?_ ?_
           ·intro w' _; go_simp
           try simp only [Act.put, ep, eh, ei]
           refine wpR_read (o := ⟨some 97, .binOp .add 3 (.tmp 96) (.const (.int .i64 1)) 3, 3, "law.go:114", #[⟨13, .data⟩, ⟨4, .guard⟩], some (4, true)⟩) (v := .int .i64 ((j + 1 : Nat) : Int)) rfl (by rfl) ?_ ?_
           ·intro w' _; have q1 := Wrapj.out; go_simp
           try simp only [Act.put, ep, eh, ei]
           refine wpR_read (o := ⟨some 98, .indexAddr 25 (.tmp 95) (.tmp 97), 0, "law.go:114", #[⟨12, .data⟩, ⟨14, .data⟩, ⟨4, .guard⟩], some (4, true)⟩) (v := .pointer (some ⟨gb, go + (j + 1), none⟩)) rfl (by rfl) ?_ ?_
           ·intro w' _; obtain ⟨q1, q2⟩ := Tonj.out; have q3 : (j : Int) + 1 < (Ms : Int) := (by omega); have q4 := Wrapj.out; rw [HAs.out]; go_simp
           try simp only [Act.put, ep, eh, ei]
           refine wpR_read (o := ⟨some 99, .load 3 (.tmp 98), 3, "law.go:114", #[⟨15, .data⟩, ⟨4, .guard⟩], some (4, true)⟩) (v := .int .i64 (b : Int)) rfl (by rfl) ?_ ?_
           ·intro w' hw'; have hb := Bi1.out.trans hw'; have q0 := (hb.cell (p := ⟨gb, go + (j + 1), none⟩) hgbl).trans HGc.out; go_simp
           try simp only [Act.put, ep, eh, ei]
           refine wpR_read (o := ⟨some 100, .binOp .leq 3 (.tmp 93) (.tmp 99) 3, 4, "law.go:114", #[⟨10, .data⟩, ⟨16, .data⟩, ⟨4, .guard⟩], some (4, true)⟩) (v := .bool false) rfl (by rfl) ?_ ?_
           ·intro w' _; go_simp
           try simp only [Act.put, ep, eh, ei]
           refine wpR_read (o := ⟨some 101, .pick (.tmp 87) (.tmp 100) (.const (.bool false)), 4, "law.go:114", #[⟨4, .data⟩, ⟨17, .data⟩], none⟩) (v := .bool false) rfl (by rfl) ?_ ?_
           ·intro w' _; go_simp
           try simp only [Act.put, ep, eh, ei]
           refine wpR_done ?_
           have he : a8 = b := cu_between Hcu2.out Hk8.out (Hsub.out b (List.mem_of_getElem? Hb.out)) hb8 (fun b' hb' => by rw [Hb9.out] at hb'; injection hb' with hb'; omega)
           have zj : wi.heap.size ≤ wj.heap.size := Bi1.out.size
           have He := ek he
           clear he dd1 dd1' dd2 dd2'
           go_wp2_with fail
           with_reducible refine (Done.out _ Bi1.out He.out).mono ?_
           rintro e wk ⟨rfl, bk⟩
           have bel := B4i.out.trans ((Dri.out.trans (Bi1.out.trans (bk.mono zj))).mono (by omega))
           clear bk
           go_wp2
           go_roundw
           case rel => exact ⟨K8, j + 1, b, rfl, by go_num, Hb.out, by rw [← He.out]; exact Hk8.out, bel⟩
           case measure => simp [intOf]; omega
         ·have dd1 : decide ((K8 : Int) < ((Mt - 1 : Nat) : Int)) = false := by simp; omega
          have dd1' : decide (K8 < Mt - 1) = false := by simp; omega
          go_upto_region 13 with fail
          refine wp_region_schedR (Below wi.heap.size) (Below.refl _) (fun _ _ _ => Below.trans) [(false, 0), (false, 1), (true, 2), (false, 3), (false, 4), (false, 5), (false, 6), (false, 7), (false, 8), (false, 9), (false, 10), (false, 11), (false, 12), (false, 13), (false, 14), (false, 15), (false, 16), (false, 17), (false, 18)] (by kernel_rfl) (by kernel_rfl) (by kernel_rfl) (by kernel_rfl) (fun _ _ d _ _ h => by cases d <;> exact h) ?_
          refine wpR_read (o := ⟨some 83, .move (.tmp 11), 3, "law.go:114", #[], none⟩) (v := .int .i64 (K8 : Int)) rfl (by rfl) ?_ ?_
          ·intro w' _; go_simp
          try simp only [Act.put, ep, eh, ei]
          refine wpR_read (o := ⟨some 84, .load 28 (.tmp 9), 28, "law.go:114", #[], none⟩) (v := plv A4t Mt a4t D4t Mt d4t (G : Int)) rfl (by rfl) ?_ ?_
          ·intro w' hw'; have hb := Bi0.out.trans hw'; have q0 := (hb.cell (p := ⟨gpt, 0, none⟩) lqi).trans Qi0.out; have q1 := (hb.cell (p := ⟨gpt, 1, none⟩) lqi).trans Qi1.out; have q2 := (hb.cell (p := ⟨gpt, 2, none⟩) lqi).trans Qi2.out; go_simp
          try simp only [Act.put, ep, eh, ei]
          refine wpR_call (o := ⟨some 85, .call { callee := .value (.func 16), args := #[.tmp 84], argTypes := #[28] }, 3, "law.go:114", #[⟨1, .data⟩], none⟩) rfl (by rfl) (fun K' hK => ?_)
          go_simp
          go_at_call 16
          with_reducible refine (Cnt.out _).mono ?_
          rintro e wj ⟨rfl, yj⟩
          have Bi1 := ek (Bi0.out.trans (yj.mono Bi0.out.size))
          refine hK.out _ _ (yj.mono Bi0.out.size) ?_
          clear hK K' yj
          try simp only [Act.put, ep, eh, ei]
          refine wpR_read (o := ⟨some 86, .binOp .lss 3 (.tmp 83) (.tmp 85) 3, 4, "law.go:114", #[⟨0, .data⟩, ⟨2, .data⟩], none⟩) (v := .bool false) rfl (by rfl) ?_ ?_
          ·intro w' _; go_simp
          try simp only [Act.put, ep, eh, ei]
          refine wpR_read (o := ⟨some 87, .move (.tmp 86), 4, "law.go:114", #[⟨3, .data⟩, ⟨2, .chain⟩], none⟩) (v := .bool false) rfl (by rfl) ?_ ?_
          ·intro w' _; go_simp
          try simp only [Act.put, ep, eh, ei]
          with_reducible refine wpR_skip (b := false) (i := 5) (o := ⟨some 88, .fieldAddr 28 (.tmp 9) 0, 0, "law.go:114", #[⟨4, .guard⟩], some (4, true)⟩) ?_ ?_ ?_
          ·rfl
          ·kernel_rfl
          try simp only [Act.put, ep, eh, ei]
          with_reducible refine wpR_skip (b := false) (i := 6) (o := ⟨some 89, .load 25 (.tmp 88), 25, "law.go:114", #[⟨5, .data⟩, ⟨4, .guard⟩], some (4, true)⟩) ?_ ?_ ?_
          ·rfl
          ·kernel_rfl
          try simp only [Act.put, ep, eh, ei]
          with_reducible refine wpR_skip (b := false) (i := 7) (o := ⟨some 90, .move (.tmp 11), 3, "law.go:114", #[⟨4, .guard⟩], some (4, true)⟩) ?_ ?_ ?_
          ·rfl
          ·kernel_rfl
          try simp only [Act.put, ep, eh, ei]
          with_reducible refine wpR_skip (b := false) (i := 8) (o := ⟨some 91, .binOp .add 3 (.tmp 90) (.const (.int .i64 1)) 3, 3, "law.go:114", #[⟨7, .data⟩, ⟨4, .guard⟩], some (4, true)⟩) ?_ ?_ ?_
          ·rfl
          ·kernel_rfl
          try simp only [Act.put, ep, eh, ei]
          with_reducible refine wpR_skip (b := false) (i := 9) (o := ⟨some 92, .indexAddr 25 (.tmp 89) (.tmp 91), 0, "law.go:114", #[⟨6, .data⟩, ⟨8, .data⟩, ⟨4, .guard⟩], some (4, true)⟩) ?_ ?_ ?_
          ·rfl
          ·kernel_rfl
          try simp only [Act.put, ep, eh, ei]
          with_reducible refine wpR_skip (b := false) (i := 10) (o := ⟨some 93, .load 3 (.tmp 92), 3, "law.go:114", #[⟨9, .data⟩, ⟨4, .guard⟩], some (4, true)⟩) ?_ ?_ ?_
          ·rfl
          ·kernel_rfl
          try simp only [Act.put, ep, eh, ei]
          with_reducible refine wpR_skip (b := false) (i := 11) (o := ⟨some 94, .fieldAddr 28 (.tmp 7) 0, 0, "law.go:114", #[⟨4, .guard⟩], some (4, true)⟩) ?_ ?_ ?_
          ·rfl
          ·kernel_rfl
          try simp only [Act.put, ep, eh, ei]
          with_reducible refine wpR_skip (b := false) (i := 12) (o := ⟨some 95, .load 25 (.tmp 94), 25, "law.go:114", #[⟨11, .data⟩, ⟨4, .guard⟩], some (4, true)⟩) ?_ ?_ ?_
          ·rfl
          ·kernel_rfl
          try simp only [Act.put, ep, eh, ei]
          with_reducible refine wpR_skip (b := false) (i := 13) (o := ⟨some 96, .move (.tmp 12), 3, "law.go:114", #[⟨4, .guard⟩], some (4, true)⟩) ?_ ?_ ?_
          ·rfl
          ·kernel_rfl
          try simp only [Act.put, ep, eh, ei]
          with_reducible refine wpR_skip (b := false) (i := 14) (o := ⟨some 97, .binOp .add 3 (.tmp 96) (.const (.int .i64 1)) 3, 3, "law.go:114", #[⟨13, .data⟩, ⟨4, .guard⟩], some (4, true)⟩) ?_ ?_ ?_
          ·rfl
          ·kernel_rfl
          try simp only [Act.put, ep, eh, ei]
          with_reducible refine wpR_skip (b := false) (i := 15) (o := ⟨some 98, .indexAddr 25 (.tmp 95) (.tmp 97), 0, "law.go:114", #[⟨12, .data⟩, ⟨14, .data⟩, ⟨4, .guard⟩], some (4, true)⟩) ?_ ?_ ?_
          ·rfl
          ·kernel_rfl
          try simp only [Act.put, ep, eh, ei]
          with_reducible refine wpR_skip (b := false) (i := 16) (o := ⟨some 99, .load 3 (.tmp 98), 3, "law.go:114", #[⟨15, .data⟩, ⟨4, .guard⟩], some (4, true)⟩) ?_ ?_ ?_
          ·rfl
          ·kernel_rfl
          try simp only [Act.put, ep, eh, ei]
          with_reducible refine wpR_skip (b := false) (i := 17) (o := ⟨some 100, .binOp .leq 3 (.tmp 93) (.tmp 99) 3, 4, "law.go:114", #[⟨10, .data⟩, ⟨16, .data⟩, ⟨4, .guard⟩], some (4, true)⟩) ?_ ?_ ?_
          ·rfl
          ·kernel_rfl
          try simp only [Act.put, ep, eh, ei]
          refine wpR_read (o := ⟨some 101, .pick (.tmp 87) (.tmp 100) (.const (.bool false)), 4, "law.go:114", #[⟨4, .data⟩, ⟨17, .data⟩], none⟩) (v := .bool false) rfl (by rfl) ?_ ?_
          ·intro w' _; go_simp
          try simp only [Act.put, ep, eh, ei]
          refine wpR_done ?_
          have he : a8 = b := cu_between Hcu2.out Hk8.out (Hsub.out b (List.mem_of_getElem? Hb.out)) hb8 (fun b' hb' => by have := (List.getElem?_eq_some_iff.1 hb').1; rw [← HM2.out] at this; omega)
          have zj : wi.heap.size ≤ wj.heap.size := Bi1.out.size
          have He := ek he
          clear he dd1 dd1'
          go_wp2_with fail
          with_reducible refine (Done.out _ Bi1.out He.out).mono ?_
          rintro e wk ⟨rfl, bk⟩
          have bel := B4i.out.trans ((Dri.out.trans (Bi1.out.trans (bk.mono zj))).mono (by omega))
          clear bk
          go_wp2
          go_roundw
          case rel => exact ⟨K8, j + 1, b, rfl, by go_num, Hb.out, by rw [← He.out]; exact Hk8.out, bel⟩
          case measure => simp [intOf]; omega
       ·have hje : j = Ms - 1 := by omega
        have dd1 : decide ((j : Int) < ((Ms - 1 : Nat) : Int)) = false := by simp; omega
        have dd2 : decide (j < Ms - 1) = false := by simp; omega
        have han : a = n := (cu_at Hcu.out Hja.out).2 (by rw [← HM.out]; omega)
        have hKe : K = Mt - 1 := by
         rcases Nat.lt_or_ge (K + 1) Mt with h | h
         ·obtain ⟨b', hb'⟩ : ∃ b', C2[K + 1]? = some b' := ⟨_, List.getElem?_eq_getElem (by rw [← HM2.out]; exact h)⟩
          have := cu_two Hcu2.out Hka.out hb'
          omega
         ·omega
        have dd3 : ((K : Int) == ((Mt - 1 : Nat) : Int)) = true := by rw [hKe]; simp
        have cnt := fun W => HS.out.count A4t Mt a4t D4t Mt d4t (G : Int) W (by omega)
        have Cnt := ek cnt
        clear cnt hKe hje
        go_wp2_with fail
        refine (alive12_c HS.out _ (Early.out _ (B24.out.trans (B45.out.mono (by omega))))).mono ?_
        rintro e w6 ⟨rfl, b6⟩
        have z6 := b6.size
        have Q6 := ek (Q5.out.below b6 Q5.out.lt); have B6 := ek b6
        clear b6
        obtain ⟨q0, q1, q2, -, -, -, -⟩ := Q6.out
        go_wp2_with fail
        refine (Cnt.out _).mono ?_
        rintro e w7 ⟨rfl, b7⟩
        have bb := Stop.out _ (B24.out.trans ((B45.out.trans ((B6.out.trans (b7.mono (by omega))).mono (by omega))).mono (by omega)))
        clear q0 q1 q2 b7
        go_wp2
        go_ret
        exact ⟨rfl, bb⟩
end Go.Proofs.YtkekmokdlgocaaaGreatDoor
namespace Go.Proofs.YtkekmokdlgocaaaGreatDoor.Pl
open Go.RowKit
theorem spn : SpN where
 read_near := fun f k A n c l E m d C D q r I g w _ h _ _ _ _ hM j a b ha hb => (read_c f k A n c l E m d C D q r I g w h hM j a b ha hb).mono fun _ _ ⟨A', c', h0, h1, h2⟩ =>
  ⟨A', c', h0, h1.keep (stays_weak fun _ hx => ⟨.inr hx.1, hx.2⟩), h2⟩
end Go.Proofs.YtkekmokdlgocaaaGreatDoor.Pl
