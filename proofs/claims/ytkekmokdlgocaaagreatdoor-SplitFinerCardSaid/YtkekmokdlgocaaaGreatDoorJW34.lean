/-
  Joined: Z6 Z7.
-/
import Derived.Test.YtkekmokdlgocaaaGreatDoorJW33
import Derived.Deep.RegionHeld3
set_option maxRecDepth 100000
set_option maxHeartbeats 4000000
namespace Go.Proofs.YtkekmokdlgocaaaGreatDoor.Cht
open Go.RowKit
theorem records_c (At A : Option Addr) (ct n c : Nat) (l : List UInt8) (x : Nat × Nat × Nat) (w : World) (ht : Rn w w.heap.size At 256 ct Cm.tab) (hr : Rb w w.heap.size A n c l) (hn : n ≤ 900000) (hx : x.1 + x.2.1 ≤ n) (hk : x.2.2 ≤ 5000) :
  Calls Tryz.prog 106 #[.slice At 256 ct, .slice A n c, ev x] w (RetRk w (Hm.val l x)) := by
 obtain ⟨a, s, k⟩ := x
 dsimp only at hx hk
 unfold Hm.val ev
 dsimp only
 have hl := hr.len
 have hend := fun W => end_c a s k _ W rfl (by omega)
 unfold ev at hend
 dsimp only at hend
 obtain ⟨E, hE⟩ : ∃ E, E = a + s := ⟨_, rfl⟩
 rw [← hE] at hend hx ⊢
 obtain ⟨p, hp⟩ : ∃ p, p = (l.take E).drop a := ⟨_, rfl⟩
 rw [← hp]
 have hpl : p.length = s := by rw [hp, List.length_drop, List.length_take]; omega
 have hs9 : s ≤ 900000 := by omega
 obtain ⟨F, hF, hrF⟩ := bty.mid_ hr (i := a) (k := E) (by omega) hx (a : Int) (E : Int) rfl rfl s (by omega)
 rw [← hp] at hrF
 obtain ⟨w1, hw1⟩ : ∃ w1, w1 = w.alloc (.cells #[.int .i64 (a : Int), .int .i64 (s : Int), .int .i64 (k : Int)] 151) := ⟨_, rfl⟩
 have b1 : Below w.heap.size w w1 := by rw [hw1]; exact ej _ _
 have z1 : w1.heap.size = w.heap.size + 1 := by rw [hw1]; simp
 have hbox : Box3 w1 w.heap.size (.int .i64 (a : Int)) (.int .i64 (s : Int)) (.int .i64 (k : Int)) := by rw [hw1]; exact Box3.made _ _ _ _ _
 have ht1 := (ht.below b1).more b1.size
 have hr1 := (hrF.below b1).more b1.size
 have haE : a ≤ E := by omega
 clear hE
 obtain ⟨c0, c1, c2, -, -, -, hlt⟩ := hbox
 rcases blk_ways p k with ⟨x, ho, hx1, hx4, hb⟩ | ⟨o, ho, hol, hw⟩
 ·rw [hb]
  have ho' := fun W (hT : Rn W W.heap.size At 256 ct Cm.tab) (hW : Rb W W.heap.size F s (c - a) p) => open_lit At 256 ct Cm.tab F s (c - a) p W hT (by omega) hW hs9 [] 0 x ho rfl
  have Ht1 := ek ht1; have Hr1 := ek hr1; have Ho := ek ho'; have Hend := ek hend; have W1 := ek hw1
  clear hr ho ho' hb hl hrF hpl hp ht ht1 hr1 hend hw1
  go_enter Tryz.func106, Tryz.ntmps106
  go_wp2_with fail
  rw [← W1.out]
  go_region_held3 (fun w' => w'.cell? ⟨w.heap.size, 0, none⟩ = some (.int .i64 (a : Int)) ∧ w'.cell? ⟨w.heap.size, 1, none⟩ = some (.int .i64 (s : Int)) ∧ w'.cell? ⟨w.heap.size, 2, none⟩ = some (.int .i64 (k : Int))) (go_keep) (first
   | (go_at_call 148; (with_reducible refine (Hend.out _).mono ?_); rintro e w2 ⟨rfl, hb2⟩; have hb2' : Below w1.heap.size w1 w2 := ⟨hb2.os, hb2.tape, hb2.output, hb2.size, hb2.block⟩; have g0 : w2.cell? ⟨w.heap.size, 0, none⟩ = some (.int .i64 (a : Int)) := (hb2'.cell (p := ⟨w.heap.size, 0, none⟩) hlt).trans c0; have g1 : w2.cell? ⟨w.heap.size, 1, none⟩ = some (.int .i64 (s : Int)) := (hb2'.cell (p := ⟨w.heap.size, 1, none⟩) hlt).trans c1; have g2 : w2.cell? ⟨w.heap.size, 2, none⟩ = some (.int .i64 (k : Int)) := (hb2'.cell (p := ⟨w.heap.size, 2, none⟩) hlt).trans c2)
   | (go_at_call 143; (with_reducible refine (Ho.out _ ?_ ?_).mono ?_); exact (Ht1.out.below hb2').more hb2'.size; exact (Hr1.out.below hb2').more hb2'.size; rintro e w3 ⟨A3, c3, rfl, hown3, hb3⟩; have hb3' : Below w2.heap.size w2 w3 := ⟨hb3.os, hb3.tape, hb3.output, hb3.size, hb3.block⟩; have k0 : w3.cell? ⟨w.heap.size, 0, none⟩ = some (.int .i64 (a : Int)) := (hb3'.cell (p := ⟨w.heap.size, 0, none⟩) (Nat.lt_of_lt_of_le hlt hb2'.size)).trans g0; have k1 : w3.cell? ⟨w.heap.size, 1, none⟩ = some (.int .i64 (s : Int)) := (hb3'.cell (p := ⟨w.heap.size, 1, none⟩) (Nat.lt_of_lt_of_le hlt hb2'.size)).trans g1; have k2 : w3.cell? ⟨w.heap.size, 2, none⟩ = some (.int .i64 (k : Int)) := (hb3'.cell (p := ⟨w.heap.size, 2, none⟩) (Nat.lt_of_lt_of_le hlt hb2'.size)).trans g2))
  have b3 : Below w.heap.size w w3 := (b1.trans (hb2'.mono b1.size)).trans (hb3'.mono (Nat.le_trans b1.size hb2'.size))
  clear hown3 hF k0 k1 k2 g0 g1 g2 c0 c1 c2
  go_wp2
  go_ret2
  exact ⟨b3, _, rfl⟩
 ·obtain ⟨q, hq⟩ : ∃ q, o.length = q := ⟨_, rfl⟩
  have hq9 : q ≤ 900000 := by omega
  have ho' := fun W (hT : Rn W W.heap.size At 256 ct Cm.tab) (hW : Rb W W.heap.size F s (c - a) p) => open_lit At 256 ct Cm.tab F s (c - a) p W hT (by omega) hW hs9 o q 0 ho hq
  have Ht1 := ek ht1; have Hr1 := ek hr1; have Ho := ek ho'; have Hend := ek hend; have W1 := ek hw1
  have Hw := ek hw
  clear hr ho ho' hl hrF hpl hp ht ht1 hr1 hend hw1 hol hq hw
  go_enter Tryz.func106, Tryz.ntmps106
  go_wp2_with fail
  rw [← W1.out]
  go_region_held3 (fun w' => w'.cell? ⟨w.heap.size, 0, none⟩ = some (.int .i64 (a : Int)) ∧ w'.cell? ⟨w.heap.size, 1, none⟩ = some (.int .i64 (s : Int)) ∧ w'.cell? ⟨w.heap.size, 2, none⟩ = some (.int .i64 (k : Int))) (go_keep) (first
   | (go_at_call 148; (with_reducible refine (Hend.out _).mono ?_); rintro e w2 ⟨rfl, hb2⟩; have hb2' : Below w1.heap.size w1 w2 := ⟨hb2.os, hb2.tape, hb2.output, hb2.size, hb2.block⟩; have g0 : w2.cell? ⟨w.heap.size, 0, none⟩ = some (.int .i64 (a : Int)) := (hb2'.cell (p := ⟨w.heap.size, 0, none⟩) hlt).trans c0; have g1 : w2.cell? ⟨w.heap.size, 1, none⟩ = some (.int .i64 (s : Int)) := (hb2'.cell (p := ⟨w.heap.size, 1, none⟩) hlt).trans c1; have g2 : w2.cell? ⟨w.heap.size, 2, none⟩ = some (.int .i64 (k : Int)) := (hb2'.cell (p := ⟨w.heap.size, 2, none⟩) hlt).trans c2)
   | (go_at_call 143; (with_reducible refine (Ho.out _ ?_ ?_).mono ?_); exact (Ht1.out.below hb2').more hb2'.size; exact (Hr1.out.below hb2').more hb2'.size; rintro e w3 ⟨A3, c3, rfl, hown3, hb3⟩; have hb3' : Below w2.heap.size w2 w3 := ⟨hb3.os, hb3.tape, hb3.output, hb3.size, hb3.block⟩; have k0 : w3.cell? ⟨w.heap.size, 0, none⟩ = some (.int .i64 (a : Int)) := (hb3'.cell (p := ⟨w.heap.size, 0, none⟩) (Nat.lt_of_lt_of_le hlt hb2'.size)).trans g0; have k1 : w3.cell? ⟨w.heap.size, 1, none⟩ = some (.int .i64 (s : Int)) := (hb3'.cell (p := ⟨w.heap.size, 1, none⟩) (Nat.lt_of_lt_of_le hlt hb2'.size)).trans g1; have k2 : w3.cell? ⟨w.heap.size, 2, none⟩ = some (.int .i64 (k : Int)) := (hb3'.cell (p := ⟨w.heap.size, 2, none⟩) (Nat.lt_of_lt_of_le hlt hb2'.size)).trans g2))
  have b3 : Below w.heap.size w w3 := (b1.trans (hb2'.mono b1.size)).trans (hb3'.mono (Nat.le_trans b1.size hb2'.size))
  have z3 := b3.size
  have hr3 := Own.rbl hown3
  have hlt3 : w.heap.size < w3.heap.size := Nat.lt_of_lt_of_le hlt (Nat.le_trans hb2'.size hb3'.size)
  have hw := Hw.out
  have Hr3 := ek hr3
  clear hown3 hr3 hF k0 k1 g0 g1 g2 c0 c1 c2 Hw Ho Hend Ht1 Hr1
  rcases hw with ⟨u, x, hu, hux, hul, hx1, hx10, hb⟩ | ⟨u, hu, hux, hul, hw⟩
  ·obtain ⟨z, hz⟩ : ∃ z, u.length = z := ⟨_, rfl⟩
   have he := fun W D d (hW : Rb W W.heap.size D q d o) => expand_to D q d o W hW hq9 u z x hu hz hux
   have He := ek he
   have HB := ek hb
   clear hb hu hux hz hul he k2
   go_wp2_with fail
   refine (He.out _ _ _ Hr3.out).mono ?_
   rintro e w4 ⟨A4, c4, rfl, hown4, hb4⟩
   clear hown4
   go_wp2
   go_ret2
   rw [HB.out]
   exact ⟨b3.trans (hb4.mono z3), _, rfl⟩
  ·obtain ⟨z, hz⟩ : ∃ z, u.length = z := ⟨_, rfl⟩
   have hz2 : z ≤ 1000000 := by omega
   have he := fun W D d (hW : Rb W W.heap.size D q d o) => expand_to D q d o W hW hq9 u z 0 hu hz hux
   have He := ek he
   clear hu hux hz hul he
   go_wp2_with fail
   refine (He.out _ _ _ Hr3.out).mono ?_
   rintro e w4 ⟨A4, c4, rfl, hown4, hb4⟩
   have hr4 := Own.rbl hown4
   have b4 := b3.trans (hb4.mono z3)
   have z4 := b4.size
   have m2 := (hb4.cell (p := ⟨w.heap.size, 2, none⟩) hlt3).trans k2
   have hlt4 : w.heap.size < w4.heap.size := Nat.lt_of_lt_of_le hlt3 hb4.size
   have Hr4 := ek hr4
   clear hown4 hr4 k2
   rcases hw with ⟨x, hd, hx1, hx10, hb⟩ | ⟨L, hd, hL5, hw⟩
   ·have hd' := fun W D d (hW : Rb W W.heap.size D z d u) => decode_to D z d u W hW hz2 [] 0 x hd rfl
    have Hd := ek hd'
    have HB := ek hb
    clear hb hd hd'
    go_wp2_with fail
    refine (Hd.out _ _ _ Hr4.out).mono ?_
    rintro e w5 ⟨A5, c5, rfl, hown5, hb5⟩
    have m3 := (hb5.cell (p := ⟨w.heap.size, 2, none⟩) hlt4).trans m2
    clear hown5 m2
    go_wp2
    go_ret2
    rw [HB.out]
    exact ⟨b4.trans (hb5.mono z4), _, rfl⟩
   ·obtain ⟨g, hg⟩ : ∃ g, L.length = g := ⟨_, rfl⟩
    have hd' := fun W D d (hW : Rb W W.heap.size D z d u) => decode_to D z d u W hW hz2 L g 0 hd hg
    have Hd := ek hd'
    rw [hg] at hw hL5
    have Hg := ek hg
    clear hd hd' hg
    go_wp2_with fail
    refine (Hd.out _ _ _ Hr4.out).mono ?_
    rintro e w5 ⟨A5, c5, rfl, hown5, hb5⟩
    have m3 := (hb5.cell (p := ⟨w.heap.size, 2, none⟩) hlt4).trans m2
    have hrl := hown5.from_ (B := w.heap.size) z4
    have Hrl := ek hrl
    clear hown5 hrl m2
    rcases hw with ⟨hgk, hb⟩ | ⟨hgk, hb⟩
    ·have d1 : ((g : Int) == (k : Int)) = false := by simp; omega
     have HB := ek hb
     clear hgk hb
     go_wp2
     go_ret2
     rw [HB.out]
     exact ⟨b4.trans (hb5.mono z4), _, rfl⟩
    ·subst hgk
     have HB := ek hb
     clear hb
     go_wp2
     go_ret2
     rw [HB.out]
     refine ⟨b4.trans (hb5.mono z4), ?_⟩
     show ∃ A c, _ ∧ RLS w5 (Fr w.heap.size w5) A L.length c L
     rw [Hg.out]
     exact ⟨A5, c5, rfl, Hrl.out⟩
def ScP (b : List UInt8) (X : List (Nat × Nat × Nat)) (k : Nat) (P : List (Nat × List (List (List UInt8)))) : Prop := Hm.sc b X = (P ++ (Hm.sc b (X.drop k)).1, (Hm.sc b (X.drop k)).2) ∧ P.length = k
theorem ScP.start (b : List UInt8) (X : List (Nat × Nat × Nat)) : ScP b X 0 [] := ⟨by simp, rfl⟩
theorem ScP.step {b : List UInt8} {X : List (Nat × Nat × Nat)} {k : Nat} {P : List (Nat × List (List (List UInt8)))} {x : Nat × Nat × Nat} {r : List (List (List UInt8))} (h : ScP b X k P) (hx : X[k]? = some x) (hv : Hm.val b x = some r) : ScP b X (k + 1) (P ++ [(x.1, r)]) := by
 obtain ⟨hk, rfl⟩ := List.getElem?_eq_some_iff.1 hx
 refine ⟨?_, by rw [List.length_append, h.2]; rfl⟩
 rw [h.1, List.drop_eq_getElem_cons hk, Hm.sc_some hv, List.append_assoc]
 rfl
theorem ScP.bad {b : List UInt8} {X : List (Nat × Nat × Nat)} {k : Nat} {P : List (Nat × List (List (List UInt8)))} {x : Nat × Nat × Nat} (h : ScP b X k P) (hx : X[k]? = some x) (hv : Hm.val b x = none) : Hm.sc b X = (P, some x.1) := by
 obtain ⟨hk, rfl⟩ := List.getElem?_eq_some_iff.1 hx
 rw [h.1, List.drop_eq_getElem_cons hk, Hm.sc_none hv, List.append_nil]
theorem ScP.end_ {b : List UInt8} {X : List (Nat × Nat × Nat)} {k : Nat} {P : List (Nat × List (List (List UInt8)))} (h : ScP b X k P) (hk : k = X.length) : Hm.sc b X = (P, none) := by
 rw [h.1, hk, List.drop_length]
 simp [Hm.sc]
theorem scS_not {b : List UInt8} (h : Hm.ix b = none) : Hm.scS b = ([], 0, 3) := by unfold Hm.scS; rw [h]; rfl
theorem scS_bad {b : List UInt8} {L : List (Nat × Nat)} {P : List (Nat × List (List (List UInt8)))} {g : Nat} (h : Hm.ix b = some L) (h2 : Hm.sc b (Hm.plc 0 L) = (P, some g)) : Hm.scS b = (P, g, 3) := by unfold Hm.scS; rw [h]; show ((Hm.sc b (Hm.plc 0 L)).1, (Hm.sc b (Hm.plc 0 L)).2.getD b.length, if (Hm.sc b (Hm.plc 0 L)).2.isSome then 3 else 0) = _; rw [h2]; rfl
theorem scS_good {b : List UInt8} {L : List (Nat × Nat)} {P : List (Nat × List (List (List UInt8)))} (h : Hm.ix b = some L) (h2 : Hm.sc b (Hm.plc 0 L) = (P, none)) : Hm.scS b = (P, b.length, 0) := by unfold Hm.scS; rw [h]; show ((Hm.sc b (Hm.plc 0 L)).1, (Hm.sc b (Hm.plc 0 L)).2.getD b.length, if (Hm.sc b (Hm.plc 0 L)).2.isSome then 3 else 0) = _; rw [h2]; rfl
def RetSc (w : World) (t : List (Nat × List (List (List UInt8))) × Nat × Nat) (e : Ending) (w' : World) : Prop :=
 ∃ A c, e = .returned (.tuple #[.slice A t.1.length c, .int .i64 (t.2.1 : Int), .int .i64 (t.2.2 : Int)]) ∧ PLS w' (Fr w.heap.size w') A t.1.length c t.1 ∧ Below w.heap.size w w'
theorem _root_.Go.Proofs.YtkekmokdlgocaaaGreatDoor.RLS.sf {w' : World} {B base : Nat} {A D : Option Addr} {n c : Nat} {l : List (List (List UInt8))} (h : RLS w' (Fr B w') A n c l) (hB : base ≤ B) (hD : ∀ g, ob D = some g → g < B) : RLS w' (Sf base w' D) A n c l :=
 h.keep (stays_weak fun b hb => ⟨by have := hb.1; omega, hb.2, fun e => by have := hD b e.symm; have := hb.1; omega⟩)
theorem box3_new (w : World) (T : TypeId) (v0 v1 v2 : Value) (w' : World) (h : w' = w.alloc (.cells #[v0, v1, v2] T)) :
  Below w.heap.size w w' ∧ w'.heap.size = w.heap.size + 1 ∧ w'.cell? ⟨w.heap.size, 0, none⟩ = some v0 ∧ w'.cell? ⟨w.heap.size, 1, none⟩ = some v1 ∧ w'.cell? ⟨w.heap.size, 2, none⟩ = some v2 := by
 subst h
 have hb := Box3.made w T v0 v1 v2
 exact ⟨ej _ _, by simp, hb.c0, hb.c1, hb.c2⟩
def ScRel (base : Nat) (w : World) (b : List UInt8) (X : List (Nat × Nat × Nat)) (o i : Value) (wr : World) : Prop :=
 ∃ A c vs P, ∃ k : Nat, o = .slice A k c ∧ i = .int .i64 (k : Int) ∧ k ≤ X.length ∧ ScP b X k P ∧ Oc 2 wr 81 base A k c vs ∧ PsS wr (Sf base wr A) vs P ∧ Below base w wr
theorem scan_c (A : Option Addr) (n c : Nat) (l : List UInt8) (w : World) (hr : Rb w w.heap.size A n c l) (hn : n ≤ 900000) :
  Calls Tryz.prog 76 #[.slice A n c] w (RetSc w (Hm.scS l)) := by
 have hl := hr.len
 have hix := fun (At : Option Addr) (W : World) (hT : Rn W W.heap.size At 256 256 Cm.tab) (hW : Rb W W.heap.size A n c l) => indexOf_c At A 256 n c l W hT hW hn
 have hrk := fun (At : Option Addr) (x : Nat × Nat × Nat) (W : World) (hT : Rn W W.heap.size At 256 256 Cm.tab) (hW : Rb W W.heap.size A n c l) (hx : x.1 + x.2.1 ≤ n) (hk : x.2.2 ≤ 5000) => records_c At A 256 n c l x W hT hW hn hx hk
 have Hr := ek hr; have Hl := ek hl; have Hix := ek hix; have Hrk := ek hrk
 clear hr hl hix hrk
 rcases hI : Hm.ix l with _ | L
 ·have hres := scS_not hI
  have HI := ek hI; have Hres := ek hres
  clear hI hres
  go_enter Tryz.func76, Tryz.ntmps76
  go_wp2_with fail
  refine (table_c w).mono ?_
  rintro e w1 ⟨rfl, hT, hb1, hz1⟩
  have hr1 := (Hr.out.below hb1).more hb1.size
  have HT := ek hT; have Hr1 := ek hr1
  clear hT hr1
  go_wp2_with fail
  refine (Hix.out _ _ HT.out Hr1.out).mono ?_
  rw [HI.out]
  rintro e w2 ⟨hb2, rfl⟩
  go_wp2
  go_ret3
  rw [Hres.out]
  exact ⟨none, 0, rfl, PLS.nil, hb1.trans (hb2.mono hb1.size)⟩
 ·obtain ⟨hL5, htot, hok⟩ := Hm.ix_inv hI
  have hmem := Hm.plc_mem L 0 hok
  obtain ⟨X, hX⟩ : ∃ X, X = Hm.plc 0 L := ⟨_, rfl⟩
  have hXl : X.length = L.length := by rw [hX, Hm.plc_len]
  rw [← hX] at hmem
  have hmem2 : ∀ x ∈ X, x.1 + x.2.1 ≤ n ∧ x.2.2 ≤ 5000 := fun x hx => by
   obtain ⟨_, h2, _, _, _, h6⟩ := hmem x hx
   have := Hl.out
   exact ⟨by omega, h6⟩
  have Hmem := ek hmem2; have HI := ek hI; have HX := ek hX
  rw [← hXl] at hL5
  have hN := hL5
  obtain ⟨N, hNX⟩ : ∃ N, X.length = N := ⟨_, rfl⟩
  rw [hNX] at hL5 hXl
  have HNX := ek hNX; have HXl := ek hXl.symm
  clear hmem hmem2 hI htot hok hX hXl hN hNX
  go_enter Tryz.func76, Tryz.ntmps76
  go_wp2_with fail
  refine (table_c w).mono ?_
  rintro e w1 ⟨rfl, hT, hb1, hz1⟩
  have hr1 := (Hr.out.below hb1).more hb1.size
  have HT := ek hT; have Hr1 := ek hr1
  clear hT hr1
  go_wp2_with fail
  refine (Hix.out _ _ HT.out Hr1.out).mono ?_
  rw [HI.out]
  rintro e w2 ⟨hb2, A2, c2, rfl, hre⟩
  rw [← HX.out, HXl.out] at hre
  rw [HXl.out]
  have b2 := hb1.trans (hb2.mono hb1.size)
  have z2 := b2.size
  have z12 := hb2.size
  have hr2 := (Hr.out.below b2).more z2
  have hT2 := (HT.out.below hb2).more z12
  have HT2 := ek hT2; have Hr2 := ek hr2; have Hre := ek hre
  clear hT2 hr2 hre Hr1 HT
  go_wp2
  go_loopw [8, 24] (fun o i wr => ScRel w2.heap.size w2 l X o i wr) (fun _ i _ => N - (intOf i).toNat)
  case atStart => exact ⟨none, 0, [], [], 0, rfl, rfl, Nat.zero_le _, ScP.start _ _, Oc.nil _ _ _ _, PsS.nil, Below.refl _ _⟩
  case round =>
   obtain ⟨A3, c3, vs, P, k, rfl, rfl, hk, hsp, hown, hps, hbel⟩ := hrel
   have z3 := hbel.size
   rw [HNX.out] at hk
   by_cases hlt : k < N
   ·have hrew := (Hre.out.below hbel)
    obtain ⟨eb, eo, x, rfl, heb, hx, e0, e1, e2⟩ := hrew.at_ hlt
    obtain ⟨hx1, hx2⟩ := Hmem.out x (List.mem_of_getElem? hx)
    have heb3 : eb < wr.heap.size := by omega
    obtain ⟨w4, hw4⟩ : ∃ w4, w4 = wr.alloc (.cells #[.int .i64 (x.1 : Int), .int .i64 (x.2.1 : Int), .int .i64 (x.2.2 : Int)] 151) := ⟨_, rfl⟩
    obtain ⟨b4, z4, x0, x1, x2⟩ := box3_new wr _ _ _ _ w4 hw4
    have hr4 := (Hr2.out.below (hbel.trans (b4.mono z3))).more (B' := w4.heap.size) (by omega)
    have hT4 := (HT2.out.below (hbel.trans (b4.mono z3))).more (B' := w4.heap.size) (by omega)
    have hown4 := hown.keep b4
    have hps4 := hps.keep (sf_below b4)
    have bw4 := hbel.trans (b4.mono z3)
    rcases hv : Hm.val l x with _ | r
    ·have hres := scS_bad (HI.out) (by rw [← HX.out]; exact hsp.bad hx hv)
     have Hrk2 := ek (by have := Hrk.out _ x w4 hT4 hr4 hx1 hx2; rw [hv] at this; exact this)
     unfold ev at Hrk2
     have hPk := hsp.2
     have W4 := ek hw4; have Hown4 := ek hown4; have Hps4 := ek hps4; have Hres := ek hres; have HPk := ek hPk
     clear hrew hx hx1 hx2 hw4 hr4 hT4 hown4 hps4 hv hres hown hps hsp hPk
     go_wp2_with fail
     rw [← W4.out]
     refine Hrk2.out.mono ?_
     rintro e w5 ⟨hb5, v5, rfl⟩
     have g0 := (hb5.cell (p := ⟨wr.heap.size, 0, none⟩) (by show wr.heap.size < _; omega)).trans x0
     have bw5 := bw4.trans (hb5.mono (by omega))
     have hfin : PLS w5 (Fr w.heap.size w5) A3 k c3 P := ⟨vs, ((Hown4.out.keep hb5).mono z2).rcS, (Hps4.out.keep (sf_below hb5)).keep (stays_weak fun b hb => ⟨Nat.le_trans z2 hb.1, hb.2.1⟩)⟩
     have Hfin := ek hfin
     clear hfin x0 x1 x2
     go_wp2_with fail
     go_quiet (fail)
     go_wp2
     go_ret3
     rw [Hres.out]
     refine ⟨A3, c3, ?_, ?_, below_drewN (b2.trans (bw5.mono z2)) _⟩
     ·rw [← HPk.out]; rfl
     ·dsimp only
      rw [HPk.out]
      exact Hfin.out
    ·have hst := hsp.step hx hv
     have Hrk2 := ek (by have := Hrk.out _ x w4 hT4 hr4 hx1 hx2; rw [hv] at this; exact this)
     unfold ev at Hrk2
     have W4 := ek hw4; have Hown4 := ek hown4; have Hps4 := ek hps4; have Hst := ek hst; have Hown := ek hown
     clear hrew hx hx1 hx2 hw4 hr4 hT4 hown4 hps4 hv hown hps hsp hst
     go_wp2_with fail
     rw [← W4.out]
     refine Hrk2.out.mono ?_
     rintro e w5 ⟨hb5, A5, c5, rfl, hrl5⟩
     have g0 := (hb5.cell (p := ⟨wr.heap.size, 0, none⟩) (by show wr.heap.size < _; omega)).trans x0
     have bw5 := bw4.trans (hb5.mono (by omega))
     have z5 := bw5.size
     have z45 := hb5.size
     obtain ⟨w6, hw6⟩ : ∃ w6, w6 = w5.alloc (.cells #[.int .i64 (x.1 : Int), .slice A5 r.length c5] 81) := ⟨_, rfl⟩
     have b56 : Below w5.heap.size w5 w6 := by rw [hw6]; exact ej _ _
     have hlit : Rc 2 w6 (w5.heap.size + 1) (some ⟨w5.heap.size, 0, none⟩) 1 1 [.int .i64 (x.1 : Int), .slice A5 r.length c5] := by rw [hw6]; exact Rc.lit (z := 2) w5 _ #[.int .i64 (x.1 : Int), .slice A5 r.length c5] 1 rfl (by simp [maxLen])
     have hown6 := (Hown4.out.keep hb5).keep b56
     have hrl6 : RLS w6 (Sf w2.heap.size w6 A3) A5 r.length c5 r := (hrl5.sf (base := w2.heap.size) (D := A3) (by omega) (fun g hg => (oc_ob Hown4.out g hg).2)).keep (sf_below b56)
     have hps6 := ((Hps4.out.keep (sf_below hb5)).keep (sf_below b56)).snoc (p := (x.1, r)) ⟨rfl, A5, _, c5, rfl, hrl6⟩
     have bw6 := bw5.trans (b56.mono z5)
     have z6 := b56.size
     have W6 := ek hw6; have Hlit := ek hlit; have Hown6 := ek hown6; have Hps6 := ek hps6
     clear hw6 hlit hown6 hps6 hrl6 hrl5 x0 x1 x2 b56
     go_wp2_with (at_builtin; rw [← W6.out]; go_must (refine Sl.wpAppAt pty rfl (.tmp 40) (.tmp 45) rfl (n := k) (m := 1) (N := k + 1) (ws := vs ++ [.int .i64 (x.1 : Int), .slice A5 r.length c5]) rfl rfl Hown6.out Hlit.out ?hs1 rfl rfl ?hs4 ?hs5 ?hs6 ?_))
     case hs1 => simp [Value.oneCell']
     case hs4 => omega
     case hs5 => omega
     case hs6 => omega
     intro A8 c8 w8 hown8 hg8
     have bw8 := bw6.trans (hg8.belowC Hown6.out (by omega))
     have hps8 := Hps6.out.keep (sf_grow hg8)
     have Hown8 := ek hown8; have Hps8 := ek hps8
     clear hown8 hps8 hg8
     go_wp2
     go_roundw
     case rel => exact ⟨A8, c8, vs ++ [.int .i64 (x.1 : Int), .slice A5 r.length c5], P ++ [(x.1, r)], k + 1, rfl, by go_num, by rw [HNX.out]; omega, Hst.out, Hown8.out, Hps8.out, bw8⟩
     case measure => simp [intOf]; omega
   ·have hkN : k = N := by omega
    have hres := scS_good (HI.out) (by rw [← HX.out]; exact hsp.end_ (by rw [HNX.out]; exact hkN))
    rw [Hl.out] at hres
    have hfin : PLS wr (Fr w.heap.size wr) A3 k c3 P := ⟨vs, (hown.mono z2).rcS, hps.keep (stays_weak fun b hb => ⟨Nat.le_trans z2 hb.1, hb.2.1⟩)⟩
    have hPk := hsp.2
    have Hfin := ek hfin; have Hres := ek hres; have HPk := ek hPk
    clear hfin hres hPk hown hps hsp
    go_wp2
    go_ret3
    rw [Hres.out]
    refine ⟨A3, c3, ?_, ?_, b2.trans (hbel.mono z2)⟩
    ·rw [← HPk.out]; rfl
    ·dsimp only
     rw [HPk.out]
     exact Hfin.out
end Go.Proofs.YtkekmokdlgocaaaGreatDoor.Cht
