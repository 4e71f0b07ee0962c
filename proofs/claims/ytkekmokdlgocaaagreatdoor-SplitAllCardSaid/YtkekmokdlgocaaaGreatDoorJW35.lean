import Derived.Test.YtkekmokdlgocaaaGreatDoorJW34
import Derived.Deep.RegionHeld3
set_option maxRecDepth 100000
set_option maxHeartbeats 4000000
namespace Go.Proofs.YtkekmokdlgocaaaGreatDoor.Cht
open Go.RowKit
theorem records_c (At A : Option Addr) (ct n c : Nat) (l : List UInt8) (x : Nat × Nat × Nat) (w : World) (ht : Rn w w.heap.size At 256 ct Cm.tab) (hr : Rb w w.heap.size A n c l) (hn : n ≤ 900000) (hx : x.1 + x.2.1 ≤ n) (hk : x.2.2 ≤ 5000) :
  Calls Tryz.prog 106 #[.slice At 256 ct, .slice A n c, ev x] w (RetRk w (Hm.val l x)) := by
 obtain ⟨a, s, k⟩ := x
 dsimp only at hx hk
 unfold Hm.val ev
 dsimp only
 have hl := hr.len
 have hend := fun W => end_c a s k _ W rfl (by omega)
 unfold ev at hend
 dsimp only at hend
 obtain ⟨E, hE⟩ : ∃ E, E = a + s := ⟨_, rfl⟩
 rw [← hE] at hend hx ⊢
 obtain ⟨p, hp⟩ : ∃ p, p = (l.take E).drop a := ⟨_, rfl⟩
 rw [← hp]
 have hpl : p.length = s := by rw [hp, List.length_drop, List.length_take]; omega
 have hs9 : s ≤ 900000 := by omega
 obtain ⟨F, hF, hrF⟩ := bty.mid_ hr (i := a) (k := E) (by omega) hx (a : Int) (E : Int) rfl rfl s (by omega)
 rw [← hp] at hrF
 obtain ⟨w1, hw1⟩ : ∃ w1, w1 = w.alloc (.cells #[.int .i64 (a : Int), .int .i64 (s : Int), .int .i64 (k : Int)] 151) := ⟨_, rfl⟩
 have b1 : Below w.heap.size w w1 := by rw [hw1]; exact ej _ _
 have z1 : w1.heap.size = w.heap.size + 1 := by rw [hw1]; simp
 have hbox : Box3 w1 w.heap.size (.int .i64 (a : Int)) (.int .i64 (s : Int)) (.int .i64 (k : Int)) := by rw [hw1]; exact Box3.made _ _ _ _ _
 have ht1 := (ht.below b1).more b1.size
 have hr1 := (hrF.below b1).more b1.size
 have haE : a ≤ E := by omega
 clear hE
 obtain ⟨c0, c1, c2, -, -, -, hlt⟩ := hbox
 rcases blk_ways p k with ⟨x, ho, hx1, hx4, hb⟩ | ⟨o, ho, hol, hw⟩
 ·rw [hb]
  have ho' := fun W (hT : Rn W W.heap.size At 256 ct Cm.tab) (hW : Rb W W.heap.size F s (c - a) p) => open_lit At 256 ct Cm.tab F s (c - a) p W hT (by omega) hW hs9 [] 0 x ho rfl
  have Ht1 := ek ht1; have Hr1 := ek hr1; have Ho := ek ho'; have Hend := ek hend; have W1 := ek hw1
  clear hr ho ho' hb hl hrF hpl hp ht ht1 hr1 hend hw1
  go_enter Tryz.func106, Tryz.ntmps106
  go_wp2_with fail
  rw [← W1.out]
  go_region_held3 (fun w' => w'.cell? ⟨w.heap.size, 0,none⟩ = some (.int .i64 (a : Int)) ∧ w'.cell? ⟨w.heap.size, 1,none⟩ = some (.int .i64 (s : Int)) ∧ w'.cell? ⟨w.heap.size, 2,none⟩ = some (.int .i64 (k : Int))) (go_keep) (first
   | (go_at_call 148; (with_reducible refine (Hend.out _).mono ?_); rintro e w2 ⟨rfl, hb2⟩; have hb2' : Below w1.heap.size w1 w2 := ⟨hb2.os, hb2.tape, hb2.output, hb2.size, hb2.block⟩; have g0 : w2.cell? ⟨w.heap.size, 0,none⟩ = some (.int .i64 (a : Int)) := (hb2'.cell (p := ⟨w.heap.size, 0,none⟩) hlt).trans c0; have g1 : w2.cell? ⟨w.heap.size, 1,none⟩ = some (.int .i64 (s : Int)) := (hb2'.cell (p := ⟨w.heap.size, 1,none⟩) hlt).trans c1; have g2 : w2.cell? ⟨w.heap.size, 2,none⟩ = some (.int .i64 (k : Int)) := (hb2'.cell (p := ⟨w.heap.size, 2,none⟩) hlt).trans c2)
   | (go_at_call 143; (with_reducible refine (Ho.out _ ?_ ?_).mono ?_); exact (Ht1.out.below hb2').more hb2'.size; exact (Hr1.out.below hb2').more hb2'.size; rintro e w3 ⟨A3, c3, rfl, hown3, hb3⟩; have hb3' : Below w2.heap.size w2 w3 := ⟨hb3.os, hb3.tape, hb3.output, hb3.size, hb3.block⟩; have k0 : w3.cell? ⟨w.heap.size, 0,none⟩ = some (.int .i64 (a : Int)) := (hb3'.cell (p := ⟨w.heap.size, 0,none⟩) (Nat.lt_of_lt_of_le hlt hb2'.size)).trans g0; have k1 : w3.cell? ⟨w.heap.size, 1,none⟩ = some (.int .i64 (s : Int)) := (hb3'.cell (p := ⟨w.heap.size, 1,none⟩) (Nat.lt_of_lt_of_le hlt hb2'.size)).trans g1; have k2 : w3.cell? ⟨w.heap.size, 2,none⟩ = some (.int .i64 (k : Int)) := (hb3'.cell (p := ⟨w.heap.size, 2,none⟩) (Nat.lt_of_lt_of_le hlt hb2'.size)).trans g2))
  have b3 : Below w.heap.size w w3 := (b1.trans (hb2'.mono b1.size)).trans (hb3'.mono (Nat.le_trans b1.size hb2'.size))
  clear hown3 hF k0 k1 k2 g0 g1 g2 c0 c1 c2
  go_wp2
  go_ret2
  exact ⟨b3, _, rfl⟩
 ·obtain ⟨q, hq⟩ : ∃ q, o.length = q := ⟨_, rfl⟩
  have hq9 : q ≤ 900000 := by omega
  have ho' := fun W (hT : Rn W W.heap.size At 256 ct Cm.tab) (hW : Rb W W.heap.size F s (c - a) p) => open_lit At 256 ct Cm.tab F s (c - a) p W hT (by omega) hW hs9 o q 0 ho hq
  have Ht1 := ek ht1; have Hr1 := ek hr1; have Ho := ek ho'; have Hend := ek hend; have W1 := ek hw1
  have Hw := ek hw
  clear hr ho ho' hl hrF hpl hp ht ht1 hr1 hend hw1 hol hq hw
  go_enter Tryz.func106, Tryz.ntmps106
  go_wp2_with fail
  rw [← W1.out]
  go_region_held3 (fun w' => w'.cell? ⟨w.heap.size, 0,none⟩ = some (.int .i64 (a : Int)) ∧ w'.cell? ⟨w.heap.size, 1,none⟩ = some (.int .i64 (s : Int)) ∧ w'.cell? ⟨w.heap.size, 2,none⟩ = some (.int .i64 (k : Int))) (go_keep) (first
   | (go_at_call 148; (with_reducible refine (Hend.out _).mono ?_); rintro e w2 ⟨rfl, hb2⟩; have hb2' : Below w1.heap.size w1 w2 := ⟨hb2.os, hb2.tape, hb2.output, hb2.size, hb2.block⟩; have g0 : w2.cell? ⟨w.heap.size, 0,none⟩ = some (.int .i64 (a : Int)) := (hb2'.cell (p := ⟨w.heap.size, 0,none⟩) hlt).trans c0; have g1 : w2.cell? ⟨w.heap.size, 1,none⟩ = some (.int .i64 (s : Int)) := (hb2'.cell (p := ⟨w.heap.size, 1,none⟩) hlt).trans c1; have g2 : w2.cell? ⟨w.heap.size, 2,none⟩ = some (.int .i64 (k : Int)) := (hb2'.cell (p := ⟨w.heap.size, 2,none⟩) hlt).trans c2)
   | (go_at_call 143; (with_reducible refine (Ho.out _ ?_ ?_).mono ?_); exact (Ht1.out.below hb2').more hb2'.size; exact (Hr1.out.below hb2').more hb2'.size; rintro e w3 ⟨A3, c3, rfl, hown3, hb3⟩; have hb3' : Below w2.heap.size w2 w3 := ⟨hb3.os, hb3.tape, hb3.output, hb3.size, hb3.block⟩; have k0 : w3.cell? ⟨w.heap.size, 0,none⟩ = some (.int .i64 (a : Int)) := (hb3'.cell (p := ⟨w.heap.size, 0,none⟩) (Nat.lt_of_lt_of_le hlt hb2'.size)).trans g0; have k1 : w3.cell? ⟨w.heap.size, 1,none⟩ = some (.int .i64 (s : Int)) := (hb3'.cell (p := ⟨w.heap.size, 1,none⟩) (Nat.lt_of_lt_of_le hlt hb2'.size)).trans g1; have k2 : w3.cell? ⟨w.heap.size, 2,none⟩ = some (.int .i64 (k : Int)) := (hb3'.cell (p := ⟨w.heap.size, 2,none⟩) (Nat.lt_of_lt_of_le hlt hb2'.size)).trans g2))
  have b3 : Below w.heap.size w w3 := (b1.trans (hb2'.mono b1.size)).trans (hb3'.mono (Nat.le_trans b1.size hb2'.size))
  have z3 := b3.size
  have hr3 := Own.rbl hown3
  have hlt3 : w.heap.size < w3.heap.size := Nat.lt_of_lt_of_le hlt (Nat.le_trans hb2'.size hb3'.size)
  have hw := Hw.out
  have Hr3 := ek hr3
  clear hown3 hr3 hF k0 k1 g0 g1 g2 c0 c1 c2 Hw Ho Hend Ht1 Hr1
  rcases hw with ⟨u, x, hu, hux, hul, hx1, hx10, hb⟩ | ⟨u, hu, hux, hul, hw⟩
  ·obtain ⟨z, hz⟩ : ∃ z, u.length = z := ⟨_, rfl⟩
   have he := fun W D d (hW : Rb W W.heap.size D q d o) => expand_to D q d o W hW hq9 u z x hu hz hux
   have He := ek he
   have HB := ek hb
   clear hb hu hux hz hul he k2
   go_wp2_with fail
   refine (He.out _ _ _ Hr3.out).mono ?_
   rintro e w4 ⟨A4, c4, rfl, hown4, hb4⟩
   clear hown4
   go_wp2
   go_ret2
   rw [HB.out]
   exact ⟨b3.trans (hb4.mono z3), _, rfl⟩
  ·obtain ⟨z, hz⟩ : ∃ z, u.length = z := ⟨_, rfl⟩
   have hz2 : z ≤ 1000000 := by omega
   have he := fun W D d (hW : Rb W W.heap.size D q d o) => expand_to D q d o W hW hq9 u z 0 hu hz hux
   have He := ek he
   clear hu hux hz hul he
   go_wp2_with fail
   refine (He.out _ _ _ Hr3.out).mono ?_
   rintro e w4 ⟨A4, c4, rfl, hown4, hb4⟩
   have hr4 := Own.rbl hown4
   have b4 := b3.trans (hb4.mono z3)
   have z4 := b4.size
   have m2 := (hb4.cell (p := ⟨w.heap.size, 2,none⟩) hlt3).trans k2
   have hlt4 : w.heap.size < w4.heap.size := Nat.lt_of_lt_of_le hlt3 hb4.size
   have Hr4 := ek hr4
   clear hown4 hr4 k2
   rcases hw with ⟨x, hd, hx1, hx10, hb⟩ | ⟨L, hd, hL5, hw⟩
   ·have hd' := fun W D d (hW : Rb W W.heap.size D z d u) => decode_to D z d u W hW hz2 [] 0 x hd rfl
    have Hd := ek hd'
    have HB := ek hb
    clear hb hd hd'
    go_wp2_with fail
    refine (Hd.out _ _ _ Hr4.out).mono ?_
    rintro e w5 ⟨A5, c5, rfl, hown5, hb5⟩
    have m3 := (hb5.cell (p := ⟨w.heap.size, 2,none⟩) hlt4).trans m2
    clear hown5 m2
    go_wp2
    go_ret2
    rw [HB.out]
    exact ⟨b4.trans (hb5.mono z4), _, rfl⟩
   ·obtain ⟨g, hg⟩ : ∃ g, L.length = g := ⟨_, rfl⟩
    have hd' := fun W D d (hW : Rb W W.heap.size D z d u) => decode_to D z d u W hW hz2 L g 0 hd hg
    have Hd := ek hd'
    rw [hg] at hw hL5
    have Hg := ek hg
    clear hd hd' hg
    go_wp2_with fail
    refine (Hd.out _ _ _ Hr4.out).mono ?_
    rintro e w5 ⟨A5, c5, rfl, hown5, hb5⟩
    have m3 := (hb5.cell (p := ⟨w.heap.size, 2,none⟩) hlt4).trans m2
    have hrl := hown5.from_ (B := w.heap.size) z4
    have Hrl := ek hrl
    clear hown5 hrl m2
    rcases hw with ⟨hgk, hb⟩ | ⟨hgk, hb⟩
    ·have d1 : ((g : Int) == (k : Int)) = false := by simp; omega
     have HB := ek hb
     clear hgk hb
     go_wp2
     go_ret2
     rw [HB.out]
     exact ⟨b4.trans (hb5.mono z4), _, rfl⟩
    ·subst hgk
     have HB := ek hb
     clear hb
     go_wp2
     go_ret2
     rw [HB.out]
     refine ⟨b4.trans (hb5.mono z4), ?_⟩
     show ∃ A c, _ ∧ RLS w5 (Fr w.heap.size w5) A L.length c L
     rw [Hg.out]
     exact ⟨A5, c5, rfl, Hrl.out⟩
def ScP (b : List UInt8) (X : List (Nat × Nat × Nat)) (k : Nat) (P : List (Nat × List (List (List UInt8)))) : Prop := Hm.sc b X = (P ++ (Hm.sc b (X.drop k)).1, (Hm.sc b (X.drop k)).2) ∧ P.length = k
theorem ScP.start (b : List UInt8) (X : List (Nat × Nat × Nat)) : ScP b X 0 [] := ⟨by simp, rfl⟩
theorem ScP.step {b : List UInt8} {X : List (Nat × Nat × Nat)} {k : Nat} {P : List (Nat × List (List (List UInt8)))} {x : Nat × Nat × Nat} {r : List (List (List UInt8))} (h : ScP b X k P) (hx : X[k]? = some x) (hv : Hm.val b x = some r) : ScP b X (k + 1) (P ++ [(x.1, r)]) := by
 obtain ⟨hk, rfl⟩ := List.getElem?_eq_some_iff.1 hx
 refine ⟨?_, by rw [List.length_append, h.2]; rfl⟩
 rw [h.1, List.drop_eq_getElem_cons hk, Hm.sc_some hv, List.append_assoc]
 rfl
theorem ScP.bad {b : List UInt8} {X : List (Nat × Nat × Nat)} {k : Nat} {P : List (Nat × List (List (List UInt8)))} {x : Nat × Nat × Nat} (h : ScP b X k P) (hx : X[k]? = some x) (hv : Hm.val b x = none) : Hm.sc b X = (P, some x.1) := by
 obtain ⟨hk, rfl⟩ := List.getElem?_eq_some_iff.1 hx
 rw [h.1, List.drop_eq_getElem_cons hk, Hm.sc_none hv, List.append_nil]
theorem ScP.end_ {b : List UInt8} {X : List (Nat × Nat × Nat)} {k : Nat} {P : List (Nat × List (List (List UInt8)))} (h : ScP b X k P) (hk : k = X.length) : Hm.sc b X = (P, none) := by
 rw [h.1, hk, List.drop_length]
 simp [Hm.sc]
theorem scS_not {b : List UInt8} (h : Hm.ix b = none) : Hm.scS b = ([], 0, 3) := by unfold Hm.scS; rw [h]; rfl
theorem scS_bad {b : List UInt8} {L : List (Nat × Nat)} {P : List (Nat × List (List (List UInt8)))} {g : Nat} (h : Hm.ix b = some L) (h2 : Hm.sc b (Hm.plc 0 L) = (P, some g)) : Hm.scS b = (P, g, 3) := by unfold Hm.scS; rw [h]; show ((Hm.sc b (Hm.plc 0 L)).1, (Hm.sc b (Hm.plc 0 L)).2.getD b.length, if (Hm.sc b (Hm.plc 0 L)).2.isSome then 3 else 0) = _; rw [h2]; rfl
theorem scS_good {b : List UInt8} {L : List (Nat × Nat)} {P : List (Nat × List (List (List UInt8)))} (h : Hm.ix b = some L) (h2 : Hm.sc b (Hm.plc 0 L) = (P, none)) : Hm.scS b = (P, b.length, 0) := by unfold Hm.scS; rw [h]; show ((Hm.sc b (Hm.plc 0 L)).1, (Hm.sc b (Hm.plc 0 L)).2.getD b.length, if (Hm.sc b (Hm.plc 0 L)).2.isSome then 3 else 0) = _; rw [h2]; rfl
def RetSc (w : World) (t : List (Nat × List (List (List UInt8))) × Nat × Nat) (e : Ending) (w' : World) : Prop :=
 ∃ A c, e = .returned (.tuple #[.slice A t.1.length c, .int .i64 (t.2.1 : Int), .int .i64 (t.2.2 : Int)]) ∧ PLS w' (Fr w.heap.size w') A t.1.length c t.1 ∧ Below w.heap.size w w'
theorem _root_.Go.Proofs.YtkekmokdlgocaaaGreatDoor.RLS.sf {w' : World} {B base : Nat} {A D : Option Addr} {n c : Nat} {l : List (List (List UInt8))} (h : RLS w' (Fr B w') A n c l) (hB : base ≤ B) (hD : ∀ g, ob D = some g → g < B) : RLS w' (Sf base w' D) A n c l :=
 h.keep (stays_weak fun b hb => ⟨by have := hb.1; omega, hb.2, fun e => by have := hD b e.symm; have := hb.1; omega⟩)
theorem box3_new (w : World) (T : TypeId) (v0 v1 v2 : Value) (w' : World) (h : w' = w.alloc (.cells #[v0, v1, v2] T)) :
  Below w.heap.size w w' ∧ w'.heap.size = w.heap.size + 1 ∧ w'.cell? ⟨w.heap.size, 0,none⟩ = some v0 ∧ w'.cell? ⟨w.heap.size, 1,none⟩ = some v1 ∧ w'.cell? ⟨w.heap.size, 2,none⟩ = some v2 := by
 subst h
 have hb := Box3.made w T v0 v1 v2
 exact ⟨ej _ _, by simp, hb.c0, hb.c1, hb.c2⟩
def ScRel (base : Nat) (w : World) (b : List UInt8) (X : List (Nat × Nat × Nat)) (o i : Value) (wr : World) : Prop :=
 ∃ A c vs P, ∃ k : Nat, o = .slice A k c ∧ i = .int .i64 (k : Int) ∧ k ≤ X.length ∧ ScP b X k P ∧ Oc 2 wr 81 base A k c vs ∧ PsS wr (Sf base wr A) vs P ∧ Below base w wr
theorem scan_c (A : Option Addr) (n c : Nat) (l : List UInt8) (w : World) (hr : Rb w w.heap.size A n c l) (hn : n ≤ 900000) :
  Calls Tryz.prog 76 #[.slice A n c] w (RetSc w (Hm.scS l)) := by
 have hl := hr.len
 have hix := fun (At : Option Addr) (W : World) (hT : Rn W W.heap.size At 256 256 Cm.tab) (hW : Rb W W.heap.size A n c l) => indexOf_c At A 256 n c l W hT hW hn
 have hrk := fun (At : Option Addr) (x : Nat × Nat × Nat) (W : World) (hT : Rn W W.heap.size At 256 256 Cm.tab) (hW : Rb W W.heap.size A n c l) (hx : x.1 + x.2.1 ≤ n) (hk : x.2.2 ≤ 5000) => records_c At A 256 n c l x W hT hW hn hx hk
 have Hr := ek hr; have Hl := ek hl; have Hix := ek hix; have Hrk := ek hrk
 clear hr hl hix hrk
 rcases hI : Hm.ix l with _ | L
 ·have hres := scS_not hI
  have HI := ek hI; have Hres := ek hres
  clear hI hres
  go_enter Tryz.func76, Tryz.ntmps76
  go_wp2_with fail
  refine (table_c w).mono ?_
  rintro e w1 ⟨rfl, hT, hb1, hz1⟩
  have hr1 := (Hr.out.below hb1).more hb1.size
  have HT := ek hT; have Hr1 := ek hr1
  clear hT hr1
  go_wp2_with fail
  refine (Hix.out _ _ HT.out Hr1.out).mono ?_
  rw [HI.out]
  rintro e w2 ⟨hb2, rfl⟩
  go_wp2
  go_ret3
  rw [Hres.out]
  exact ⟨none, 0, rfl, PLS.nil, hb1.trans (hb2.mono hb1.size)⟩
 ·obtain ⟨hL5, htot, hok⟩ := Hm.ix_inv hI
  have hmem := Hm.plc_mem L 0 hok
  obtain ⟨X, hX⟩ : ∃ X, X = Hm.plc 0 L := ⟨_, rfl⟩
  have hXl : X.length = L.length := by rw [hX, Hm.plc_len]
  rw [← hX] at hmem
  have hmem2 : ∀ x ∈ X, x.1 + x.2.1 ≤ n ∧ x.2.2 ≤ 5000 := fun x hx => by
   obtain ⟨_, h2, _, _, _, h6⟩ := hmem x hx
   have := Hl.out
   exact ⟨by omega, h6⟩
  have Hmem := ek hmem2; have HI := ek hI; have HX := ek hX
  rw [← hXl] at hL5
  have hN := hL5
  obtain ⟨N, hNX⟩ : ∃ N, X.length = N := ⟨_, rfl⟩
  rw [hNX] at hL5 hXl
  have HNX := ek hNX; have HXl := ek hXl.symm
  clear hmem hmem2 hI htot hok hX hXl hN hNX
  go_enter Tryz.func76, Tryz.ntmps76
  go_wp2_with fail
  refine (table_c w).mono ?_
  rintro e w1 ⟨rfl, hT, hb1, hz1⟩
  have hr1 := (Hr.out.below hb1).more hb1.size
  have HT := ek hT; have Hr1 := ek hr1
  clear hT hr1
  go_wp2_with fail
  refine (Hix.out _ _ HT.out Hr1.out).mono ?_
  rw [HI.out]
  rintro e w2 ⟨hb2, A2, c2, rfl, hre⟩
  rw [← HX.out, HXl.out] at hre
  rw [HXl.out]
  have b2 := hb1.trans (hb2.mono hb1.size)
  have z2 := b2.size
  have z12 := hb2.size
  have hr2 := (Hr.out.below b2).more z2
  have hT2 := (HT.out.below hb2).more z12
  have HT2 := ek hT2; have Hr2 := ek hr2; have Hre := ek hre
  clear hT2 hr2 hre Hr1 HT
  go_wp2
  go_loopw [8, 24] (fun o i wr => ScRel w2.heap.size w2 l X o i wr) (fun _ i _ => N - (intOf i).toNat)
  case atStart => exact ⟨none, 0, [], [], 0, rfl, rfl, Nat.zero_le _, ScP.start _ _, Oc.nil _ _ _ _, PsS.nil, Below.refl _ _⟩
  case round =>
   obtain ⟨A3, c3, vs, P, k, rfl, rfl, hk, hsp, hown, hps, hbel⟩ := hrel
   have z3 := hbel.size
   rw [HNX.out] at hk
   by_cases hlt : k < N
   ·have hrew := (Hre.out.below hbel)
    obtain ⟨eb, eo, x, rfl, heb, hx, e0, e1, e2⟩ := hrew.at_ hlt
    obtain ⟨hx1, hx2⟩ := Hmem.out x (List.mem_of_getElem? hx)
    have heb3 : eb < wr.heap.size := by omega
    obtain ⟨w4, hw4⟩ : ∃ w4, w4 = wr.alloc (.cells #[.int .i64 (x.1 : Int), .int .i64 (x.2.1 : Int), .int .i64 (x.2.2 : Int)] 151) := ⟨_, rfl⟩
    obtain ⟨b4, z4, x0, x1, x2⟩ := box3_new wr _ _ _ _ w4 hw4
    have hr4 := (Hr2.out.below (hbel.trans (b4.mono z3))).more (B' := w4.heap.size) (by omega)
    have hT4 := (HT2.out.below (hbel.trans (b4.mono z3))).more (B' := w4.heap.size) (by omega)
    have hown4 := hown.keep b4
    have hps4 := hps.keep (sf_below b4)
    have bw4 := hbel.trans (b4.mono z3)
    rcases hv : Hm.val l x with _ | r
    ·have hres := scS_bad (HI.out) (by rw [← HX.out]; exact hsp.bad hx hv)
     have Hrk2 := ek (by have := Hrk.out _ x w4 hT4 hr4 hx1 hx2; rw [hv] at this; exact this)
     unfold ev at Hrk2
     have hPk := hsp.2
     have W4 := ek hw4; have Hown4 := ek hown4; have Hps4 := ek hps4; have Hres := ek hres; have HPk := ek hPk
     clear hrew hx hx1 hx2 hw4 hr4 hT4 hown4 hps4 hv hres hown hps hsp hPk
     go_wp2_with fail
     rw [← W4.out]
     refine Hrk2.out.mono ?_
     rintro e w5 ⟨hb5, v5, rfl⟩
     have g0 := (hb5.cell (p := ⟨wr.heap.size, 0,none⟩) (by show wr.heap.size < _; omega)).trans x0
     have bw5 := bw4.trans (hb5.mono (by omega))
     have hfin : PLS w5 (Fr w.heap.size w5) A3 k c3 P := ⟨vs, ((Hown4.out.keep hb5).mono z2).rcS, (Hps4.out.keep (sf_below hb5)).keep (stays_weak fun b hb => ⟨Nat.le_trans z2 hb.1, hb.2.1⟩)⟩
     have Hfin := ek hfin
     clear hfin x0 x1 x2
     go_wp2_with fail
     go_quiet (fail)
     go_wp2
     go_ret3
     rw [Hres.out]
     refine ⟨A3, c3, ?_, ?_, below_drewN (b2.trans (bw5.mono z2)) _⟩
     ·rw [← HPk.out]; rfl
     ·dsimp only
      rw [HPk.out]
      exact Hfin.out
    ·have hst := hsp.step hx hv
     have Hrk2 := ek (by have := Hrk.out _ x w4 hT4 hr4 hx1 hx2; rw [hv] at this; exact this)
     unfold ev at Hrk2
     have W4 := ek hw4; have Hown4 := ek hown4; have Hps4 := ek hps4; have Hst := ek hst; have Hown := ek hown
     clear hrew hx hx1 hx2 hw4 hr4 hT4 hown4 hps4 hv hown hps hsp hst
     go_wp2_with fail
     rw [← W4.out]
     refine Hrk2.out.mono ?_
     rintro e w5 ⟨hb5, A5, c5, rfl, hrl5⟩
     have g0 := (hb5.cell (p := ⟨wr.heap.size, 0,none⟩) (by show wr.heap.size < _; omega)).trans x0
     have bw5 := bw4.trans (hb5.mono (by omega))
     have z5 := bw5.size
     have z45 := hb5.size
     obtain ⟨w6, hw6⟩ : ∃ w6, w6 = w5.alloc (.cells #[.int .i64 (x.1 : Int), .slice A5 r.length c5] 81) := ⟨_, rfl⟩
     have b56 : Below w5.heap.size w5 w6 := by rw [hw6]; exact ej _ _
     have hlit : Rc 2 w6 (w5.heap.size + 1) (some ⟨w5.heap.size, 0,none⟩) 1 1 [.int .i64 (x.1 : Int), .slice A5 r.length c5] := by rw [hw6]; exact Rc.lit (z := 2) w5 _ #[.int .i64 (x.1 : Int), .slice A5 r.length c5] 1 rfl (by simp [maxLen])
     have hown6 := (Hown4.out.keep hb5).keep b56
     have hrl6 : RLS w6 (Sf w2.heap.size w6 A3) A5 r.length c5 r := (hrl5.sf (base := w2.heap.size) (D := A3) (by omega) (fun g hg => (oc_ob Hown4.out g hg).2)).keep (sf_below b56)
     have hps6 := ((Hps4.out.keep (sf_below hb5)).keep (sf_below b56)).snoc (p := (x.1, r)) ⟨rfl, A5, _, c5, rfl, hrl6⟩
     have bw6 := bw5.trans (b56.mono z5)
     have z6 := b56.size
     have W6 := ek hw6; have Hlit := ek hlit; have Hown6 := ek hown6; have Hps6 := ek hps6
     clear hw6 hlit hown6 hps6 hrl6 hrl5 x0 x1 x2 b56
     go_wp2_with (at_builtin; rw [← W6.out]; go_must (refine Sl.wpAppAt pty rfl (.tmp 40) (.tmp 45) rfl (n := k) (m := 1) (N := k + 1) (ws := vs ++ [.int .i64 (x.1 : Int), .slice A5 r.length c5]) rfl rfl Hown6.out Hlit.out ?hs1 rfl rfl ?hs4 ?hs5 ?hs6 ?_))
     case hs1 => simp [Value.oneCell']
     case hs4 => omega
     case hs5 => omega
     case hs6 => omega
     intro A8 c8 w8 hown8 hg8
     have bw8 := bw6.trans (hg8.belowC Hown6.out (by omega))
     have hps8 := Hps6.out.keep (sf_grow hg8)
     have Hown8 := ek hown8; have Hps8 := ek hps8
     clear hown8 hps8 hg8
     go_wp2
     go_roundw
     case rel => exact ⟨A8, c8, vs ++ [.int .i64 (x.1 : Int), .slice A5 r.length c5], P ++ [(x.1, r)], k + 1, rfl, by go_num, by rw [HNX.out]; omega, Hst.out, Hown8.out, Hps8.out, bw8⟩
     case measure => simp [intOf]; omega
   ·have hkN : k = N := by omega
    have hres := scS_good (HI.out) (by rw [← HX.out]; exact hsp.end_ (by rw [HNX.out]; exact hkN))
    rw [Hl.out] at hres
    have hfin : PLS wr (Fr w.heap.size wr) A3 k c3 P := ⟨vs, (hown.mono z2).rcS, hps.keep (stays_weak fun b hb => ⟨Nat.le_trans z2 hb.1, hb.2.1⟩)⟩
    have hPk := hsp.2
    have Hfin := ek hfin; have Hres := ek hres; have HPk := ek hPk
    clear hfin hres hPk hown hps hsp
    go_wp2
    go_ret3
    rw [Hres.out]
    refine ⟨A3, c3, ?_, ?_, b2.trans (hbel.mono z2)⟩
    ·rw [← HPk.out]; rfl
    ·dsimp only
     rw [HPk.out]
     exact Hfin.out
theorem _root_.Go.Proofs.YtkekmokdlgocaaaGreatDoor.Rb.at4 {w : World} {B n c q : Nat} {A : Option Addr} {l : List UInt8} (h : Rb w B A n c l) (hq : q + 4 ≤ n) :
  ∃ b off, ∃ x0 x1 x2 x3 : UInt8, A = some ⟨b, off,none⟩ ∧ w.cell? ⟨b, off + q,none⟩ = some (.int .u8 (x0.toNat : Int)) ∧ w.cell? ⟨b, off + (q + 1),none⟩ = some (.int .u8 (x1.toNat : Int)) ∧
   w.cell? ⟨b, off + (q + 2),none⟩ = some (.int .u8 (x2.toNat : Int)) ∧ w.cell? ⟨b, off + (q + 3),none⟩ = some (.int .u8 (x3.toNat : Int)) ∧ (l.drop q).take 4 = [x0, x1, x2, x3] := by
 obtain ⟨h1, h2, h3, h4⟩ := h
 obtain ⟨b, off, e, hb, hc⟩ := h4 (by omega)
 have g : ∀ i, (hi : q + i < l.length) → w.cell? ⟨b, off + (q + i),none⟩ = some (.int .u8 (l[q + i].toNat : Int)) := fun i hi => hc _ _ (List.getElem?_eq_getElem hi)
 refine ⟨b, off, l[q]'(by omega), l[q + 1]'(by omega), l[q + 2]'(by omega), l[q + 3]'(by omega), e, g 0 (by omega), g 1 (by omega), g 2 (by omega), g 3 (by omega), ?_⟩
 rw [List.drop_eq_getElem_cons (by omega : q < l.length), List.drop_eq_getElem_cons (by omega : q + 1 < l.length), List.drop_eq_getElem_cons (by omega : q + 1 + 1 < l.length), List.drop_eq_getElem_cons (by omega : q + 1 + 1 + 1 < l.length)]
 rfl
theorem val4_four' (x0 x1 x2 x3 : UInt8) : Hm.val4 [x0, x1, x2, x3] = x0.toNat + 256 * x1.toNat + 65536 * x2.toNat + 16777216 * x3.toNat := by
 simp only [Hm.val4]
 omega
def RetK (w : World) (a k x : Nat) (R : List UInt8) (e : Ending) (w' : World) : Prop :=
 ∃ E d, e = .returned (.tuple #[.int .u64 (a : Int), .slice E k d, .int .i64 (x : Int)]) ∧ (Own w' 5 w.heap.size E d R ∧ R.length = k) ∧ Below w.heap.size w w'
theorem rtk_ok (A : Option Addr) (n c : Nat) (l : List UInt8) (w : World) (hr : Rb w w.heap.size A n c l) (hn : n ≤ 1000000) (a s k : Nat) (R : List UInt8) (h : Vm.tk l = (a, s, 0)) (hR : l.drop s = R) (hk : R.length = k) :
  Calls Tryz.prog 116 #[.slice A n c] w (RetK w a k 0 R) :=
 (rtake_ok A n c l w hr hn a s h).mono fun e w' hp => by
  subst hR hk
  obtain ⟨E, d, he, ho, hb⟩ := hp
  exact ⟨E, d, he, ⟨ho, rfl⟩, hb⟩
theorem rtk_err (A : Option Addr) (n c : Nat) (l : List UInt8) (w : World) (hr : Rb w w.heap.size A n c l) (hn : n ≤ 1000000) (x : Nat) (h : Vm.tk l = (0, 0, x)) (hx : x = 2 ∨ x = 3) :
  Calls Tryz.prog 116 #[.slice A n c] w (RetK w 0 0 x []) :=
 (rtake_err A n c l w hr hn x h hx).mono fun e w' hp => by
  obtain ⟨E, d, he, ho, hb⟩ := hp
  exact ⟨E, d, he, ⟨ho, rfl⟩, hb⟩
theorem ap_grow {w w' : World} {A A' B : Option Addr} (hg : Grows w w' A A') (hB : ∀ g, ob B = some g → g < w.heap.size) (h : ob A = none ∨ ob A ≠ ob B) : ob A' = none ∨ ob A' ≠ ob B := by
 rcases hg.2 with k | ⟨g, k, k2⟩
 ·rw [k]; exact h
 ·refine .inr fun e => ?_
  rw [k] at e
  have := hB g e.symm
  omega
theorem ap_symm {A B : Option Addr} (h : ob A = none ∨ ob A ≠ ob B) : ob B = none ∨ ob B ≠ ob A := by
 rcases h with h | h
 ·cases hB : ob B with
  | none => exact .inl rfl
  | some g => rw [h]; exact .inr (by simp)
 ·exact .inr h.symm
def zs (D : List (Nat × Nat)) : List Int := D.map fun x => (x.1 : Int)
def ks (D : List (Nat × Nat)) : List Int := D.map fun x => (x.2 : Int)
theorem zs_app (D : List (Nat × Nat)) (x : Nat × Nat) : ivs (zs (D ++ [x])) = ivs (zs D) ++ [.int .i64 (x.1 : Int)] := by simp [ivs, zs]
theorem ks_app (D : List (Nat × Nat)) (x : Nat × Nat) : ivs (ks (D ++ [x])) = ivs (ks D) ++ [.int .i64 (x.2 : Int)] := by simp [ivs, ks]
def RetIx (w : World) (t : Option (List (Nat × Nat))) (e : Ending) (w' : World) : Prop :=
 Below w.heap.size w w' ∧ match t with
 | some L => ∃ A c D d, e = .returned (.tuple #[.slice A L.length c, .slice D L.length d, .bool true]) ∧ Oc 1 w' 3 w.heap.size A L.length c (ivs (zs L)) ∧ Oc 1 w' 3 w.heap.size D L.length d (ivs (ks L))
 | none => ∃ u v, e = .returned (.tuple #[u, v, .bool false])
def IxRel (base : Nat) (w : World) (m : Nat) (T : List UInt8) (r oa ob_ al i : Value) (wr : World) : Prop :=
 ∃ E d R D A ca B cb, ∃ k : Nat, r = .slice E (R : List UInt8).length d ∧ oa = .slice A k ca ∧ ob_ = .slice B k cb ∧ al = .int .i64 ((Hm.tot D : Nat) : Int) ∧ i = .int .u64 (k : Int) ∧ k ≤ m ∧ D.length = k ∧ Hm.tot D ≤ 20000 * k ∧
  Rb wr wr.heap.size E R.length d R ∧ R.length ≤ 1000000 ∧ Oc 1 wr 3 base A k ca (ivs (zs D)) ∧ Oc 1 wr 3 base B k cb (ivs (ks D)) ∧ (ob A = none ∨ ob A ≠ ob B) ∧ Ens m T k D R ∧ Below base w wr
theorem rindex_c (A : Option Addr) (n c : Nat) (l : List UInt8) (w : World) (hr : Rb w w.heap.size A n c l) (hn : n ≤ 900000) :
  Calls Tryz.prog 90 #[.slice A n c] w (RetIx w (Hm.ix l)) := by
 have hl := hr.len
 by_cases h8 : n < 8
 ·have hix : Hm.ix l = none := by unfold Hm.ix; rw [if_pos (by omega)]
  rw [hix]
  obtain ⟨z, hz⟩ : ∃ z : Int, z = (n : Int) - 8 := ⟨_, rfl⟩
  have e1 : IntKind.i64.wrap ((n : Int) - 8) = z := by rw [IntWalk.i64_in _ (by omega)]; omega
  have e2 : ((n : Int) - 8) = z := by omega
  have d1 : decide (z < 0) = true := by simp; omega
  clear hr hl hz h8 hix
  go_enter Tryz.func90, Tryz.ntmps90
  go_wp2
  go_ret3
  exact ⟨Below.refl _ _, _, _, rfl⟩
 obtain ⟨q, hq⟩ : ∃ q, q = n - 8 := ⟨_, rfl⟩
 obtain ⟨m, hm⟩ : ∃ m, m = q + 4 := ⟨_, rfl⟩
 have hq8 : ¬ l.length < 8 := by omega
 have hql : l.length - 8 = q := by omega
 have hql4 : l.length - 4 = m := by omega
 have e1 : IntKind.i64.wrap ((n : Int) - 8) = (q : Int) := by rw [IntWalk.i64_in _ (by omega)]; omega
 have e2 : ((n : Int) - 8) = (q : Int) := by omega
 have d0 : decide ((q : Int) < 0) = false := by simp
 have m1 : IntKind.i64.wrap ((q : Int) + 4) = (m : Int) := by rw [IntWalk.i64_in _ (by omega)]; omega
 have m2 : ((q : Int) + 4) = (m : Int) := by omega
 have hmn : m ≤ n := by omega
 obtain ⟨G, hG, hrG⟩ := bty.from_ hr (k := m) hmn (m : Int) rfl
 have hnm : n - m = 4 := by omega
 rw [hnm] at hG hrG
 by_cases hcd : l.drop m = Hm.tl
 rotate_left
 ·have hix : Hm.ix l = none := by unfold Hm.ix; rw [if_neg hq8, hql4, if_neg hcd]
  rw [hix]
  obtain ⟨T, hT⟩ : ∃ T, T = l.drop m := ⟨_, rfl⟩
  rw [← hT] at hrG hcd
  have cv := bty.conv hrG
  have hne : (T == [67, 72, 83, 84]) = false := beq_eq_false_iff_ne.2 hcd
  clear hr hl hq hm hq8 hql hql4 hrG hT hcd hix h8 hnm
  go_enter Tryz.func90, Tryz.ntmps90
  go_wp2
  go_ret3
  exact ⟨Below.refl _ _, _, _, rfl⟩
 have cv : (convert 22 9 (.slice G 4 (c - m))).run Tryz.prog w = .ok (.string ⟨#[67, 72, 83, 84]⟩) w := by
  have := bty.conv hrG
  rw [hcd] at this
  exact this
 obtain ⟨bb, off, x0, x1, x2, x3, rfl, c0, c1, c2, c3, h4⟩ := hr.at4 (q := q) (by omega)
 have hV4 := val4_four' x0 x1 x2 x3
 rw [← h4] at hV4
 obtain ⟨q1, hq1⟩ : ∃ q1, q1 = q + 1 := ⟨_, rfl⟩
 obtain ⟨q2, hq2⟩ : ∃ q2, q2 = q + 2 := ⟨_, rfl⟩
 obtain ⟨q3, hq3⟩ : ∃ q3, q3 = q + 3 := ⟨_, rfl⟩
 rw [← hq1] at c1
 rw [← hq2] at c2
 rw [← hq3] at c3
 have a0l := x0.toNat_lt
 have a1l := x1.toNat_lt
 have a2l := x2.toNat_lt
 have a3l := x3.toNat_lt
 obtain ⟨a0, ha0⟩ : ∃ a, a = x0.toNat := ⟨_, rfl⟩
 obtain ⟨a1, ha1⟩ : ∃ a, a = x1.toNat := ⟨_, rfl⟩
 obtain ⟨a2, ha2⟩ : ∃ a, a = x2.toNat := ⟨_, rfl⟩
 obtain ⟨a3, ha3⟩ : ∃ a, a = x3.toNat := ⟨_, rfl⟩
 rw [← ha0] at c0 a0l hV4
 rw [← ha1] at c1 a1l hV4
 rw [← ha2] at c2 a2l hV4
 rw [← ha3] at c3 a3l hV4
 have i1 : IntKind.i64.wrap ((q : Int) + 1) = (q1 : Int) := by rw [IntWalk.i64_in _ (by omega)]; omega
 have i1' : ((q : Int) + 1) = (q1 : Int) := by omega
 have i2 : IntKind.i64.wrap ((q : Int) + 2) = (q2 : Int) := by rw [IntWalk.i64_in _ (by omega)]; omega
 have i2' : ((q : Int) + 2) = (q2 : Int) := by omega
 have i3 : IntKind.i64.wrap ((q : Int) + 3) = (q3 : Int) := by rw [IntWalk.i64_in _ (by omega)]; omega
 have i3' : ((q : Int) + 3) = (q3 : Int) := by omega
 have hq0n : q < n := by omega
 have hq1n : q1 < n := by omega
 have hq2n : q2 < n := by omega
 have hq3n : q3 < n := by omega
 obtain ⟨y1, hy1⟩ : ∃ y, y = 256 * a1 := ⟨_, rfl⟩
 obtain ⟨y2, hy2⟩ : ∃ y, y = 65536 * a2 := ⟨_, rfl⟩
 obtain ⟨y3, hy3⟩ : ∃ y, y = 16777216 * a3 := ⟨_, rfl⟩
 have j1 : IntKind.i64.wrap (256 * (a1 : Int)) = (y1 : Int) := by rw [IntWalk.i64_in _ (by omega)]; omega
 have j1' : (256 * (a1 : Int)) = (y1 : Int) := by omega
 have j2 : IntKind.i64.wrap (65536 * (a2 : Int)) = (y2 : Int) := by rw [IntWalk.i64_in _ (by omega)]; omega
 have j2' : (65536 * (a2 : Int)) = (y2 : Int) := by omega
 have j3 : IntKind.i64.wrap (16777216 * (a3 : Int)) = (y3 : Int) := by rw [IntWalk.i64_in _ (by omega)]; omega
 have j3' : (16777216 * (a3 : Int)) = (y3 : Int) := by omega
 obtain ⟨s1, hs1⟩ : ∃ y, y = a0 + y1 := ⟨_, rfl⟩
 obtain ⟨s2, hs2⟩ : ∃ y, y = s1 + y2 := ⟨_, rfl⟩
 obtain ⟨V, hV⟩ : ∃ y, y = s2 + y3 := ⟨_, rfl⟩
 have k1 : IntKind.i64.wrap ((a0 : Int) + (y1 : Int)) = (s1 : Int) := by rw [IntWalk.i64_in _ (by omega)]; omega
 have k1' : ((a0 : Int) + (y1 : Int)) = (s1 : Int) := by omega
 have k2 : IntKind.i64.wrap ((s1 : Int) + (y2 : Int)) = (s2 : Int) := by rw [IntWalk.i64_in _ (by omega)]; omega
 have k2' : ((s1 : Int) + (y2 : Int)) = (s2 : Int) := by omega
 have k3 : IntKind.i64.wrap ((s2 : Int) + (y3 : Int)) = (V : Int) := by rw [IntWalk.i64_in _ (by omega)]; omega
 have k3' : ((s2 : Int) + (y3 : Int)) = (V : Int) := by omega
 have hVV : V = Hm.val4 ((l.drop q).take 4) := by rw [hV4]; omega
 have hVlt : V < 4294967296 := by omega
 clear hV hs1 hs2 hy1 hy2 hy3 ha0 ha1 ha2 ha3 hV4 h4 hrG hq1 hq2 hq3
 by_cases hbig : q < V
 ·have hix : Hm.ix l = none := by unfold Hm.ix; rw [if_neg hq8, hql4, if_pos hcd, hql, ← hVV, if_neg (by omega)]
  rw [hix]
  clear hr hl hq hm hq8 hql hql4 hcd hix h8 hnm hVV
  go_enter Tryz.func90, Tryz.ntmps90
  go_wp2_with fail
  go_quiet (fail)
  go_wp2
  go_ret3
  exact ⟨below_drewN (Below.refl _ _) _, _, _, rfl⟩
 obtain ⟨st, hst⟩ : ∃ st, st = q - V := ⟨_, rfl⟩
 have hix : Hm.ix l = (Hm.opn ((l.take q).drop st)).bind fun i => Hm.idx i st := by unfold Hm.ix; rw [if_neg hq8, hql4, if_pos hcd, hql, ← hVV, if_pos (by omega), ← hst]
 rw [hix]
 have f1 : IntKind.i64.wrap ((q : Int) - (V : Int)) = (st : Int) := by rw [IntWalk.i64_in _ (by omega)]; omega
 have f2 : ((q : Int) - (V : Int)) = (st : Int) := by omega
 have hsq : st ≤ q := by omega
 have hV9 : V ≤ 900000 := by omega
 have hqn : q ≤ n := by omega
 have hst9 : st ≤ 900000 := by omega
 obtain ⟨F, hF, hrF⟩ := bty.mid_ hr (i := st) (k := q) hsq hqn (st : Int) (q : Int) rfl rfl V (by omega)
 obtain ⟨p, hp⟩ : ∃ p, p = (l.take q).drop st := ⟨_, rfl⟩
 rw [← hp] at hrF ⊢
 have hpl : p.length ≤ 900000 := by rw [hp, List.length_drop, List.length_take]; omega
 have HrF := ek hrF
 clear hr hl hq hm hq8 hql hql4 hcd hix h8 hnm hVV hp hrF hst hqn
 rcases openT_kinds p with ⟨o, ho, ho2, hol⟩ | ⟨x, ho, hx, hx4, ho2⟩
 rotate_left
 ·have hres : ((Hm.opn p).bind fun i => Hm.idx i st) = none := by rw [ho2]; rfl
  rw [hres]
  have ho' := fun W (hW : Rb W W.heap.size F V (c - st) p) => (ropened_c F V (c - st) p W hW hV9).mono fun _ _ h => h.lit (m := 0) ho rfl
  have Ho := ek ho'
  have hx1 : 1 ≤ x := by omega
  clear ho ho2 hx hres ho' hpl
  go_enter Tryz.func90, Tryz.ntmps90
  go_wp2_with fail
  go_quiet (fail)
  go_wp2_with fail
  refine (Ho.out _ (HrF.out.drewN _)).mono ?_
  rintro e w1 ⟨G1, g1, rfl, hown1, hb1⟩
  have bw1 : Below w.heap.size w w1 := (below_drewN (Below.refl _ _) _).trans hb1
  have z1 := bw1.size
  clear hown1
  go_wp2
  go_ret3
  exact ⟨bw1, _, _, rfl⟩
 have hres : ((Hm.opn p).bind fun i => Hm.idx i st) = Hm.idx o st := by rw [ho2, Option.bind_some]
 rw [hres]
 obtain ⟨ol, hol2⟩ : ∃ ol, o.length = ol := ⟨_, rfl⟩
 have hol9 : ol ≤ 1000000 := by omega
 have ho' := fun W (hW : Rb W W.heap.size F V (c - st) p) => (ropened_c F V (c - st) p W hW hV9).mono fun _ _ h => h.lit (m := ol) ho hol2
 have Ho := ek ho'
 clear ho ho2 hres ho' hpl hol
 rcases tk_cases o with ⟨a, s, ht, ha, hs, hs10⟩ | ⟨x, ht, hx⟩
 rotate_left
 ·have hres : Hm.idx o st = none := by unfold Hm.idx; rw [Hm.num_err ht (by omega)]; rfl
  rw [hres]
  have htk := fun W E d (hW : Rb W W.heap.size E ol d o) => rtk_err E ol d o W hW hol9 x ht hx
  have Htk := ek htk
  have hx1 : 2 ≤ x := by omega
  clear hres ht hx htk hol2
  go_enter Tryz.func90, Tryz.ntmps90
  go_wp2_with fail
  go_quiet (fail)
  go_wp2_with fail
  refine (Ho.out _ (HrF.out.drewN _)).mono ?_
  rintro e w1 ⟨G1, g1, rfl, hown1, hb1⟩
  have bw1 : Below w.heap.size w w1 := (below_drewN (Below.refl _ _) _).trans hb1
  have z1 := bw1.size
  have hr1 := Own.rbl hown1
  have Hr1 := ek hr1
  clear hown1 hr1
  go_wp2_with fail
  refine (Htk.out _ _ _ Hr1.out).mono ?_
  rintro e w2 ⟨G2, g2, rfl, hown2, hb2⟩
  have bw2 := bw1.trans (hb2.mono z1)
  have z2 := bw2.size
  clear hown2
  go_wp2
  go_ret3
  exact ⟨bw2, _, _, rfl⟩
 obtain ⟨T, hT⟩ : ∃ T, o.drop s = T := ⟨_, rfl⟩
 obtain ⟨tl, htl⟩ : ∃ tl, T.length = tl := ⟨_, rfl⟩
 have htl9 : tl ≤ 1000000 := by rw [← htl, ← hT, List.length_drop]; omega
 have htk := fun W E d (hW : Rb W W.heap.size E ol d o) => rtk_ok E ol d o W hW hol9 a s tl T ht hT htl
 have Htk := ek htk
 by_cases ha5 : 5000 < a
 ·have hres : Hm.idx o st = none := by unfold Hm.idx; rw [Hm.num_out ht (by omega)]; rfl
  rw [hres]
  clear hres ht hT htk hol2 htl hs
  go_enter Tryz.func90, Tryz.ntmps90
  go_wp2_with fail
  go_quiet (fail)
  go_wp2_with fail
  refine (Ho.out _ (HrF.out.drewN _)).mono ?_
  rintro e w1 ⟨G1, g1, rfl, hown1, hb1⟩
  have bw1 : Below w.heap.size w w1 := (below_drewN (Below.refl _ _) _).trans hb1
  have z1 := bw1.size
  have hr1 := Own.rbl hown1
  have Hr1 := ek hr1
  clear hown1 hr1
  go_wp2_with fail
  refine (Htk.out _ _ _ Hr1.out).mono ?_
  rintro e w2 ⟨G2, g2, rfl, hown2, hb2⟩
  have bw2 := bw1.trans (hb2.mono z1)
  have z2 := bw2.size
  clear hown2
  go_wp2
  go_ret3
  exact ⟨bw2, _, _, rfl⟩
 have hres : Hm.idx o st = (Hm.ents a T).bind fun q => if q.2 = [] ∧ Hm.tot q.1 = st then some q.1 else none := by unfold Hm.idx; rw [Hm.num_ok ht (by omega) (by omega), hT]; rfl
 rw [hres]
 have ha5' : a ≤ 5000 := by omega
 subst htl
 clear hres ht hT htk hol2 hs hs10 ha
 go_enter Tryz.func90, Tryz.ntmps90
 go_wp2_with fail
 go_quiet (fail)
 go_wp2_with fail
 refine (Ho.out _ (HrF.out.drewN _)).mono ?_
 rintro e w1 ⟨G1, g1, rfl, hown1, hb1⟩
 have bw1 : Below w.heap.size w w1 := (below_drewN (Below.refl _ _) _).trans hb1
 have z1 := bw1.size
 have hr1 := Own.rbl hown1
 have Hr1 := ek hr1
 clear hown1 hr1
 go_wp2_with fail
 refine (Htk.out _ _ _ Hr1.out).mono ?_
 rintro e w2 ⟨G2, g2, rfl, hown2, hb2⟩
 have bw2 := bw1.trans (hb2.mono z1)
 have z2 := bw2.size
 have hr2 := hown2.1.rb
 have Hr2 := ek hr2
 clear hown2 hr2 hF Hr1
 go_wp2
 go_loopw [7, 11, 12, 13, 14] (fun r oa ob_ al i wr => IxRel w2.heap.size w2 a T r oa ob_ al i wr) (fun _ _ _ _ i _ => a - (intOf i).toNat)
 case atStart =>
  have hA : Oc 1 ((w2.alloc (.cells #[] 3)).alloc (.cells #[] 3)) 3 w2.heap.size (some ⟨w2.heap.size, 0,none⟩) 0 0 (ivs (zs [])) := (Oc.made0 1 w2 3).alloc _
  have hB : Oc 1 ((w2.alloc (.cells #[] 3)).alloc (.cells #[] 3)) 3 w2.heap.size (some ⟨w2.heap.size + 1, 0,none⟩) 0 0 (ivs (ks [])) := by
   have h := Oc.made0 1 (w2.alloc (.cells #[] 3)) 3
   rw [World.size_alloc] at h
   exact h.mono (by omega)
  exact ⟨G2, g2, T, [], _, _, _, _, 0, rfl, rfl, rfl, rfl, rfl, Nat.zero_le _, rfl, Nat.zero_le _, ((Hr2.out.alloc (Nat.le_refl _) _).alloc (by simp) _).more (by simp; omega), htl9, hA, hB, .inr (by simp [ob]), Ens.start a T, (ej _ _).alloc (by simp) _⟩
 case round =>
  obtain ⟨E, d, R, D, A3, ca, B3, cb, k, rfl, rfl, rfl, rfl, rfl, hk, hdk, htt, hr3, hRl, hrowA, hrowB, hap, hst, hbel⟩ := hrel
  have z3 := hbel.size
  have bw3 := bw2.trans (hbel.mono z2)
  by_cases hlt : k < a
  ·rcases tk_cases R with ⟨x, s1, ht, hxa, hs1, hs10⟩ | ⟨x, ht, hx⟩
   rotate_left
   ·have Hf := ek (hst.err hlt (Hm.ent1_none1 (Hm.num_err ht (by omega))))
    have Htk := ek (rtk_err E R.length d R wr hr3 hRl x ht hx)
    have hx1 : 2 ≤ x := by omega
    clear hst hr3 hrowA hrowB hap hdk htt ht hx
    go_wp2_with fail
    refine Htk.out.mono ?_
    rintro e w4 ⟨E4, d4, rfl, hown4, hb4⟩
    have bw4 := bw3.trans (hb4.mono bw3.size)
    have z4 := bw4.size
    clear hown4
    go_wp2
    go_ret3
    rw [Hf.out]
    exact ⟨bw4, _, _, rfl⟩
   obtain ⟨S, hS⟩ : ∃ S, R.drop s1 = S := ⟨_, rfl⟩
   obtain ⟨sl, hsl⟩ : ∃ sl, S.length = sl := ⟨_, rfl⟩
   have hsl9 : sl ≤ 1000000 := by rw [← hsl, ← hS, List.length_drop]; omega
   have Htk := ek (rtk_ok E R.length d R wr hr3 hRl x s1 sl S ht hS hsl)
   by_cases hx0 : x < 1
   ·have Hf := ek (hst.err hlt (Hm.ent1_none1 (Hm.num_out ht (by omega))))
    clear hst hr3 hrowA hrowB hap hdk htt ht hS hsl hs1 hxa
    go_wp2_with fail
    refine Htk.out.mono ?_
    rintro e w4 ⟨E4, d4, rfl, hown4, hb4⟩
    have bw4 := bw3.trans (hb4.mono bw3.size)
    have z4 := bw4.size
    clear hown4
    go_wp2
    go_ret3
    rw [Hf.out]
    exact ⟨bw4, _, _, rfl⟩
   by_cases hx2 : 20000 < x
   ·have Hf := ek (hst.err hlt (Hm.ent1_none1 (Hm.num_out ht (by omega))))
    clear hst hr3 hrowA hrowB hap hdk htt ht hS hsl hs1 hxa
    go_wp2_with fail
    refine Htk.out.mono ?_
    rintro e w4 ⟨E4, d4, rfl, hown4, hb4⟩
    have bw4 := bw3.trans (hb4.mono bw3.size)
    have z4 := bw4.size
    clear hown4
    go_wp2
    go_ret3
    rw [Hf.out]
    exact ⟨bw4, _, _, rfl⟩
   have hn1 := Hm.num_ok (lo := 1) (hi := 20000) ht (by omega) (by omega)
   rw [hS] at hn1
   clear ht hS hxa hs1 hs10
   rcases tk_cases S with ⟨y, s2, ht, hya, hs2, hs20⟩ | ⟨y, ht, hy⟩
   rotate_left
   ·have Hf := ek (hst.err hlt (Hm.ent1_none2 hn1 (Hm.num_err ht (by omega))))
    have htk2 := fun W E' d' (hW : Rb W W.heap.size E' sl d' S) => rtk_err E' sl d' S W hW hsl9 y ht hy
    have Htk2 := ek htk2
    have hy1 : 2 ≤ y := by omega
    clear hst hr3 hrowA hrowB hap hdk htt ht hy hn1 hsl htk2
    go_wp2_with fail
    refine Htk.out.mono ?_
    rintro e w4 ⟨E4, d4, rfl, hown4, hb4⟩
    have bw4 := bw3.trans (hb4.mono bw3.size)
    have z4 := bw4.size
    have hr4 := Own.rbl hown4
    have Hr4 := ek hr4
    clear hown4 hr4
    go_wp2_with fail
    refine (Htk2.out w4 E4 d4 Hr4.out).mono ?_
    rintro e w5 ⟨E5, d5, rfl, hown5, hb5⟩
    have bw5 := bw4.trans (hb5.mono z4)
    have z5 := bw5.size
    clear hown5
    go_wp2
    go_ret3
    rw [Hf.out]
    exact ⟨bw5, _, _, rfl⟩
   obtain ⟨U, hU⟩ : ∃ U, S.drop s2 = U := ⟨_, rfl⟩
   have hUl : U.length ≤ 1000000 := by rw [← hU, List.length_drop]; omega
   have htk2 := fun W E' d' (hW : Rb W W.heap.size E' sl d' S) => rtk_ok E' sl d' S W hW hsl9 y s2 U.length U ht hU rfl
   have Htk2 := ek htk2
   by_cases hy0 : y < 1
   ·have Hf := ek (hst.err hlt (Hm.ent1_none2 hn1 (Hm.num_out ht (by omega))))
    clear hst hr3 hrowA hrowB hap hdk htt ht hn1 hsl htk2 hU hs2 hya
    go_wp2_with fail
    refine Htk.out.mono ?_
    rintro e w4 ⟨E4, d4, rfl, hown4, hb4⟩
    have bw4 := bw3.trans (hb4.mono bw3.size)
    have z4 := bw4.size
    have hr4 := Own.rbl hown4
    have Hr4 := ek hr4
    clear hown4 hr4
    go_wp2_with fail
    refine (Htk2.out w4 E4 d4 Hr4.out).mono ?_
    rintro e w5 ⟨E5, d5, rfl, hown5, hb5⟩
    have bw5 := bw4.trans (hb5.mono z4)
    have z5 := bw5.size
    clear hown5
    go_wp2
    go_ret3
    rw [Hf.out]
    exact ⟨bw5, _, _, rfl⟩
   by_cases hy2 : 5000 < y
   ·have Hf := ek (hst.err hlt (Hm.ent1_none2 hn1 (Hm.num_out ht (by omega))))
    clear hst hr3 hrowA hrowB hap hdk htt ht hn1 hsl htk2 hU hs2 hya
    go_wp2_with fail
    refine Htk.out.mono ?_
    rintro e w4 ⟨E4, d4, rfl, hown4, hb4⟩
    have bw4 := bw3.trans (hb4.mono bw3.size)
    have z4 := bw4.size
    have hr4 := Own.rbl hown4
    have Hr4 := ek hr4
    clear hown4 hr4
    go_wp2_with fail
    refine (Htk2.out w4 E4 d4 Hr4.out).mono ?_
    rintro e w5 ⟨E5, d5, rfl, hown5, hb5⟩
    have bw5 := bw4.trans (hb5.mono z4)
    have z5 := bw5.size
    clear hown5
    go_wp2
    go_ret3
    rw [Hf.out]
    exact ⟨bw5, _, _, rfl⟩
   have hn2 := Hm.num_ok (lo := 1) (hi := 5000) ht (by omega) (by omega)
   rw [hU] at hn2
   have hst' := hst.step hlt (Hm.ent1_ok hn1 hn2)
   have hte : Hm.tot (D ++ [(x, y)]) = Hm.tot D + x := by rw [Hm.tot_app, Hm.tot_cons, Hm.tot_nil, Nat.add_zero]
   have htt' : Hm.tot (D ++ [(x, y)]) ≤ 20000 * (k + 1) := by rw [hte]; omega
   have g1' : IntKind.i64.wrap (((Hm.tot D : Nat) : Int) + (x : Int)) = ((Hm.tot (D ++ [(x, y)]) : Nat) : Int) := by rw [IntWalk.i64_in _ (by omega)]; omega
   have g2' : (((Hm.tot D : Nat) : Int) + (x : Int)) = ((Hm.tot (D ++ [(x, y)]) : Nat) : Int) := by omega
   have Hst := ek hst'; have Htt := ek htt'; have HA := ek hrowA; have HB := ek hrowB; have Hap := ek hap; have Hdk := ek hdk
   clear hst hr3 hrowA hrowB hap hdk htt ht hn1 hn2 hsl htk2 hU hs2 hya hst' hte htt'
   go_wp2_with fail
   refine Htk.out.mono ?_
   rintro e w4 ⟨E4, d4, rfl, hown4, hb4⟩
   have bw4 := bw3.trans (hb4.mono bw3.size)
   have z4 := bw4.size
   have hr4 := Own.rbl hown4
   have Hr4 := ek hr4
   clear hown4 hr4
   go_wp2_with fail
   refine (Htk2.out w4 E4 d4 Hr4.out).mono ?_
   rintro e w5 ⟨E5, d5, rfl, hown5, hb5⟩
   have bw5 := bw4.trans (hb5.mono z4)
   have z5 := bw5.size
   have hA4 := HA.out.keep hb4
   have hB4 := HB.out.keep hb4
   have apA : ob E5 = none ∨ ob E5 ≠ ob A3 := ob_apart (b := w4.heap.size) (fun g hg => (own_ob hown5.1 g hg).1) (fun g hg => (oc_ob hA4 g hg).2)
   have apB : ob E5 = none ∨ ob E5 ≠ ob B3 := ob_apart (b := w4.heap.size) (fun g hg => (own_ob hown5.1 g hg).1) (fun g hg => (oc_ob hB4 g hg).2)
   have bl5 : Below w2.heap.size w2 w5 := (hbel.trans (hb4.mono z3)).trans (hb5.mono (Nat.le_trans z3 hb4.size))
   have q5 := bl5.size
   obtain ⟨w6, h6⟩ : ∃ w6, w6 = w5.alloc (.cells #[.int .i64 (x : Int)] 3) := ⟨_, rfl⟩
   have b56 : Below w5.heap.size w5 w6 := by rw [h6]; exact ej _ _
   have hlit : Rc 1 w6 (w5.heap.size + 1) (some ⟨w5.heap.size, 0,none⟩) 1 1 [.int .i64 (x : Int)] := by rw [h6]; exact Rc.lit (z := 1) w5 _ #[.int .i64 (x : Int)] 1 rfl (by simp [maxLen])
   have hA6 := (hA4.keep hb5).keep b56
   have hB6 := (hB4.keep hb5).keep b56
   have hE6 := hown5.1.keep b56
   have bl6 := bl5.trans (b56.mono q5)
   have q6 := bl6.size
   have W6 := ek h6; have Hlit := ek hlit; have HA6 := ek hA6; have HB6 := ek hB6; have HE6 := ek hE6; have ApA := ek apA; have ApB := ek apB
   clear h6 hlit hA6 hB6 hE6 apA apB hA4 hB4 b56 hown5 Hr4 HA HB
   go_wp2_with (at_builtin; rw [← W6.out]; go_must (refine Sl.wpAppAt ity rfl (.tmp 129) (.tmp 132) rfl (n := k) (m := 1) (N := k + 1) (ws := ivs (zs (D ++ [(x, y)]))) rfl rfl HA6.out Hlit.out ?a1 rfl ?a3 ?a4 ?a5 ?a6 ?_))
   case a1 => simp [Value.oneCell']
   case a3 => first | exact zs_app D (x, y) | exact (zs_app D (x, y)).symm
   case a4 => omega
   case a5 => omega
   case a6 => omega
   intro A7 c7 w7 hA7 hg7
   have hB7 := oc_beside HB6.out hg7 (ap_symm Hap.out)
   have hE7 := own_beside HE6.out hg7 ApA.out
   have ap7 := ap_grow hg7 (fun g hg => (oc_ob HB6.out g hg).2) Hap.out
   have bl7 := bl6.trans (hg7.belowC HA6.out (by omega))
   have q7 := bl7.size
   obtain ⟨w8, h8⟩ : ∃ w8, w8 = w7.alloc (.cells #[.int .i64 (y : Int)] 3) := ⟨_, rfl⟩
   have b78 : Below w7.heap.size w7 w8 := by rw [h8]; exact ej _ _
   have hlit : Rc 1 w8 (w7.heap.size + 1) (some ⟨w7.heap.size, 0,none⟩) 1 1 [.int .i64 (y : Int)] := by rw [h8]; exact Rc.lit (z := 1) w7 _ #[.int .i64 (y : Int)] 1 rfl (by simp [maxLen])
   have hA8 := hA7.keep b78
   have hB8 := hB7.keep b78
   have hE8 := hE7.keep b78
   have bl8 := bl7.trans (b78.mono q7)
   have q8 := bl8.size
   have W8 := ek h8; have Hlit8 := ek hlit; have HA8 := ek hA8; have HB8 := ek hB8; have HE8 := ek hE8; have Ap7 := ek ap7
   clear h8 hlit hA8 hB8 hE8 ap7 hA7 hB7 hE7 hg7 b78 HA6 HB6 HE6 Hlit W6
   go_wp2_with (at_builtin; rw [← W8.out]; go_must (refine Sl.wpAppAt ity rfl (.tmp 134) (.tmp 137) rfl (n := k) (m := 1) (N := k + 1) (ws := ivs (ks (D ++ [(x, y)]))) rfl rfl HB8.out Hlit8.out ?a1 rfl ?a3 ?a4 ?a5 ?a6 ?_))
   case a1 => simp [Value.oneCell']
   case a3 => first | exact ks_app D (x, y) | exact (ks_app D (x, y)).symm
   case a4 => omega
   case a5 => omega
   case a6 => omega
   intro B9 c9 w9 hB9 hg9
   have hA9 := oc_beside HA8.out hg9 Ap7.out
   have hE9 := (own_beside HE8.out hg9 ApB.out).rb
   have ap9 := ap_symm (ap_grow hg9 (fun g hg => (oc_ob HA8.out g hg).2) (ap_symm Ap7.out))
   have bl9 := bl8.trans (hg9.belowC HB8.out (by omega))
   have HA9 := ek hA9; have HB9 := ek hB9; have HE9 := ek hE9; have Ap9 := ek ap9
   clear hA9 hB9 hE9 ap9 hg9 HA8 HB8 HE8 Hlit8 W8
   go_wp2
   go_roundw
   case rel =>
    have hw : (Value.int .i64 (wrap64 ((Hm.tot (D ++ [(x, y)]) : Nat) : Int))) = Value.int .i64 ((Hm.tot (D ++ [(x, y)]) : Nat) : Int) := by have hq := Htt.out; congr 1; unfold wrap64; omega
    exact ⟨E5, d5, U, D ++ [(x, y)], A7, c7, B9, c9, k + 1, rfl, rfl, rfl, hw, by go_num, by omega, by rw [List.length_append, Hdk.out]; rfl, Htt.out, HE9.out, hUl, HA9.out, HB9.out, Ap9.out, Hst.out, bl9⟩
   case measure => simp [intOf]; omega
  ·have hka : k = a := by omega
   subst hka
   have he := hst.end_
   by_cases hR : R = []
   ·have d1 : R.length = 0 := by rw [hR]; rfl
    rw [d1]
    by_cases hM : Hm.tot D = st
    ·have Hres : Hid (((Hm.ents k T).bind fun q => if q.2 = [] ∧ Hm.tot q.1 = st then some q.1 else none) = some D) := ek (by rw [he, Option.bind_some, if_pos ⟨hR, hM⟩])
     have d2 : (((Hm.tot D : Nat) : Int) == (st : Int)) = true := by simp; omega
     have HA := ek (hrowA.mono (base' := w.heap.size) z2); have HB := ek (hrowB.mono (base' := w.heap.size) z2); have Hdk := ek hdk
     clear hst he hr3 hR hM d1 hrowA hrowB hap hdk
     go_wp2
     go_ret3
     rw [Hres.out]
     refine ⟨bw3, ?_⟩
     show ∃ A c B d, _ ∧ Oc 1 wr 3 w.heap.size A D.length c _ ∧ Oc 1 wr 3 w.heap.size B D.length d _
     rw [Hdk.out]
     exact ⟨A3, ca, B3, cb, rfl, HA.out, HB.out⟩
    ·have Hres : Hid (((Hm.ents k T).bind fun q => if q.2 = [] ∧ Hm.tot q.1 = st then some q.1 else none) = none) := ek (by rw [he, Option.bind_some, if_neg fun h => hM h.2])
     have d2 : (((Hm.tot D : Nat) : Int) == (st : Int)) = false := by simp; omega
     clear hst he hr3 hR hM d1 hrowA hrowB hap hdk
     go_wp2
     go_ret3
     rw [Hres.out]
     exact ⟨bw3, _, _, rfl⟩
   ·have Hres : Hid (((Hm.ents k T).bind fun q => if q.2 = [] ∧ Hm.tot q.1 = st then some q.1 else none) = none) := ek (by rw [he, Option.bind_some, if_neg fun h => hR h.1])
    have hp := List.length_pos_iff.2 hR
    obtain ⟨rl, hrl⟩ : ∃ rl, R.length = rl := ⟨_, rfl⟩
    rw [hrl] at hp hRl ⊢
    have d1 : ((rl : Int) == 0) = false := by simp; omega
    clear hst he hr3 hR hrl hrowA hrowB hap hdk
    go_wp2
    go_ret3
    rw [Hres.out]
    exact ⟨bw3, _, _, rfl⟩
theorem zs_get {L : List (Nat × Nat)} {k : Nat} {x : Nat × Nat} (h : L[k]? = some x) : (zs L)[k]? = some (x.1 : Int) := by simp [zs, h]
theorem ks_get {L : List (Nat × Nat)} {k : Nat} {x : Nat × Nat} (h : L[k]? = some x) : (ks L)[k]? = some (x.2 : Int) := by simp [ks, h]
def OutOf (b1 b2 : Nat) (A : Option Addr) : Prop := ∀ g, ob A = some g → g < b1 ∨ b2 ≤ g
theorem OutOf.grow {b1 b2 : Nat} {w w' : World} {A A' : Option Addr} (h : OutOf b1 b2 A) (hg : Grows w w' A A') (hz : b2 ≤ w.heap.size) : OutOf b1 b2 A' := fun g e => by
 rcases hg.2 with k | ⟨g', k, k2⟩
 ·exact h g (k ▸ e)
 ·rw [k] at e; injection e with e; omega
theorem OutOf.ap {b1 b2 : Nat} {A D : Option Addr} (h : OutOf b1 b2 A) (hD : ∀ g, ob D = some g → b1 ≤ g ∧ g < b2) : ob D = none ∨ ob D ≠ ob A := by
 cases e : ob D with
 | none => exact .inl rfl
 | some g =>
  refine .inr fun e2 => ?_
  have h1 := hD g e
  have h2 := h g e2.symm
  omega
def RscRel (w : World) (b : List UInt8) (L : List (Nat × Nat)) (N b1 b2 : Nat) (A2 : Option Addr) (c2 : Nat) (D2 : Option Addr) (d2 : Nat) (o a i : Value) (wr : World) : Prop :=
 ∃ A c vs P, ∃ k : Nat, o = .slice A k c ∧ a = .int .i64 ((Hm.tot (L.take k) : Nat) : Int) ∧ i = .int .i64 (k : Int) ∧ k ≤ N ∧ ScP b (Hm.plc 0 L) k P ∧ Oc 2 wr 81 w.heap.size A k c vs ∧ PsS wr (Sf w.heap.size wr A) vs P ∧
  Oc 1 wr 3 b1 A2 N c2 (ivs (zs L)) ∧ Oc 1 wr 3 b1 D2 N d2 (ivs (ks L)) ∧ OutOf b1 b2 A ∧ b2 ≤ wr.heap.size ∧ Below w.heap.size w wr
theorem tot_take (L : List (Nat × Nat)) (k : Nat) (x : Nat × Nat) (h : L[k]? = some x) : Hm.tot (L.take (k + 1)) = Hm.tot (L.take k) + x.1 := by
 obtain ⟨hk, rfl⟩ := List.getElem?_eq_some_iff.1 h
 rw [List.take_succ_eq_append_getElem hk, Hm.tot_app, Hm.tot_cons, Hm.tot_nil, Nat.add_zero]
theorem tot_take_le (L : List (Nat × Nat)) (k : Nat) : Hm.tot (L.take k) ≤ Hm.tot L := by
 have h := congrArg Hm.tot (List.take_append_drop k L)
 rw [Hm.tot_app] at h
 omega
theorem rscan_c (A : Option Addr) (n c : Nat) (l : List UInt8) (w : World) (hr : Rb w w.heap.size A n c l) (hn : n ≤ 900000) :
  Calls Tryz.prog 63 #[.slice A n c] w (RetSc w (Hm.scS l)) := by
 have hl := hr.len
 have hix := fun (W : World) (hW : Rb W W.heap.size A n c l) => rindex_c A n c l W hW hn
 have Hr := ek hr; have Hl := ek hl; have Hix := ek hix
 clear hr hl hix
 obtain ⟨w1, hw1⟩ : ∃ w1, w1 = w.alloc (.cells #[] 81) := ⟨_, rfl⟩
 have b1 : Below w.heap.size w w1 := by rw [hw1]; exact ej _ _
 have z1 := b1.size
 have hP1 : Oc 2 w1 81 w.heap.size (some ⟨w.heap.size, 0,none⟩) 0 0 [] := by rw [hw1]; exact Oc.made0 2 _ _
 have Hr1 := ek ((Hr.out.below b1).more z1)
 have HP1 := ek hP1; have W1 := ek hw1
 clear hP1 hw1
 rcases hI : Hm.ix l with _ | L
 ·have hres := scS_not hI
  have HI := ek hI; have Hres := ek hres
  clear hI hres
  go_enter Tryz.func63, Tryz.ntmps63
  go_wp2_with fail
  rw [← W1.out]
  refine (Hix.out _ Hr1.out).mono ?_
  rw [HI.out]
  rintro e w2 ⟨hb2, u, v, rfl⟩
  have hfin : PLS w2 (Fr w.heap.size w2) (some ⟨w.heap.size, 0,none⟩) 0 0 [] := ⟨[], (HP1.out.keep hb2).rcS, PsS.nil⟩
  have Hfin := ek hfin
  clear hfin
  go_wp2
  go_ret3
  rw [Hres.out]
  exact ⟨_, _, rfl, Hfin.out, b1.trans (hb2.mono z1)⟩
 ·obtain ⟨hL5, htot, hok⟩ := Hm.ix_inv hI
  have hmem : ∀ x ∈ L, x.2 ≤ 5000 := fun x hx => (hok x hx).2.2.2
  have Hmem := ek hmem; have HI := ek hI
  have Htot := ek htot
  obtain ⟨N, hNL⟩ : ∃ N, L.length = N := ⟨_, rfl⟩
  rw [hNL] at hL5
  have HN := ek hNL
  clear hI hok hmem htot hNL
  go_enter Tryz.func63, Tryz.ntmps63
  go_wp2_with fail
  rw [← W1.out]
  refine (Hix.out _ Hr1.out).mono ?_
  rw [HI.out]
  rintro e w2 ⟨hb2, A2, c2, D2, d2, rfl, hz2, hk2⟩
  rw [HN.out] at hz2 hk2
  rw [HN.out]
  have b2 := b1.trans (hb2.mono z1)
  have z2 := b2.size
  have z12 := hb2.size
  have hr2 := (Hr.out.below b2).more z2
  have hP2 := HP1.out.keep hb2
  have w1s : w1.heap.size = w.heap.size + 1 := by rw [W1.out]; simp
  have hAz : ∀ g, ob A2 = some g → w1.heap.size ≤ g ∧ g < w2.heap.size := fun g hg => oc_ob hz2 g hg
  have hAk : ∀ g, ob D2 = some g → w1.heap.size ≤ g ∧ g < w2.heap.size := fun g hg => oc_ob hk2 g hg
  have hout : OutOf w1.heap.size w2.heap.size (some ⟨w.heap.size, 0,none⟩) := fun g hg => by
   have : w.heap.size = g := by simpa [ob] using hg
   omega
  have HAz := ek hAz; have HAk := ek hAk; have Hr2 := ek hr2; have HP2 := ek hP2; have Hz2 := ek hz2; have Hk2 := ek hk2; have Hout := ek hout
  clear hAz hAk hr2 hP2 hz2 hk2 hout HP1 Hr1
  go_wp2
  go_loopw [5, 9, 10] (fun o a i wr => RscRel w l L N w1.heap.size w2.heap.size A2 c2 D2 d2 o a i wr) (fun _ _ i _ => N - (intOf i).toNat)
  case atStart => exact ⟨_, _, [], [], 0, rfl, rfl, rfl, Nat.zero_le _, ScP.start _ _, HP2.out, PsS.nil, Hz2.out, Hk2.out, Hout.out, Nat.le_refl _, b2⟩
  case round =>
   obtain ⟨A3, c3, vs, P, k, rfl, rfl, rfl, hk, hsp, hown, hps, hA, hD, hout, hz3, hbel⟩ := hrel
   have z3 := hbel.size
   by_cases hlt : k < N
   ·obtain ⟨x, hx⟩ : ∃ x, L[k]? = some x := ⟨_, List.getElem?_eq_getElem (by have := HN.out; omega)⟩
    have hpx := Hm.plc_get L 0 k x hx
    rw [Nat.zero_add] at hpx
    have ht1 := tot_take L k x hx
    have ht2 := tot_take_le L (k + 1)
    have hcn := Hmem.out x (List.mem_of_getElem? hx)
    obtain ⟨ab, ao, v, hAe, hab, c0, hv⟩ := hA.rc.int hlt
    rw [zs_get hx] at hv
    injection hv with hv
    subst hv
    obtain ⟨db, do_, v, hDe, hdb, c1, hv⟩ := hD.rc.int hlt
    rw [ks_get hx] at hv
    injection hv with hv
    subst hv
    subst hAe hDe
    obtain ⟨s, cn⟩ := x
    have hzk : (zs L)[k]? = some (s : Int) := zs_get hx
    have Hzk := ek hzk
    clear hzk
    dsimp only at ht1 hcn c0 c1 hpx
    obtain ⟨a, ha⟩ : ∃ a, a = Hm.tot (L.take k) := ⟨_, rfl⟩
    obtain ⟨E, hE⟩ : ∃ E, E = Hm.tot (L.take (k + 1)) := ⟨_, rfl⟩
    rw [← ha] at hpx
    rw [← ha, ← hE] at ht1
    have hEn : E ≤ n := by have := Htot.out; have := Hl.out; omega
    have hs9 : s ≤ 900000 := by omega
    obtain ⟨p, hp⟩ : ∃ p, p = (l.take E).drop a := ⟨_, rfl⟩
    have hval : Hm.val l (a, s, cn) = Hm.blk p cn := by unfold Hm.val; rw [hp, ht1]
    have hr3 := (Hr.out.below hbel).more (B' := wr.heap.size) (by omega)
    obtain ⟨F, hF, hrF⟩ := bty.mid_ hr3 (i := a) (k := E) (by omega) hEn (a : Int) (E : Int) rfl rfl s (by omega)
    rw [← hp] at hrF
    have haE : a ≤ E := by omega
    have e1 : IntKind.i64.wrap ((a : Int) + (s : Int)) = (E : Int) := by rw [IntWalk.i64_in _ (by omega)]; omega
    have e2 : ((a : Int) + (s : Int)) = (E : Int) := by omega
    have e3 : IntKind.i64.wrap (E : Int) = (E : Int) := by rw [IntWalk.i64_in _ (by omega)]
    have hbk := fun W (hW : Rb W W.heap.size F s (c - a) p) => rblock_c F s (c - a) cn p W hW hs9 hcn
    have HE := ek hE
    clear hE
    rw [← ha]
    rcases hb : Hm.blk p cn with _ | r
    ·have hres := scS_bad HI.out (hsp.bad hpx (by rw [hval, hb]))
     rw [hb] at hbk
     have hPk := hsp.2
     have Hbk := ek hbk; have HrF := ek hrF; have Hres := ek hres; have HPk := ek hPk; have Hown := ek hown; have Hps := ek hps
     clear hbk hrF hres hPk hsp hown hps hA hD hout hpx ht1 ht2 hval hp hb hx ha hr3
     go_wp2_with fail
     go_region_held3 (fun w' => w'.cell? ⟨ab, ao + k,none⟩ = some (.int .i64 (s : Int)) ∧ w'.cell? ⟨db, do_ + k,none⟩ = some (.int .i64 (cn : Int))) (go_keep) (first
      | (go_at_call 91; (with_reducible refine (Hbk.out _ ?_).mono ?_); exact HrF.out; rintro e w4 ⟨hb4, u4, rfl⟩; have hb4' : Below wr.heap.size wr w4 := ⟨hb4.os, hb4.tape, hb4.output, hb4.size, hb4.block⟩; have g0 : w4.cell? ⟨ab, ao + k,none⟩ = some (.int .i64 (s : Int)) := (hb4'.cell (p := ⟨ab, ao + k,none⟩) hab).trans c0; have g1 : w4.cell? ⟨db, do_ + k,none⟩ = some (.int .i64 (cn : Int)) := (hb4'.cell (p := ⟨db, do_ + k,none⟩) hdb).trans c1))
     have hfin : PLS w4 (Fr w.heap.size w4) A3 k c3 P := ⟨vs, (Hown.out.keep hb4').rcS, (Hps.out.keep (sf_below hb4')).keep (stays_weak fun b hb => ⟨hb.1, hb.2.1⟩)⟩
     have Hfin := ek hfin
     clear hfin hF
     go_wp2
     go_ret3
     rw [Hres.out]
     refine ⟨A3, c3, ?_, ?_, hbel.trans (hb4'.mono z3)⟩
     ·rw [← HPk.out]; rfl
     ·dsimp only
      rw [HPk.out]
      exact Hfin.out
    ·have hst := hsp.step hpx (by rw [hval, hb])
     rw [hb] at hbk
     have Hbk := ek hbk; have HrF := ek hrF; have Hst := ek hst; have Hown := ek hown; have Hps := ek hps; have HA := ek hA; have HD := ek hD; have Hout3 := ek hout
     clear hbk hrF hst hsp hown hps hA hD hout hpx ht1 ht2 hval hp hb hx ha hr3
     go_wp2_with fail
     go_region_held3 (fun w' => w'.cell? ⟨ab, ao + k,none⟩ = some (.int .i64 (s : Int)) ∧ w'.cell? ⟨db, do_ + k,none⟩ = some (.int .i64 (cn : Int))) (go_keep) (first
      | (go_at_call 91; (with_reducible refine (Hbk.out _ ?_).mono ?_); exact HrF.out; rintro e w4 ⟨hb4, A5, c5, rfl, hrl5⟩; have hb4' : Below wr.heap.size wr w4 := ⟨hb4.os, hb4.tape, hb4.output, hb4.size, hb4.block⟩; have g0 : w4.cell? ⟨ab, ao + k,none⟩ = some (.int .i64 (s : Int)) := (hb4'.cell (p := ⟨ab, ao + k,none⟩) hab).trans c0; have g1 : w4.cell? ⟨db, do_ + k,none⟩ = some (.int .i64 (cn : Int)) := (hb4'.cell (p := ⟨db, do_ + k,none⟩) hdb).trans c1))
     have bw4 := hbel.trans (hb4'.mono z3)
     have z4 := bw4.size
     have z34 := hb4'.size
     have hrl5' : RLS w4 (Fr wr.heap.size w4) A5 r.length c5 r := hrl5
     obtain ⟨w6, hw6⟩ : ∃ w6, w6 = w4.alloc (.cells #[.int .i64 (a : Int), .slice A5 r.length c5] 81) := ⟨_, rfl⟩
     have b46 : Below w4.heap.size w4 w6 := by rw [hw6]; exact ej _ _
     have hlit : Rc 2 w6 (w4.heap.size + 1) (some ⟨w4.heap.size, 0,none⟩) 1 1 [.int .i64 (a : Int), .slice A5 r.length c5] := by rw [hw6]; exact Rc.lit (z := 2) w4 _ #[.int .i64 (a : Int), .slice A5 r.length c5] 1 rfl (by simp [maxLen])
     have hown6 := (Hown.out.keep hb4').keep b46
     have hA6 := (HA.out.keep hb4').keep b46
     have hD6 := (HD.out.keep hb4').keep b46
     have hrl6 : RLS w6 (Sf w.heap.size w6 A3) A5 r.length c5 r := (hrl5'.sf (base := w.heap.size) (D := A3) (by omega) (fun g hg => (oc_ob Hown.out g hg).2)).keep (sf_below b46)
     have hps6 := ((Hps.out.keep (sf_below hb4')).keep (sf_below b46)).snoc (p := (a, r)) ⟨rfl, A5, _, c5, rfl, hrl6⟩
     have bw6 := bw4.trans (b46.mono z4)
     have z6 := b46.size
     have W6 := ek hw6; have Hlit := ek hlit; have Hown6 := ek hown6; have Hps6 := ek hps6; have HA6 := ek hA6; have HD6 := ek hD6
     clear hw6 hlit hown6 hps6 hrl6 hrl5 hrl5' b46 hA6 hD6 HA HD g0 g1 c0 c1 hF
     go_wp2_with (at_builtin; rw [← W6.out]; go_must (refine Sl.wpAppAt pty rfl (.tmp 50) (.tmp 54) rfl (n := k) (m := 1) (N := k + 1) (ws := vs ++ [.int .i64 (a : Int), .slice A5 r.length c5]) rfl rfl Hown6.out Hlit.out ?hs1 rfl rfl ?hs4 ?hs5 ?hs6 ?_))
     case hs1 => simp [Value.oneCell']
     case hs4 => omega
     case hs5 => omega
     case hs6 => omega
     intro A8 c8 w8 hown8 hg8
     have bw8 := bw6.trans (hg8.belowC Hown6.out (by omega))
     have hps8 := Hps6.out.keep (sf_grow hg8)
     have hA8 := oc_beside HA6.out hg8 (Hout3.out.ap HAz.out)
     have hD8 := oc_beside HD6.out hg8 (Hout3.out.ap HAk.out)
     have hout8 := Hout3.out.grow hg8 (by omega)
     have z8 := hg8.size
     obtain ⟨b', o', v, hAe, -, m0, hv⟩ := hA8.rc.int hlt
     rw [Hzk.out] at hv
     injection hv with hv
     subst hv
     injection hAe with hAe
     injection hAe with h1 h2
     subst h1 h2
     have HA8 := ek hA8; have HD8 := ek hD8; have Hps8 := ek hps8; have Hown8 := ek hown8; have Hout8 := ek hout8
     clear hA8 hD8 hps8 hown8 hout8 hg8 W6 Hlit Hown6 Hps6 HA6 HD6
     go_wp2
     go_roundw
     case rel => exact ⟨A8, c8, vs ++ [.int .i64 (a : Int), .slice A5 r.length c5], P ++ [(a, r)], k + 1, rfl, by rw [← HE.out], by go_num, by omega, Hst.out, Hown8.out, Hps8.out, HA8.out, HD8.out, Hout8.out, by omega, bw8⟩
     case measure => simp [intOf]; omega
   ·have hkN : k = N := by omega
    have hres := scS_good (HI.out) (hsp.end_ (by rw [Hm.plc_len, HN.out]; exact hkN))
    rw [Hl.out] at hres
    have hfin : PLS wr (Fr w.heap.size wr) A3 k c3 P := ⟨vs, hown.rcS, hps.keep (stays_weak fun b hb => ⟨hb.1, hb.2.1⟩)⟩
    have hPk := hsp.2
    have Hfin := ek hfin; have Hres := ek hres; have HPk := ek hPk
    clear hfin hres hPk hown hps hsp hA hD hout
    go_wp2
    go_ret3
    rw [Hres.out]
    refine ⟨A3, c3, ?_, ?_, hbel⟩
    ·rw [← HPk.out]; rfl
    ·dsimp only
     rw [HPk.out]
     exact Hfin.out
end Go.Proofs.YtkekmokdlgocaaaGreatDoor.Cht
