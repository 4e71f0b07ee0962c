/-
  Joined: Zi.
-/
import Derived.Test.YtplkjljhpmldfaaJ38
import Derived.Test.YtplkjljhpmldfaaJ46
/-
  chest.readValid, Read: what each call returns and leaves.
-/
namespace Go.Proofs.Ytplkjljhpmldfaa
open Go.RowKit

/-- So many entries have been looked at. -/
def RvP (b : List UInt8) (f t g : Nat) (X : List (Nat × Nat × Nat)) (k : Nat) (R : List (List (List UInt8))) : Prop := Hm.rv b f t g X = R ++ Hm.rv b f t g (X.drop k)
section
variable {b : List UInt8} {f t g k : Nat} {X : List (Nat × Nat × Nat)} {R : List (List (List UInt8))} {x : Nat × Nat × Nat}
theorem RvP.start (b : List UInt8) (f t g : Nat) (X : List (Nat × Nat × Nat)) : RvP b f t g X 0 [] := by simp [RvP]
theorem RvP.skip (h : RvP b f t g X k R) (hx : X[k]? = some x) (h1 : x.1 < f) : RvP b f t g X (k + 1) R := by
  obtain ⟨hk, rfl⟩ := List.getElem?_eq_some_iff.1 hx
  unfold RvP at h ⊢
  rw [h, List.drop_eq_getElem_cons hk, Hm.rv_skip h1]
theorem RvP.stop (h : RvP b f t g X k R) (hx : X[k]? = some x) (h1 : ¬ x.1 < f) (h2 : t ≤ x.1 ∨ g < x.1 + x.2.1) : Hm.rv b f t g X = R := by
  obtain ⟨hk, rfl⟩ := List.getElem?_eq_some_iff.1 hx
  rw [h, List.drop_eq_getElem_cons hk, Hm.rv_stop h1 h2, List.append_nil]
theorem RvP.bad (h : RvP b f t g X k R) (hx : X[k]? = some x) (h1 : ¬ x.1 < f) (h2 : ¬ (t ≤ x.1 ∨ g < x.1 + x.2.1)) (h3 : Hm.val b x = none) : Hm.rv b f t g X = R := by
  obtain ⟨hk, rfl⟩ := List.getElem?_eq_some_iff.1 hx
  rw [h, List.drop_eq_getElem_cons hk, Hm.rv_bad h1 h2 h3, List.append_nil]
theorem RvP.more {l : List (List (List UInt8))} (h : RvP b f t g X k R) (hx : X[k]? = some x) (h1 : ¬ x.1 < f) (h2 : ¬ (t ≤ x.1 ∨ g < x.1 + x.2.1)) (h3 : Hm.val b x = some l) : RvP b f t g X (k + 1) (R ++ l) := by
  obtain ⟨hk, rfl⟩ := List.getElem?_eq_some_iff.1 hx
  unfold RvP at h ⊢
  rw [h, List.drop_eq_getElem_cons hk, Hm.rv_more h1 h2 h3, List.append_assoc]
theorem RvP.end_ (h : RvP b f t g X k R) (hk : k = X.length) : Hm.rv b f t g X = R := by
  rw [h, hk, List.drop_length]
  simp [Hm.rv]
end
/-- What Read's entries come to. -/
def rvO (b : List UInt8) (f t g : Nat) : List (List (List UInt8)) := match Hm.ix b with | none => [] | some L => Hm.rv b f t g (Hm.plc 0 L)
theorem rvO_none {b : List UInt8} {f t g : Nat} (h : Hm.ix b = none) : rvO b f t g = [] := by unfold rvO; rw [h]
theorem rvO_some {b : List UInt8} {f t g : Nat} {L : List (Nat × Nat)} (h : Hm.ix b = some L) : rvO b f t g = Hm.rv b f t g (Hm.plc 0 L) := by unfold rvO; rw [h]
/-- Records. -/
def RetRL (w : World) (L : List (List (List UInt8))) (e : Ending) (w' : World) : Prop :=
  ∃ A c, e = .returned (.slice A L.length c) ∧ RLS w' (Fr w.heap.size w') A L.length c L ∧ Below w.heap.size w w'
/-- Rows whose blocks are S but for one that grows. -/
theorem RrsS.app {w : World} {S : Nat → Prop} {vs us : List Value} {l m : List (List (List UInt8))} (h : RrsS w S vs l) (k : RrsS w S us m) : RrsS w S (vs ++ us) (l ++ m) := h.append k
def RvRel (base : Nat) (w : World) (b : List UInt8) (f t g : Nat) (X : List (Nat × Nat × Nat)) (o i : Value) (wr : World) : Prop :=
  ∃ A c vs R, ∃ k : Nat, o = .slice A (List.length R) c ∧ i = .int .i64 (k : Int) ∧ k ≤ X.length ∧ R.length ≤ 5000 * k ∧ RvP b f t g X k R ∧ Oc 1 wr 48 base A (List.length R) c vs ∧ RrsS wr (Sf base wr A) vs R ∧ Below base w wr

set_option maxRecDepth 100000 in
set_option maxHeartbeats 8000000 in
/-- readValid -/
theorem rvalid_c (A : Option Addr) (n c : Nat) (l : List UInt8) (f t g : Nat) (w : World) (hr : Rb w w.heap.size A n c l) (hn : n ≤ 900000) :
    Calls Try.prog 23 #[.slice A n c, .int .i64 (f : Int), .int .i64 (t : Int), .int .i64 (g : Int)] w (RetRL w (rvO l f t g)) := by
  have hl := hr.len
  have hix := fun (At : Option Addr) (W : World) (hT : Rn W W.heap.size At 256 256 Cm.tab) (hW : Rb W W.heap.size A n c l) => indexOf_c At A 256 n c l W hT hW hn
  have hrk := fun (At : Option Addr) (x : Nat × Nat × Nat) (W : World) (hT : Rn W W.heap.size At 256 256 Cm.tab) (hW : Rb W W.heap.size A n c l) (hx : x.1 + x.2.1 ≤ n) (hk : x.2.2 ≤ 5000) => records_c At A 256 n c l x W hT hW hn hx hk
  have Hr := Lib.hid hr; have Hl := Lib.hid hl; have Hix := Lib.hid hix; have Hrk := Lib.hid hrk
  clear hr hl hix hrk
  rcases hI : Hm.ix l with _ | L
  · have hres := rvO_none (f := f) (t := t) (g := g) hI
    have HI := Lib.hid hI; have Hres := Lib.hid hres
    clear hI hres
    go_enter Try.func23, Try.ntmps23
    go_wp2_with fail
    refine (table_c w).mono ?_
    rintro e w1 ⟨rfl, hT, hb1, hz1⟩
    have hr1 := (Hr.out.below hb1).more hb1.size
    have HT := Lib.hid hT; have Hr1 := Lib.hid hr1
    clear hT hr1
    go_wp2_with fail
    refine (Hix.out _ _ HT.out Hr1.out).mono ?_
    rw [HI.out]
    rintro e w2 ⟨hb2, rfl⟩
    have bz := hb1.trans (hb2.mono hb1.size)
    go_wp2
    go_loopw [9, 26] (fun o i wr => o = .slice none 0 0 ∧ i = .int .i64 0 ∧ Below w.heap.size w wr) (fun _ i _ => 0)
    case atStart => exact ⟨rfl, rfl, bz⟩
    case round =>
      obtain ⟨rfl, rfl, hbel⟩ := hrel
      go_wp2
      go_ret
      rw [Hres.out]
      exact ⟨none, 0, rfl, RLS.nil, hbel⟩
  · obtain ⟨hL5, htot, hok⟩ := Hm.ix_inv hI
    have hres := rvO_some (f := f) (t := t) (g := g) hI
    have hmem := Hm.plc_mem L 0 hok
    obtain ⟨X, hX⟩ : ∃ X, X = Hm.plc 0 L := ⟨_, rfl⟩
    have hXl : X.length = L.length := by rw [hX, Hm.plc_len]
    rw [← hX] at hmem hres
    have hmem2 : ∀ x ∈ X, x.1 + x.2.1 ≤ n ∧ x.2.2 ≤ 5000 := fun x hx => by
      obtain ⟨_, h2, _, _, _, h6⟩ := hmem x hx
      have := Hl.out
      exact ⟨by omega, h6⟩
    have Hmem := Lib.hid hmem2; have HI := Lib.hid hI; have HX := Lib.hid hX; have Hres := Lib.hid hres
    obtain ⟨N, hNX⟩ : ∃ N, X.length = N := ⟨_, rfl⟩
    rw [← hXl, hNX] at hL5
    rw [hNX] at hXl
    have HNX := Lib.hid hNX; have HXl := Lib.hid hXl.symm
    clear hmem hmem2 hI htot hok hX hXl hNX hres
    go_enter Try.func23, Try.ntmps23
    go_wp2_with fail
    refine (table_c w).mono ?_
    rintro e w1 ⟨rfl, hT, hb1, hz1⟩
    have hr1 := (Hr.out.below hb1).more hb1.size
    have HT := Lib.hid hT; have Hr1 := Lib.hid hr1
    clear hT hr1
    go_wp2_with fail
    refine (Hix.out _ _ HT.out Hr1.out).mono ?_
    rw [HI.out]
    rintro e w2 ⟨hb2, A2, c2, rfl, hre⟩
    rw [← HX.out, HXl.out] at hre
    rw [HXl.out]
    have b2 := hb1.trans (hb2.mono hb1.size)
    have z2 := b2.size
    have z12 := hb2.size
    have hr2 := (Hr.out.below b2).more z2
    have hT2 := (HT.out.below hb2).more z12
    have HT2 := Lib.hid hT2; have Hr2 := Lib.hid hr2; have Hre := Lib.hid hre
    clear hT2 hr2 hre Hr1 HT
    go_wp2
    go_loopw [9, 26] (fun o i wr => RvRel w2.heap.size w2 l f t g X o i wr) (fun _ i _ => N - (intOf i).toNat)
    case atStart => exact ⟨none, 0, [], [], 0, rfl, rfl, Nat.zero_le _, Nat.zero_le _, RvP.start _ _ _ _ _, Oc.nil _ _ _ _, RrsS.nil, Below.refl _ _⟩
    case round =>
      obtain ⟨A3, c3, vs, R, k, rfl, rfl, hk, hRl, hsp, hown, hps, hbel⟩ := hrel
      have z3 := hbel.size
      rw [HNX.out] at hk
      have hfin : RLS wr (Fr w.heap.size wr) A3 R.length c3 R := ⟨vs, (hown.mono z2).rcS, hps.keep (stays_weak fun b hb => ⟨Nat.le_trans z2 hb.1, hb.2.1⟩)⟩
      have bz := b2.trans (hbel.mono z2)
      by_cases hlt : k < N
      · have hrew := (Hre.out.below hbel)
        obtain ⟨eb, eo, x, rfl, heb, hx, e0, e1, e2⟩ := hrew.at_ hlt
        obtain ⟨hx1, hx2⟩ := Hmem.out x (List.mem_of_getElem? hx)
        obtain ⟨w4, hw4⟩ : ∃ w4, w4 = wr.alloc (.cells #[.int .i64 (x.1 : Int), .int .i64 (x.2.1 : Int), .int .i64 (x.2.2 : Int)] 65) := ⟨_, rfl⟩
        obtain ⟨b4, z4, x0, x1, x2⟩ := box3_new wr _ _ _ _ w4 hw4
        have hr4 := (Hr2.out.below (hbel.trans (b4.mono z3))).more (B' := w4.heap.size) (by omega)
        have hT4 := (HT2.out.below (hbel.trans (b4.mono z3))).more (B' := w4.heap.size) (by omega)
        have hown4 := hown.keep b4
        have hps4 := hps.keep (sf_below b4)
        have bw4 := hbel.trans (b4.mono z3)
        have bz4 := b2.trans (bw4.mono z2)
        have hrkx := Hrk.out _ x w4 hT4 hr4 hx1 hx2
        have hfin4 : RLS w4 (Fr w.heap.size w4) A3 R.length c3 R := ⟨vs, (hown4.mono z2).rcS, hps4.keep (stays_weak fun b hb => ⟨Nat.le_trans z2 hb.1, hb.2.1⟩)⟩
        obtain ⟨a, s, cn⟩ := x
        dsimp only at hx1 hx2 e0 e1 e2 x0 x1 x2 hw4
        have hval : Hm.val l (a, s, cn) = Hm.val l (a, s, cn) := rfl
        have hend := fun W => end_c a s cn _ W rfl (by omega)
        unfold ev at hend hrkx
        dsimp only at hend hrkx
        obtain ⟨E, hE⟩ : ∃ E, E = a + s := ⟨_, rfl⟩
        rw [← hE] at hend
        clear hval
        by_cases hxf : a < f
        · have hst := hsp.skip hx hxf
          have Hst := Lib.hid hst; have Hown4 := Lib.hid hown4; have Hps4 := Lib.hid hps4; have W4 := Lib.hid hw4
          clear hst hown4 hps4 hw4 hr4 hT4 hown hps hsp hfin hfin4 hrkx hend hrew hx hE x0 x1 x2
          go_wp2
          go_roundw
          case rel =>
            rw [← W4.out]
            exact ⟨A3, c3, vs, R, k + 1, rfl, by go_num, by rw [HNX.out]; omega, by omega, Hst.out, Hown4.out, Hps4.out, bw4⟩
          case measure => simp [intOf]; omega
        · by_cases hta : t ≤ a
          · have he := hsp.stop hx hxf (.inl hta)
            have He := Lib.hid he; have Hfin4 := Lib.hid hfin4; have W4 := Lib.hid hw4
            clear he hown4 hps4 hw4 hr4 hT4 hown hps hsp hfin hfin4 hrkx hend hrew hx hE x0 x1 x2
            go_wp2
            go_ret
            rw [← W4.out, Hres.out, He.out]
            exact ⟨A3, c3, rfl, Hfin4.out, bz4⟩
          · by_cases hgE : g < E
            · have he := hsp.stop hx hxf (.inr (by dsimp only; omega))
              have He := Lib.hid he; have Hown4 := Lib.hid hown4; have Hps4 := Lib.hid hps4; have W4 := Lib.hid hw4; have Hend := Lib.hid hend
              clear he hown4 hps4 hw4 hr4 hT4 hown hps hsp hfin hfin4 hrkx hend hrew hx hE
              go_wp2_with fail
              rw [← W4.out]
              refine (Hend.out w4).mono ?_
              rintro e w5 ⟨rfl, hb5⟩
              have hfin5 : RLS w5 (Fr w.heap.size w5) A3 R.length c3 R := ⟨vs, ((Hown4.out.keep hb5).mono z2).rcS, (Hps4.out.keep (sf_below hb5)).keep (stays_weak fun b hb => ⟨Nat.le_trans z2 hb.1, hb.2.1⟩)⟩
              have Hfin5 := Lib.hid hfin5
              clear hfin5 x0 x1 x2
              go_wp2
              go_ret
              rw [Hres.out, He.out]
              exact ⟨A3, c3, rfl, Hfin5.out, bz4.trans (hb5.mono bz4.size)⟩
            · have hno : ¬ (t ≤ a ∨ g < a + s) := by omega
              have hrk5 := fun (W : World) (hB : Below w4.heap.size w4 W) => Hrk.out _ (a, s, cn) W ((hT4.below hB).more hB.size) ((hr4.below hB).more hB.size) hx1 hx2
              unfold ev at hrk5
              rcases hv : Hm.val l (a, s, cn) with _ | r
              · have he := hsp.bad hx hxf hno hv
                rw [hv] at hrk5
                have He := Lib.hid he; have Hown4 := Lib.hid hown4; have Hps4 := Lib.hid hps4; have W4 := Lib.hid hw4; have Hend := Lib.hid hend; have Hrk5 := Lib.hid hrk5
                clear he hown4 hps4 hw4 hr4 hT4 hown hps hsp hfin hfin4 hrkx hend hrew hx hE hrk5 hno hv
                go_wp2_with fail
                rw [← W4.out]
                refine (Hend.out w4).mono ?_
                rintro e w5 ⟨rfl, hb5⟩
                have y0 := (hb5.cell (p := ⟨wr.heap.size, 0, none⟩) (by show wr.heap.size < _; omega)).trans x0
                have y1 := (hb5.cell (p := ⟨wr.heap.size, 1, none⟩) (by show wr.heap.size < _; omega)).trans x1
                have y2 := (hb5.cell (p := ⟨wr.heap.size, 2, none⟩) (by show wr.heap.size < _; omega)).trans x2
                have Hown5 := Lib.hid (Hown4.out.keep hb5); have Hps5 := Lib.hid (Hps4.out.keep (sf_below hb5))
                clear x0 x1 x2 Hown4 Hps4
                go_wp2_with fail
                refine (Hrk5.out w5 hb5).mono ?_
                rintro e w6 ⟨hb6, v6, rfl⟩
                have hfin6 : RLS w6 (Fr w.heap.size w6) A3 R.length c3 R := ⟨vs, ((Hown5.out.keep hb6).mono z2).rcS, (Hps5.out.keep (sf_below hb6)).keep (stays_weak fun b hb => ⟨Nat.le_trans z2 hb.1, hb.2.1⟩)⟩
                have Hfin6 := Lib.hid hfin6
                have bz5 := bz4.trans (hb5.mono bz4.size)
                clear hfin6 y0 y1 y2
                go_wp2
                go_ret
                rw [Hres.out, He.out]
                exact ⟨A3, c3, rfl, Hfin6.out, bz5.trans (hb6.mono bz5.size)⟩
              · have hst := hsp.more hx hxf hno hv
                have hrl5 : r.length ≤ 5000 := by
                  have h := (Hm.blk_inv hv).1
                  dsimp only at h
                  omega
                rw [hv] at hrk5
                have Hst := Lib.hid hst; have Hown4 := Lib.hid hown4; have Hps4 := Lib.hid hps4; have W4 := Lib.hid hw4; have Hend := Lib.hid hend; have Hrk5 := Lib.hid hrk5
                clear hst hown4 hps4 hw4 hr4 hT4 hown hps hsp hfin hfin4 hrkx hend hrew hx hE hrk5 hno hv
                go_wp2_with fail
                rw [← W4.out]
                refine (Hend.out w4).mono ?_
                rintro e w5 ⟨rfl, hb5⟩
                have y0 := (hb5.cell (p := ⟨wr.heap.size, 0, none⟩) (by show wr.heap.size < _; omega)).trans x0
                have y1 := (hb5.cell (p := ⟨wr.heap.size, 1, none⟩) (by show wr.heap.size < _; omega)).trans x1
                have y2 := (hb5.cell (p := ⟨wr.heap.size, 2, none⟩) (by show wr.heap.size < _; omega)).trans x2
                have bw5 := bw4.trans (hb5.mono (by omega))
                have z5 := hb5.size
                have Hown5 := Lib.hid (Hown4.out.keep hb5); have Hps5 := Lib.hid (Hps4.out.keep (sf_below hb5))
                clear x0 x1 x2 Hown4 Hps4
                go_wp2_with fail
                refine (Hrk5.out w5 hb5).mono ?_
                rintro e w6 ⟨hb6, A6, c6, rfl, hrl6⟩
                have bw6 := bw5.trans (hb6.mono bw5.size)
                have z6 := hb6.size
                have hrls : RLS w6 (Sf w2.heap.size w6 A3) A6 r.length c6 r := hrl6.sf (base := w2.heap.size) (D := A3) (by omega) (fun g hg => (oc_ob Hown5.out g hg).2)
                obtain ⟨us, hu1, hu2⟩ := hrls
                have hps6 := (Hps5.out.keep (sf_below hb6)).append hu2
                have h1 := rrs_one' hu2
                have hu1' : Rc 1 w6 w6.heap.size A6 r.length c6 us := ⟨hu1.1, hu1.2.1, hu1.2.2.1, fun hn => by
                  obtain ⟨b, off, e, hb, hc⟩ := hu1.2.2.2 hn
                  exact ⟨b, off, e, hb.2.1, hc⟩⟩
                have Hown6 := Lib.hid (Hown5.out.keep hb6); have Hps6 := Lib.hid hps6; have H1 := Lib.hid h1; have Hu1 := Lib.hid hu1'
                clear hps6 h1 hu1' hu1 hu2 y0 y1 y2 Hown5 Hps5 hrl6
                go_wp2_with (at_builtin; go_must (refine Sl.wpAppAt rty rfl (.tmp 53) (.tmp 54) rfl (n := R.length) (m := r.length) (N := (R ++ r).length) (ws := vs ++ us) rfl rfl Hown6.out Hu1.out H1.out (List.length_append).symm rfl ?hs4 ?hs5 ?hs6 ?_))
                case hs4 => rw [List.length_append]; omega
                case hs5 => rw [List.length_append]; omega
                case hs6 => omega
                intro A8 c8 w8 hown8 hg8
                have bw8 := bw6.trans (hg8.belowC Hown6.out (by omega))
                have hps8 := Hps6.out.keep (sf_grow hg8)
                have hRl8 : (R ++ r).length ≤ 5000 * (k + 1) := by rw [List.length_append]; omega
                have Hown8 := Lib.hid hown8; have Hps8 := Lib.hid hps8
                clear hown8 hps8 hg8
                go_wp2
                go_roundw
                case rel => exact ⟨A8, c8, vs ++ us, R ++ r, k + 1, by simp, by go_num, by rw [HNX.out]; omega, hRl8, Hst.out, by rw [List.length_append]; exact Hown8.out, Hps8.out, bw8⟩
                case measure => simp [intOf]; omega
      · have hkN : k = N := by omega
        have he := hsp.end_ (by rw [HNX.out]; exact hkN)
        have He := Lib.hid he; have Hfin := Lib.hid hfin
        clear he hfin hown hps hsp
        go_wp2
        go_ret
        rw [Hres.out, He.out]
        exact ⟨A3, c3, rfl, Hfin.out, bz⟩
end Go.Proofs.Ytplkjljhpmldfaa
