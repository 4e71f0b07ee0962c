import Derived.Test.YtkekmokdlgocaaaGreatDoorJW2
import Derived.Test.YtkekmokdlgocaaaGreatDoorJW6
import Derived.Lib.Walk
import Derived.Lib.BytesEntry
set_option maxRecDepth 100000
set_option maxHeartbeats 4000000
namespace Go.Proofs.YtkekmokdlgocaaaGreatDoor.Txt
open Go.RowKit
theorem bty : U8 Tryz.prog 22 5 9 := ⟨Tryz.underlying22, Tryz.underlying5, Tryz.underlying9, by kernel_rfl⟩
theorem bytesOf_map (l : List UInt8) : Lib.bytesOf (l.map fun x => (x.toNat : Int)) = l := by
 simp only [Lib.bytesOf, List.map_map]
 induction l with
 | nil => rfl
 | cons x l ih => rw [List.map_cons, ih]; simp
theorem bidx_c (b o n c B : Nat) (l : List UInt8) (w : World) (hr : Rb w B (some ⟨b, o,none⟩) n c l) :
  Calls Tryz.prog 98 #[.slice (some ⟨b, o,none⟩) n c, .int .u8 10] w fun e w' => e = .returned (.int .i64 (Lib.indexByte l 10)) ∧ w = w' := by
 have hl := hr.len
 have hc : ∀ i, i < n → w.cell? ⟨b, o + i,none⟩ = some (.int .u8 ((l.map fun x => (x.toNat : Int)).getD i 0)) := fun i hi => by
  obtain ⟨b', o', x, e, _, hx, hg⟩ := hr.at_ hi
  injection e with e
  injection e with e1 e2 _
  subst e1 e2
  rw [List.getD_eq_getElem?_getD, List.getElem?_map, hg.1]
  exact hx
 have hrun := Lib.run_indexByteSlice (P := Tryz.prog) w b o n c (l.map fun x => (x.toNat : Int)) (by simpa using hl) hc 10
 rw [bytesOf_map] at hrun
 have H := ek hrun; clear hrun hc hl
 go_enter Tryz.func98, Tryz.ntmps98
 go_wp2_with fail
 rw [run_callFunc_extern Tryz.func136 (by kernel_rfl) (by kernel_rfl) (by kernel_rfl) (e := Extern.BytealgIndexByte.indexByte) (by kernel_rfl), H.out]
 simp only [Result.andThen]
 rw [Oper.upon_value]
 go_wp2
 go_ret
 exact ⟨rfl,rfl⟩
theorem mid_at {w : World} {B n c b o : Nat} {l : List UInt8} (h : Rb w B (some ⟨b, o,none⟩) n c l) {i k : Nat} (hi : i ≤ k) (hk : k ≤ n) (hc : i < c) (I K : Int) (hI : I = (i : Int)) (hK : K = (k : Int)) (m : Nat) (hm : m = k - i) :
  ∃ o', (∀ W, (Instr.slice 22 (.slice (some ⟨b, o,none⟩) n c) (some (.int .i64 I)) (some (.int .i64 K)) none).run Tryz.prog W = .ok (.slice (some ⟨b, o',none⟩) m (c - i)) W) ∧ Rb w B (some ⟨b, o',none⟩) m (c - i) ((l.take k).drop i) := by
 subst hI hK hm
 have e : (if c = i then some (⟨b, o,none⟩ : Addr) else (some (⟨b, o,none⟩ : Addr)).map (·.add i)) = some ⟨b, o + i,none⟩ := by
  rw [if_neg (by omega)]
  by_cases h0 : i = 0
  ·subst h0; simp [Addr.add]
  ·simp [Addr.add, h0]
 refine ⟨o + i, fun W => ?_, ?_⟩
 ·rw [run_slice_lh W _ _ _ _ bty.sl' .i64 .i64 (i : Int) (k : Int) (by omega) (by omega) (by have := h.2.1; omega), bty.sz]
  simp [Result.andThen, sliced]
  have := h.2.1
  rw [if_neg (by omega)]
  by_cases h0 : i = 0
  ·subst h0; simp [Addr.add]
  ·simp [Addr.add, h0]
 ·have := h.mid hi hk
  rw [e] at this
  exact this
def RetLn (w : World) (l : List UInt8) (a : Nat) (e : Ending) (w' : World) : Prop := ∃ k n, e = .returned (.tuple #[.string ⟨List.toArray k⟩, .int .i64 ((n : Nat) : Int)]) ∧ Tm.Line l a k n ∧ w = w'
theorem line_c (A : Option Addr) (n c B : Nat) (l : List UInt8) (a : Nat) (w : World) (hr : Rb w B A n c l) (ha : a < n) (hn : n ≤ 1000000) :
  Calls Tryz.prog 73 #[.slice A n c, .int .i64 (a : Int)] w (RetLn w l a) := by
 have hl := hr.len
 obtain ⟨D, hD, hrD⟩ := bty.from_ hr (k := a) (by omega) (a : Int) rfl
 obtain ⟨b1, o1, _, rfl, _⟩ := hrD.at_ (k := 0) (by omega)
 have hcv := bty.conv hrD
 rcases Tm.idx_cases (l.drop a) with ⟨hi, hnone⟩ | ⟨k, v, hkv, hi, hnone⟩
 ·have Hfin := ek (Tm.line_last l a (by omega) hnone)
  have Hl := ek hl; have HrD := ek hrD; have Hi := ek hi; clear hr hl hrD hi hnone
  go_enter Tryz.func73, Tryz.ntmps73
  go_wp2_with fail
  refine (bidx_c b1 o1 _ _ B _ _ HrD.out).mono ?_
  rw [Hi.out]
  rintro e w' ⟨rfl,rfl⟩
  go_wp2
  go_ret2
  exact ⟨_, n, rfl, by have := Hfin.out; rwa [Hl.out] at this, rfl⟩
 ·have hfin := Tm.line_more l k v a hkv hnone
  have hlen := congrArg List.length hkv
  rw [List.length_drop, List.length_append, List.length_cons] at hlen
  have hka : a + k.length + 1 ≤ n := by omega
  obtain ⟨E, hE, hrE⟩ := bty.mid_ hr (i := a) (k := a + k.length) (by omega) (by omega) (a : Int) ((a : Int) + (k.length : Int)) rfl (by omega) k.length (by omega)
  have e2 : (l.take (a + k.length)).drop a = k := by rw [List.drop_take, show a + k.length - a = k.length by omega]; exact hfin.2
  rw [e2] at hrE
  have hcvE := bty.conv hrE
  have Hfin := ek hfin; have Hl := ek hl; have HrD := ek hrD; have Hi := ek hi; clear hr hl hrD hi hnone hfin hlen hrE e2 hkv
  go_enter Tryz.func73, Tryz.ntmps73
  go_wp2_with fail
  refine (bidx_c b1 o1 _ _ B _ _ HrD.out).mono ?_
  rw [Hi.out]
  rintro e w' ⟨rfl,rfl⟩
  go_wp2
  go_ret2
  exact ⟨k, a + k.length + 1, by first | rfl | (simp [Int.natCast_add]), by have h := Hfin.out.1; rwa [Hfin.out.2] at h, rfl⟩
def RetFs (w : World) (l : List UInt8) (f t : Nat) (e : Ending) (w' : World) : Prop := ∃ F : Nat, e = .returned (.int .i64 (F : Int)) ∧ Tm.rd l f t = Tm.rl l F t ∧ w = w'
theorem first_c (A : Option Addr) (n c B : Nat) (l : List UInt8) (f t : Nat) (w : World) (hr : Rb w B A n c l) (hft : f ≤ t) (ht : t ≤ n) (hn : n ≤ 1000000) :
  Calls Tryz.prog 72 #[.slice A n c, .int .i64 (f : Int), .int .i64 (t : Int)] w (RetFs w l f t) := by
 by_cases h0 : f = 0
 ·subst h0
  go_enter Tryz.func72, Tryz.ntmps72
  go_wp2
  go_ret
  exact ⟨0, rfl, Tm.rd_start l t, rfl⟩
 ·obtain ⟨b1, o1, _, rfl, _⟩ := hr.at_ (k := 0) (by omega)
  have hnc := hr.2.1
  have hl := hr.len
  obtain ⟨o2, hD, hrD⟩ := mid_at hr (i := f - 1) (k := t - 1) (by omega) (by omega) (by omega) ((f : Int) - 1) ((t : Int) - 1) (by omega) (by omega) (t - f) (by omega)
  have hlen : ((l.take (t - 1)).drop (f - 1)).length = t - f := by rw [List.length_drop, List.length_take]; omega
  have hget : ∀ j, j < t - f → ((l.take (t - 1)).drop (f - 1))[j]? = l[f - 1 + j]? := fun j hj => by rw [List.getElem?_drop, List.getElem?_take, if_pos (by omega)]
  rcases Tm.idx_cases ((l.take (t - 1)).drop (f - 1)) with ⟨hi, hnone⟩ | ⟨k, v, hkv, hi, hnone⟩
  ·have hfin : Tm.rd l f t = Tm.rl l t t := Tm.rd_none l f t (by omega) fun j h1 h2 h3 => by
    have := hget (j - (f - 1)) (by omega)
    rw [show f - 1 + (j - (f - 1)) = j by omega, h3] at this
    exact hnone 10 (List.mem_of_getElem? this) rfl
   have Hfin := ek hfin; have HrD := ek hrD; have Hi := ek hi; clear hr hl hrD hi hnone hfin hlen hget
   have hf1 : 1 ≤ f := by omega
   go_enter Tryz.func72, Tryz.ntmps72
   go_wp2_with fail
   refine (bidx_c b1 o2 _ _ B _ _ HrD.out).mono ?_
   rw [Hi.out]
   rintro e w' ⟨rfl,rfl⟩
   go_wp2
   go_ret
   exact ⟨t, rfl, Hfin.out, rfl⟩
  ·have hkl : k.length < t - f := by
    have := congrArg List.length hkv
    rw [hlen, List.length_append, List.length_cons] at this
    omega
   have h10 : l[f - 1 + k.length]? = some 10 := by rw [← hget k.length hkl, hkv]; simp
   have hfin : Tm.rd l f t = Tm.rl l (f + k.length) t := Tm.rd_some l f t k.length (by omega) h10 fun j h1 h2 h3 => by
    have := hget (j - (f - 1)) (by omega)
    rw [show f - 1 + (j - (f - 1)) = j by omega, h3, hkv, List.getElem?_append_left (by omega)] at this
    exact hnone 10 (List.mem_of_getElem? this) rfl
   have Hfin := ek hfin; have HrD := ek hrD; have Hi := ek hi; clear hr hl hrD hi hnone hfin hlen hget h10 hkv
   have hf1 : 1 ≤ f := by omega
   go_enter Tryz.func72, Tryz.ntmps72
   go_wp2_with fail
   refine (bidx_c b1 o2 _ _ B _ _ HrD.out).mono ?_
   rw [Hi.out]
   rintro e w' ⟨rfl,rfl⟩
   go_wp2
   go_ret
   exact ⟨f + k.length, rfl, Hfin.out, rfl⟩
theorem ten_ne {x : UInt8} (h : x ≠ 10) : ((x.toNat : Int) == 10) = false := by
 rw [beq_eq_false_iff_ne]
 intro e
 apply h
 apply UInt8.toNat_inj.1
 show x.toNat = 10
 omega
end Go.Proofs.YtkekmokdlgocaaaGreatDoor.Txt
namespace Go.Proofs.YtkekmokdlgocaaaGreatDoor.Txt
open Go.RowKit Go.Maps
theorem oc_lt {z : Nat} {w : World} {e : TypeId} {base n c : Nat} {A : Option Addr} {vs : List Value} (h : Oc z w e base A n c vs) : ∀ g, ob A = some g → g < w.heap.size := fun g hg => (oc_ob h g hg).2
def RetP (w : World) (l : List UInt8) (e : Ending) (w' : World) : Prop :=
 ∃ A c, e = .returned (.tuple #[.slice A (Tm.ls l).length c, .int .i64 (l.length : Int), .int .i64 0]) ∧ PLS w' (Fr w.heap.size w') A (Tm.ls l).length c ((Tm.ls l).map Tm.pc) ∧ Below w.heap.size w w'
def ScanRel (base n : Nat) (w : World) (l : List UInt8) (o t : Value) (wr : World) : Prop :=
 ∃ A c vs done, ∃ a : Nat, o = .slice A done.length c ∧ t = .int .i64 (a : Int) ∧ a ≤ n ∧ Oc 2 wr 81 base A done.length c vs ∧ PsS wr (Sf base wr A) vs (done.map Tm.pc) ∧ done ++ Tm.lns a [] (l.drop a) = Tm.ls l ∧ Below base w wr
theorem scan_c (A : Option Addr) (n c : Nat) (l : List UInt8) (w : World) (hr : Rb w w.heap.size A n c l) (hn : n ≤ 1000000) :
  Calls Tryz.prog 127 #[.slice A n c] w (RetP w l) := by
 have hl := hr.len
 have Hr := ek hr; have Hl := ek hl; clear hr hl
 go_enter Tryz.func127, Tryz.ntmps127
 go_wp2
 go_loopw [5, 6] (fun o t wr => ScanRel w.heap.size n w l o t wr) (fun _ t _ => n - (intOf t).toNat)
 case atStart => exact ⟨none, 0, [], [], 0, rfl, rfl, Nat.zero_le _, Oc.nil _ _ _ _, PsS.nil, rfl, Below.refl _ _⟩
 case round =>
  obtain ⟨A3, c3, vs, done, a, rfl, rfl, ha, hown, hps, hst, hbel⟩ := hrel
  have z3 := hbel.size
  have hlen : done.length ≤ n := by
   have h1 := Tm.ls_len l
   have h2 := congrArg List.length hst
   rw [List.length_append] at h2
   have := Hl.out
   omega
  by_cases hlt : a < n
  ·have Hst := ek hst; have Hown := ek hown; have Hps := ek hps; clear hst hown hps
   have hr3 := Hr.out.below hbel
   have Hr3 := ek hr3; clear hr3
   go_wp2_with fail
   refine (line_c A n c _ l a _ Hr3.out hlt hn).mono ?_
   rintro e w4 ⟨k, m, rfl, ⟨hln, hm1, hm2, hk⟩, rfl⟩
   have hst2 : (done ++ [(a, k)]) ++ Tm.lns m [] (l.drop m) = Tm.ls l := by
    rw [← Hst.out, hln]; simp
   have hmn : m ≤ n := by rw [Hl.out] at hm2; exact hm2
   have Hst2 := ek hst2; clear hln hst2 hm2 hk
   rename World => wr
   obtain ⟨w5, h5⟩ : ∃ w5, w5 = wr.alloc (.cells #[.string ⟨k.toArray⟩] 9) := ⟨_, rfl⟩
   obtain ⟨w6, h6⟩ : ∃ w6, w6 = w5.alloc (.cells #[.slice (some ⟨wr.heap.size, 0,none⟩) 1 1] 77) := ⟨_, rfl⟩
   obtain ⟨w7, h7⟩ : ∃ w7, w7 = w6.alloc (.cells #[.int .i64 (a : Int), .slice (some ⟨wr.heap.size + 1, 0,none⟩) 1 1] 81) := ⟨_, rfl⟩
   obtain ⟨z7, b7, hlit, hpr⟩ := piece_lit wr k a A3 w.heap.size _ _ _ z3 (oc_lt Hown.out) w5 w6 w7 h5 h6 h7
   have hown7 := Hown.out.keep b7
   have hps7 := (Hps.out.keep (sf_below b7)).snoc hpr
   have bw7 := hbel.trans (b7.mono z3)
   have H5 := ek h5; have H6 := ek h6; have H7 := ek h7; have Hlit := ek hlit; have Hown7 := ek hown7; have Hps7 := ek hps7; have Z7 := ek z7; clear h5 h6 h7 hlit hpr hown7 hps7 z7 b7
   go_wp2_with (at_builtin; rw [← H5.out, ← H6.out, ← H7.out]; go_must (refine Sl.wpAppAt pty rfl (.tmp 19) (.tmp 25) rfl (n := done.length) (m := 1) (N := done.length + 1) (ws := vs ++ [.int .i64 (a : Int), .slice (some ⟨wr.heap.size + 1, 0,none⟩) 1 1]) rfl rfl Hown7.out Hlit.out ?hs1 rfl rfl ?hs4 ?hs5 ?hs6 ?_))
   case hs1 => simp [Value.oneCell']
   case hs4 => omega
   case hs5 => omega
   case hs6 => have := Z7.out; omega
   intro A8 c8 w8 hown8 hg8
   have bw8 := bw7.trans (hg8.belowC Hown7.out (by have := Z7.out; omega))
   have hps8 := Hps7.out.keep (sf_grow hg8)
   have Hown8 := ek hown8; have Hps8 := ek hps8; clear hown8 hps8 hg8
   go_wp2
   go_roundw
   case rel => exact ⟨A8, c8, vs ++ [.int .i64 (a : Int), .slice (some ⟨wr.heap.size + 1, 0,none⟩) 1 1], done ++ [(a, k)], m, by simp, rfl, hmn, by rw [List.length_append]; exact Hown8.out, by rw [List.map_append]; exact Hps8.out, Hst2.out, bw8⟩
   case measure => simp [intOf]; omega
  ·have e : a = n := by omega
   subst e
   have hd : done = Tm.ls l := by
    rw [← Hl.out, List.drop_length] at hst
    rw [← hst]
    simp [Tm.lns_end]
   have hfin : PLS wr (Fr w.heap.size wr) A3 done.length c3 (done.map Tm.pc) := ⟨vs, hown.rcS, hps.keep (stays_weak sf_fr)⟩
   have Hd := ek hd; have Hfin := ek hfin; clear hst hown hps hd hfin
   go_wp2
   go_ret3
   refine ⟨A3, c3, ?_, ?_, hbel⟩
   ·rw [← Hd.out, Hl.out]; rfl
   ·rw [← Hd.out]; exact Hfin.out
def seg (l : List UInt8) (f i : Nat) : List UInt8 := (l.take i).drop f
theorem seg_len (l : List UInt8) (f i : Nat) (h : i ≤ l.length) : (seg l f i).length = i - f := by unfold seg; rw [List.length_drop, List.length_take]; omega
theorem seg_nil (l : List UInt8) (i : Nat) : seg l i i = [] := by unfold seg; rw [List.drop_eq_nil_iff, List.length_take]; omega
theorem seg_snoc (l : List UInt8) (f i : Nat) (x : UInt8) (h : l[i]? = some x) (hf : f ≤ i) : seg l f (i + 1) = seg l f i ++ [x] := by
 have hi : i < l.length := (List.getElem?_eq_some_iff.1 h).1
 unfold seg
 rw [List.take_add_one, h, List.drop_append_of_le_length (by rw [List.length_take]; omega)]
 rfl
theorem seg_all (l : List UInt8) (f : Nat) : seg l f l.length = l.drop f := by unfold seg; rw [List.take_length]
def DScanRel (base n : Nat) (w : World) (l : List UInt8) (o f t : Value) (wr : World) : Prop :=
 ∃ A c vs done, ∃ k i : Nat, o = .slice A done.length c ∧ f = .int .i64 (k : Int) ∧ t = .int .i64 (i : Int) ∧ k ≤ i ∧ i ≤ n ∧ Oc 2 wr 81 base A done.length c vs ∧ PsS wr (Sf base wr A) vs (done.map Tm.pc) ∧
  done ++ Tm.lns k (seg l k i) (l.drop i) = Tm.ls l ∧ Below base w wr
theorem rscan_c (A : Option Addr) (n c : Nat) (l : List UInt8) (w : World) (hr : Rb w w.heap.size A n c l) (hn : n ≤ 1000000) :
  Calls Tryz.prog 60 #[.slice A n c] w (RetP w l) := by
 have hl := hr.len
 have Hr := ek hr; have Hl := ek hl; clear hr hl
 go_enter Tryz.func60, Tryz.ntmps60
 go_wp2
 go_loopw [5, 6, 7] (fun o f t wr => DScanRel w.heap.size n w l o f t wr) (fun _ _ t _ => n - (intOf t).toNat)
 case atStart => exact ⟨some ⟨w.heap.size, 0,none⟩, 0, [], [], 0, 0, rfl, rfl, rfl, Nat.le_refl _, Nat.zero_le _, Oc.made0 2 _ _, PsS.nil, rfl, ej _ _⟩
 case round =>
  obtain ⟨A3, c3, vs, done, f, i, rfl, rfl, rfl, hfi, hi, hown, hps, hst, hbel⟩ := hrel
  have z3 := hbel.size
  have hlen : done.length ≤ n := by
   have h1 := Tm.ls_len l
   have h2 := congrArg List.length hst
   rw [List.length_append] at h2
   have := Hl.out
   omega
  have hr3 := Hr.out.below hbel
  rename World => wr
  by_cases hlt : i < n
  ·obtain ⟨b1, o1, x, rfl, hb1, hcell, hx, hdr⟩ := hr3.at_ hlt
   by_cases hx10 : x = 10
   ·subst hx10
    have hst2 : (done ++ [(f, seg l f i)]) ++ Tm.lns (i + 1) (seg l (i + 1) (i + 1)) (l.drop (i + 1)) = Tm.ls l := by
     rw [hdr, Tm.lns_ten, seg_len l f i (by have := Hl.out; omega), show f + (i - f) + 1 = i + 1 by omega] at hst
     rw [← hst, seg_nil]; simp
    obtain ⟨E, hE, hrE⟩ := bty.mid_ hr3 (i := f) (k := i) hfi (by omega) (f : Int) (i : Int) rfl rfl (i - f) rfl
    have hcvE : (convert 22 9 (.slice E (i - f) (c - f))).run Tryz.prog wr = .ok (.string ⟨(seg l f i).toArray⟩) wr := bty.conv hrE
    obtain ⟨K, hK⟩ : ∃ K, K = seg l f i := ⟨_, rfl⟩
    rw [← hK] at hcvE hst2
    obtain ⟨w5, h5⟩ : ∃ w5, w5 = wr.alloc (.cells #[.string ⟨K.toArray⟩] 9) := ⟨_, rfl⟩
    obtain ⟨w6, h6⟩ : ∃ w6, w6 = w5.alloc (.cells #[.slice (some ⟨wr.heap.size, 0,none⟩) 1 1] 77) := ⟨_, rfl⟩
    obtain ⟨w7, h7⟩ : ∃ w7, w7 = w6.alloc (.cells #[.int .i64 (f : Int), .slice (some ⟨wr.heap.size + 1, 0,none⟩) 1 1] 81) := ⟨_, rfl⟩
    obtain ⟨z7, b7, hlit, hpr⟩ := piece_lit wr K f A3 w.heap.size _ _ _ z3 (oc_lt hown) w5 w6 w7 h5 h6 h7
    have hown7 := hown.keep b7
    have hps7 := (hps.keep (sf_below b7)).snoc hpr
    have bw7 := hbel.trans (b7.mono z3)
    have H5 := ek h5; have H6 := ek h6; have H7 := ek h7; have Hlit := ek hlit; have Hown7 := ek hown7; have Hps7 := ek hps7; have Z7 := ek z7; have Hst2 := ek hst2
    clear h5 h6 h7 hlit hpr hown7 hps7 z7 b7 hst hst2 hK hrE hr3 hdr hx hown hps
    go_wp2_with (at_builtin; rw [← H5.out, ← H6.out, ← H7.out]; go_must (refine Sl.wpAppAt pty rfl (.tmp 20) (.tmp 30) rfl (n := done.length) (m := 1) (N := done.length + 1) (ws := vs ++ [.int .i64 (f : Int), .slice (some ⟨wr.heap.size + 1, 0,none⟩) 1 1]) rfl rfl Hown7.out Hlit.out ?hs1 rfl rfl ?hs4 ?hs5 ?hs6 ?_))
    case hs1 => simp [Value.oneCell']
    case hs4 => omega
    case hs5 => omega
    case hs6 => have := Z7.out; omega
    intro A8 c8 w8 hown8 hg8
    have bw8 := bw7.trans (hg8.belowC Hown7.out (by have := Z7.out; omega))
    have hps8 := Hps7.out.keep (sf_grow hg8)
    have Hown8 := ek hown8; have Hps8 := ek hps8; clear hown8 hps8 hg8
    go_wp2
    go_roundw
    case rel => exact ⟨A8, c8, vs ++ [.int .i64 (f : Int), .slice (some ⟨wr.heap.size + 1, 0,none⟩) 1 1], done ++ [(f, K)], i + 1, i + 1, by simp, by go_num, by go_num, Nat.le_refl _, hlt, by rw [List.length_append]; exact Hown8.out, by rw [List.map_append]; exact Hps8.out, Hst2.out, bw8⟩
    case measure => simp [intOf]; omega
   ·have hst2 : done ++ Tm.lns f (seg l f (i + 1)) (l.drop (i + 1)) = Tm.ls l := by
     rw [hdr, Tm.lns_go _ _ _ x hx10] at hst
     rw [← hst, seg_snoc l f i x hx hfi]
    have hxb := ten_ne hx10
    have Hst2 := ek hst2; have Hown := ek hown; have Hps := ek hps
    clear hst hst2 hr3 hdr hx hown hps hx10
    go_wp2
    go_roundw
    case rel => exact ⟨A3, c3, vs, done, f, i + 1, rfl, rfl, by go_num, by omega, hlt, Hown.out, Hps.out, Hst2.out, hbel⟩
    case measure => simp [intOf]; omega
  ·have e : i = n := by omega
   subst e
   have hln : l.length = i := Hl.out
   have hsg : seg l f i = l.drop f := by rw [← hln]; exact seg_all l f
   by_cases hfn : f < i
   ·have hst2 : done ++ [(f, l.drop f)] = Tm.ls l := by
     rw [hsg, ← hln, List.drop_length, Tm.lns_end, if_neg (by rw [List.isEmpty_iff, ← List.length_eq_zero_iff, List.length_drop]; omega)] at hst
     exact hst
    obtain ⟨E, hE, hrE⟩ := bty.from_ hr3 (k := f) hfi (f : Int) rfl
    have hcvE := bty.conv hrE
    obtain ⟨K, hK⟩ : ∃ K, K = l.drop f := ⟨_, rfl⟩
    rw [← hK] at hcvE hst2
    obtain ⟨w5, h5⟩ : ∃ w5, w5 = wr.alloc (.cells #[.string ⟨K.toArray⟩] 9) := ⟨_, rfl⟩
    obtain ⟨w6, h6⟩ : ∃ w6, w6 = w5.alloc (.cells #[.slice (some ⟨wr.heap.size, 0,none⟩) 1 1] 77) := ⟨_, rfl⟩
    obtain ⟨w7, h7⟩ : ∃ w7, w7 = w6.alloc (.cells #[.int .i64 (f : Int), .slice (some ⟨wr.heap.size + 1, 0,none⟩) 1 1] 81) := ⟨_, rfl⟩
    obtain ⟨z7, b7, hlit, hpr⟩ := piece_lit wr K f A3 w.heap.size _ _ _ z3 (oc_lt hown) w5 w6 w7 h5 h6 h7
    have hown7 := hown.keep b7
    have hps7 := (hps.keep (sf_below b7)).snoc hpr
    have bw7 := hbel.trans (b7.mono z3)
    have H5 := ek h5; have H6 := ek h6; have H7 := ek h7; have Hlit := ek hlit; have Hown7 := ek hown7; have Hps7 := ek hps7; have Z7 := ek z7; have Hst2 := ek hst2; have Hln := ek hln
    clear h5 h6 h7 hlit hpr hown7 hps7 z7 b7 hst hst2 hK hrE hr3 hown hps hsg hln
    go_wp2_with (at_builtin; rw [← H5.out, ← H6.out, ← H7.out]; go_must (refine Sl.wpAppAt pty rfl (.tmp 38) (.tmp 47) rfl (n := done.length) (m := 1) (N := done.length + 1) (ws := vs ++ [.int .i64 (f : Int), .slice (some ⟨wr.heap.size + 1, 0,none⟩) 1 1]) rfl rfl Hown7.out Hlit.out ?hs1 rfl rfl ?hs4 ?hs5 ?hs6 ?_))
    case hs1 => simp [Value.oneCell']
    case hs4 => omega
    case hs5 => omega
    case hs6 => have := Z7.out; omega
    intro A8 c8 w8 hown8 hg8
    have bw8 := bw7.trans (hg8.belowC Hown7.out (by have := Z7.out; omega))
    have hps8 := Hps7.out.keep (sf_grow hg8)
    have hfin : PLS w8 (Fr w.heap.size w8) A8 (done.length + 1) c8 ((done ++ [(f, K)]).map Tm.pc) := ⟨_, hown8.rcS, by rw [List.map_append]; exact hps8.keep (stays_weak sf_fr)⟩
    have Hfin := ek hfin; clear hown8 hps8 hg8 hfin
    go_wp2
    go_ret3
    refine ⟨A8, c8, ?_, ?_, bw8⟩
    ·rw [← Hst2.out, Hln.out, List.length_append]; rfl
    ·rw [← Hst2.out, List.length_append]; exact Hfin.out
   ·have hd : done = Tm.ls l := by
     rw [hsg, ← hln, List.drop_length, Tm.lns_end, if_pos (by rw [List.isEmpty_iff, ← List.length_eq_zero_iff, List.length_drop]; omega)] at hst
     rw [← hst, List.append_nil]
    have hfin : PLS wr (Fr w.heap.size wr) A3 done.length c3 (done.map Tm.pc) := ⟨vs, hown.rcS, hps.keep (stays_weak sf_fr)⟩
    have Hd := ek hd; have Hfin := ek hfin; have Hln := ek hln; clear hst hown hps hd hfin hr3 hsg hln
    go_wp2
    go_ret3
    refine ⟨A3, c3, ?_, ?_, hbel⟩
    ·rw [← Hd.out, Hln.out]; rfl
    ·rw [← Hd.out]; exact Hfin.out
def RetR (w : World) (L : List (List (List UInt8))) (e : Ending) (w' : World) : Prop :=
 ∃ A c, e = .returned (.tuple #[.slice A L.length c, .int .i64 0]) ∧ RLS w' (Fr w.heap.size w') A L.length c L ∧ Below w.heap.size w w'
def ReadRel (base : Nat) (w : World) (l : List UInt8) (f t : Nat) (o p : Value) (wr : World) : Prop :=
 ∃ A c vs done, ∃ a : Nat, o = .slice A done.length c ∧ p = .int .i64 (a : Int) ∧ Oc 1 wr 77 base A done.length c vs ∧ RrsS wr (Sf base wr A) vs (done.map Tm.rc) ∧ done ++ Tm.rl l a t = Tm.rd l f t ∧ Below base w wr
theorem read_ok (A : Option Addr) (n c : Nat) (l : List UInt8) (f t : Nat) (w : World) (hr : Rb w w.heap.size A n c l) (hn : n ≤ 1000000) (hft : f ≤ t) (htn : t ≤ n) :
  Calls Tryz.prog 49 #[.slice A n c, .int .i64 (f : Int), .int .i64 (t : Int)] w (RetR w ((Tm.rd l f t).map Tm.rc)) := by
 have hl := hr.len
 have Hr := ek hr; have Hl := ek hl; clear hr hl
 have d1 : decide ((f : Int) < 0) = false := by simp
 have d2 : decide (t < f) = false := by simp; omega
 have d3 : decide (n < t) = false := by simp; omega
 go_enter Tryz.func49, Tryz.ntmps49
 go_wp2_with fail
 refine (first_c A n c _ l f t _ Hr.out hft htn hn).mono ?_
 rintro e w2 ⟨F, rfl, hF, rfl⟩
 have HF := ek hF; clear hF
 go_wp2
 go_loopw [8, 9] (fun o p wr => ReadRel w.heap.size w l f t o p wr) (fun _ p _ => t - (intOf p).toNat)
 case atStart => exact ⟨none, 0, [], [], F, rfl, rfl, Oc.nil _ _ _ _, RrsS.nil, HF.out.symm, Below.refl _ _⟩
 case round =>
  obtain ⟨A3, c3, vs, done, a, rfl, rfl, hown, hps, hst, hbel⟩ := hrel
  have z3 := hbel.size
  have hlen : done.length ≤ n := by
   have h1 := Tm.rd_len l f t
   have h2 := congrArg List.length hst
   rw [List.length_append] at h2
   have := Hl.out
   omega
  clear d1 d2 d3
  rename World => wr
  by_cases hlt : a < t
  ·have Hst := ek hst; have Hown := ek hown; have Hps := ek hps; clear hst hown hps
   have hr3 := Hr.out.below hbel
   have Hr3 := ek hr3; clear hr3
   go_wp2_with fail
   refine (line_c A n c _ l a _ Hr3.out (by omega) hn).mono ?_
   rintro e w4 ⟨k, m, rfl, ⟨hln, hm1, hm2, hk⟩, rfl⟩
   have hst2 : (done ++ [(a, k)]) ++ Tm.rl l m t = Tm.rd l f t := by
    rw [← Hst.out, Tm.rl_step l k a t m hlt hln]; simp
   have Hst2 := ek hst2; clear hln hst2 hm2 hk
   obtain ⟨w5, h5⟩ : ∃ w5, w5 = wr.alloc (.cells #[.string ⟨k.toArray⟩] 9) := ⟨_, rfl⟩
   obtain ⟨w6, h6⟩ : ∃ w6, w6 = w5.alloc (.cells #[.slice (some ⟨wr.heap.size, 0,none⟩) 1 1] 77) := ⟨_, rfl⟩
   obtain ⟨z6, b6, hlit, hpr⟩ := rec_lit wr k A3 w.heap.size _ _ z3 (oc_lt Hown.out) w5 w6 h5 h6
   have hown6 := Hown.out.keep b6
   have hps6 := (Hps.out.keep (sf_below b6)).snoc hpr
   have bw6 := hbel.trans (b6.mono z3)
   have H5 := ek h5; have H6 := ek h6; have Hlit := ek hlit; have Hown6 := ek hown6; have Hps6 := ek hps6; have Z6 := ek z6; clear h5 h6 hlit hpr hown6 hps6 z6 b6
   go_wp2_with (at_builtin; rw [← H5.out, ← H6.out]; go_must (refine Sl.wpAppAt rty rfl (.tmp 38) (.tmp 41) rfl (n := done.length) (m := 1) (N := done.length + 1) (ws := vs ++ [.slice (some ⟨wr.heap.size, 0,none⟩) 1 1]) rfl rfl Hown6.out Hlit.out ?hs1 rfl rfl ?hs4 ?hs5 ?hs6 ?_))
   case hs1 => simp [Value.oneCell']
   case hs4 => omega
   case hs5 => omega
   case hs6 => have := Z6.out; omega
   intro A8 c8 w8 hown8 hg8
   have bw8 := bw6.trans (hg8.belowC Hown6.out (by have := Z6.out; omega))
   have hps8 := Hps6.out.keep (sf_grow hg8)
   have Hown8 := ek hown8; have Hps8 := ek hps8; clear hown8 hps8 hg8
   go_wp2
   go_roundw
   case rel => exact ⟨A8, c8, vs ++ [.slice (some ⟨wr.heap.size, 0,none⟩) 1 1], done ++ [(a, k)], m, by simp, rfl, by rw [List.length_append]; exact Hown8.out, by rw [List.map_append]; exact Hps8.out, Hst2.out, bw8⟩
   case measure => simp [intOf]; omega
  ·have hd : done = Tm.rd l f t := by
    rw [Tm.rl_end l a t (by omega), List.append_nil] at hst
    exact hst
   have hfin : RLS wr (Fr w.heap.size wr) A3 done.length c3 (done.map Tm.rc) := ⟨vs, hown.rcS, hps.keep (stays_weak sf_fr)⟩
   have Hd := ek hd; have Hfin := ek hfin; clear hst hown hps hd hfin
   go_wp2
   go_ret2
   refine ⟨A3, c3, ?_, ?_, hbel⟩
   ·rw [← Hd.out, List.length_map]; rfl
   ·rw [← Hd.out, List.length_map]; exact Hfin.out
end Go.Proofs.YtkekmokdlgocaaaGreatDoor.Txt
