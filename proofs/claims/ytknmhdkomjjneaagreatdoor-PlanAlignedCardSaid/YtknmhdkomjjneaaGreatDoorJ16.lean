/-
  Joined: X1 X2.
-/
import Derived.Test.YtknmhdkomjjneaaGreatDoorJ6
import Derived.Test.YtknmhdkomjjneaaGreatDoorJ1
import Derived.Lib.Strings
import Derived.Lib.Walk
import Derived.Lib.BytesEntry
import Derived.IntWalk
/-
  The library's IndexByte; text's line, firstStart, isLine, Canon, Starts: what each call returns.
-/
namespace Go.Proofs.YtknmhdkomjjneaaGreatDoor.Txt
open Go.RowKit

theorem bty : U8 Tryz.prog 22 5 9 := ⟨Tryz.underlying22, Tryz.underlying5, Tryz.underlying9, by kernel_rfl⟩
theorem bytesOf_map (l : List UInt8) : Lib.bytesOf (l.map fun x => (x.toNat : Int)) = l := by
  simp only [Lib.bytesOf, List.map_map]
  induction l with
  | nil => rfl
  | cons x l ih => rw [List.map_cons, ih]; simp

set_option maxHeartbeats 1000000 in
set_option maxRecDepth 100000 in
/-- bytes.IndexByte -/
theorem bidx_c (b o n c B : Nat) (l : List UInt8) (w : World) (hr : Rb w B (some ⟨b, o, none⟩) n c l) :
    Calls Tryz.prog 142 #[.slice (some ⟨b, o, none⟩) n c, .int .u8 10] w fun e w' => e = .returned (.int .i64 (Lib.indexByte l 10)) ∧ w = w' := by
  have hl := hr.len
  have hc : ∀ i, i < n → w.cell? ⟨b, o + i, none⟩ = some (.int .u8 ((l.map fun x => (x.toNat : Int)).getD i 0)) := fun i hi => by
    obtain ⟨b', o', x, e, _, hx, hg⟩ := hr.at_ hi
    injection e with e
    injection e with e1 e2 _
    subst e1 e2
    rw [List.getD_eq_getElem?_getD, List.getElem?_map, hg.1]
    exact hx
  have hrun := Lib.run_indexByteSlice (P := Tryz.prog) w b o n c (l.map fun x => (x.toNat : Int)) (by simpa using hl) hc 10
  rw [bytesOf_map] at hrun
  have H := Lib.hid hrun; clear hrun hc hl
  go_enter Tryz.func142, Tryz.ntmps142
  go_wp2_with fail
  rw [run_callFunc_extern Tryz.func178 (by kernel_rfl) (by kernel_rfl) (by kernel_rfl) (e := Extern.BytealgIndexByte.indexByte) (by kernel_rfl), H.out]
  simp only [Result.andThen]
  rw [Oper.upon_value]
  go_wp2
  go_ret
  exact ⟨rfl, rfl⟩

def RetLn (w : World) (l : List UInt8) (a : Nat) (e : Ending) (w' : World) : Prop := ∃ k n, e = .returned (.tuple #[.string ⟨List.toArray k⟩, .int .i64 ((n : Nat) : Int)]) ∧ Tm.Line l a k n ∧ w = w'

set_option maxHeartbeats 1000000 in
set_option maxRecDepth 100000 in
/-- line -/
theorem line_c (A : Option Addr) (n c B : Nat) (l : List UInt8) (a : Nat) (w : World) (hr : Rb w B A n c l) (ha : a < n) (hn : n ≤ 1000000) :
    Calls Tryz.prog 117 #[.slice A n c, .int .i64 (a : Int)] w (RetLn w l a) := by
  have hl := hr.len
  obtain ⟨D, hD, hrD⟩ := bty.from_ hr (k := a) (by omega) (a : Int) rfl
  obtain ⟨b1, o1, _, rfl, _⟩ := hrD.at_ (k := 0) (by omega)
  have hcv := bty.conv hrD
  rcases Tm.idx_cases (l.drop a) with ⟨hi, hnone⟩ | ⟨k, v, hkv, hi, hnone⟩
  · have Hfin := Lib.hid (Tm.line_last l a (by omega) hnone)
    have Hl := Lib.hid hl; have HrD := Lib.hid hrD; have Hi := Lib.hid hi; clear hr hl hrD hi hnone
    go_enter Tryz.func117, Tryz.ntmps117
    go_wp2_with fail
    refine (bidx_c b1 o1 _ _ B _ _ HrD.out).mono ?_
    rw [Hi.out]
    rintro e w' ⟨rfl, rfl⟩
    go_wp2
    go_ret2
    exact ⟨_, n, rfl, by have := Hfin.out; rwa [Hl.out] at this, rfl⟩
  · have hfin := Tm.line_more l k v a hkv hnone
    have hlen := congrArg List.length hkv
    rw [List.length_drop, List.length_append, List.length_cons] at hlen
    have hka : a + k.length + 1 ≤ n := by omega
    obtain ⟨E, hE, hrE⟩ := bty.mid_ hr (i := a) (k := a + k.length) (by omega) (by omega) (a : Int) ((a : Int) + (k.length : Int)) rfl (by omega) k.length (by omega)
    have e2 : (l.take (a + k.length)).drop a = k := by rw [List.drop_take, show a + k.length - a = k.length by omega]; exact hfin.2
    rw [e2] at hrE
    have hcvE := bty.conv hrE
    have Hfin := Lib.hid hfin; have Hl := Lib.hid hl; have HrD := Lib.hid hrD; have Hi := Lib.hid hi; clear hr hl hrD hi hnone hfin hlen hrE e2 hkv
    go_enter Tryz.func117, Tryz.ntmps117
    go_wp2_with fail
    refine (bidx_c b1 o1 _ _ B _ _ HrD.out).mono ?_
    rw [Hi.out]
    rintro e w' ⟨rfl, rfl⟩
    go_wp2
    go_ret2
    exact ⟨k, a + k.length + 1, by first | rfl | (simp [Int.natCast_add]), by have h := Hfin.out.1; rwa [Hfin.out.2] at h, rfl⟩

end Go.Proofs.YtknmhdkomjjneaaGreatDoor.Txt

/-
  text's Scan, the document's Scan: what each call returns and leaves.
-/

namespace Go.Proofs.YtknmhdkomjjneaaGreatDoor.Txt
open Go.RowKit Go.Maps

theorem oc_lt {z : Nat} {w : World} {e : TypeId} {base n c : Nat} {A : Option Addr} {vs : List Value} (h : Oc z w e base A n c vs) : ∀ g, ob A = some g → g < w.heap.size := fun g hg => (oc_ob h g hg).2
def RetP (w : World) (l : List UInt8) (e : Ending) (w' : World) : Prop :=
  ∃ A c, e = .returned (.tuple #[.slice A (Tm.ls l).length c, .int .i64 (l.length : Int), .int .i64 0]) ∧ PLS w' (Fr w.heap.size w') A (Tm.ls l).length c ((Tm.ls l).map Tm.pc) ∧ Below w.heap.size w w'
def ScanRel (base n : Nat) (w : World) (l : List UInt8) (o t : Value) (wr : World) : Prop :=
  ∃ A c vs done, ∃ a : Nat, o = .slice A done.length c ∧ t = .int .i64 (a : Int) ∧ a ≤ n ∧ Oc 2 wr 63 base A done.length c vs ∧ PsS wr (Sf base wr A) vs (done.map Tm.pc) ∧ done ++ Tm.lns a [] (l.drop a) = Tm.ls l ∧ Below base w wr

set_option maxHeartbeats 2000000 in
set_option maxRecDepth 100000 in
/-- Scan -/
theorem scan_c (A : Option Addr) (n c : Nat) (l : List UInt8) (w : World) (hr : Rb w w.heap.size A n c l) (hn : n ≤ 1000000) :
    Calls Tryz.prog 95 #[.slice A n c] w (RetP w l) := by
  have hl := hr.len
  have Hr := Lib.hid hr; have Hl := Lib.hid hl; clear hr hl
  go_enter Tryz.func95, Tryz.ntmps95
  go_wp2
  go_loopw [5, 6] (fun o t wr => ScanRel w.heap.size n w l o t wr) (fun _ t _ => n - (intOf t).toNat)
  case atStart => exact ⟨none, 0, [], [], 0, rfl, rfl, Nat.zero_le _, Oc.nil _ _ _ _, PsS.nil, rfl, Below.refl _ _⟩
  case round =>
    obtain ⟨A3, c3, vs, done, a, rfl, rfl, ha, hown, hps, hst, hbel⟩ := hrel
    have z3 := hbel.size
    have hlen : done.length ≤ n := by
      have h1 := Tm.ls_len l
      have h2 := congrArg List.length hst
      rw [List.length_append] at h2
      have := Hl.out
      omega
    by_cases hlt : a < n
    · have Hst := Lib.hid hst; have Hown := Lib.hid hown; have Hps := Lib.hid hps; clear hst hown hps
      have hr3 := Hr.out.below hbel
      have Hr3 := Lib.hid hr3; clear hr3
      go_wp2_with fail
      refine (line_c A n c _ l a _ Hr3.out hlt hn).mono ?_
      rintro e w4 ⟨k, m, rfl, ⟨hln, hm1, hm2, hk⟩, rfl⟩
      have hst2 : (done ++ [(a, k)]) ++ Tm.lns m [] (l.drop m) = Tm.ls l := by
        rw [← Hst.out, hln]; simp
      have hmn : m ≤ n := by rw [Hl.out] at hm2; exact hm2
      have Hst2 := Lib.hid hst2; clear hln hst2 hm2 hk
      rename World => wr
      obtain ⟨w5, h5⟩ : ∃ w5, w5 = wr.alloc (.cells #[.string ⟨k.toArray⟩] 9) := ⟨_, rfl⟩
      obtain ⟨w6, h6⟩ : ∃ w6, w6 = w5.alloc (.cells #[.slice (some ⟨wr.heap.size, 0, none⟩) 1 1] 78) := ⟨_, rfl⟩
      obtain ⟨w7, h7⟩ : ∃ w7, w7 = w6.alloc (.cells #[.int .i64 (a : Int), .slice (some ⟨wr.heap.size + 1, 0, none⟩) 1 1] 63) := ⟨_, rfl⟩
      obtain ⟨z7, b7, hlit, hpr⟩ := piece_lit wr k a A3 w.heap.size _ _ _ z3 (oc_lt Hown.out) w5 w6 w7 h5 h6 h7
      have hown7 := Hown.out.keep b7
      have hps7 := (Hps.out.keep (sf_below b7)).snoc hpr
      have bw7 := hbel.trans (b7.mono z3)
      have H5 := Lib.hid h5; have H6 := Lib.hid h6; have H7 := Lib.hid h7; have Hlit := Lib.hid hlit; have Hown7 := Lib.hid hown7; have Hps7 := Lib.hid hps7; have Z7 := Lib.hid z7; clear h5 h6 h7 hlit hpr hown7 hps7 z7 b7
      go_wp2_with (at_builtin; rw [← H5.out, ← H6.out, ← H7.out]; go_must (refine Sl.wpAppAt pty rfl (.tmp 19) (.tmp 25) rfl (n := done.length) (m := 1) (N := done.length + 1) (ws := vs ++ [.int .i64 (a : Int), .slice (some ⟨wr.heap.size + 1, 0, none⟩) 1 1]) rfl rfl Hown7.out Hlit.out ?hs1 rfl rfl ?hs4 ?hs5 ?hs6 ?_))
      case hs1 => simp [Value.oneCell']
      case hs4 => omega
      case hs5 => omega
      case hs6 => have := Z7.out; omega
      intro A8 c8 w8 hown8 hg8
      have bw8 := bw7.trans (hg8.belowC Hown7.out (by have := Z7.out; omega))
      have hps8 := Hps7.out.keep (sf_grow hg8)
      have Hown8 := Lib.hid hown8; have Hps8 := Lib.hid hps8; clear hown8 hps8 hg8
      go_wp2
      go_roundw
      case rel => exact ⟨A8, c8, vs ++ [.int .i64 (a : Int), .slice (some ⟨wr.heap.size + 1, 0, none⟩) 1 1], done ++ [(a, k)], m, by simp, rfl, hmn, by rw [List.length_append]; exact Hown8.out, by rw [List.map_append]; exact Hps8.out, Hst2.out, bw8⟩
      case measure => simp [intOf]; omega
    · have e : a = n := by omega
      subst e
      have hd : done = Tm.ls l := by
        rw [← Hl.out, List.drop_length] at hst
        rw [← hst]
        simp [Tm.lns_end]
      have hfin : PLS wr (Fr w.heap.size wr) A3 done.length c3 (done.map Tm.pc) := ⟨vs, hown.rcS, hps.keep (stays_weak sf_fr)⟩
      have Hd := Lib.hid hd; have Hfin := Lib.hid hfin; clear hst hown hps hd hfin
      go_wp2
      go_ret3
      refine ⟨A3, c3, ?_, ?_, hbel⟩
      · rw [← Hd.out, Hl.out]; rfl
      · rw [← Hd.out]; exact Hfin.out
end Go.Proofs.YtknmhdkomjjneaaGreatDoor.Txt
