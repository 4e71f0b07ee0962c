/-
  Joined: X1 X2 X3 X4 X5.
-/
import Derived.Test.YtknmhdkomjjneaaGreatDoorJW6
import Derived.Test.YtknmhdkomjjneaaGreatDoorJW1
import Derived.Lib.Strings
import Derived.Lib.Walk
import Derived.Lib.BytesEntry
import Derived.IntWalk
/-
  The library's IndexByte; text's line, firstStart, isLine, Canon, Starts: what each call returns.
-/
namespace Go.Proofs.YtknmhdkomjjneaaGreatDoor.Txt
open Go.RowKit

theorem bty : U8 Tryz.prog 22 5 9 := ⟨Tryz.underlying22, Tryz.underlying5, Tryz.underlying9, by kernel_rfl⟩
theorem bytesOf_map (l : List UInt8) : Lib.bytesOf (l.map fun x => (x.toNat : Int)) = l := by
  simp only [Lib.bytesOf, List.map_map]
  induction l with
  | nil => rfl
  | cons x l ih => rw [List.map_cons, ih]; simp

set_option maxHeartbeats 1000000 in
set_option maxRecDepth 100000 in
theorem bidx_c (b o n c B : Nat) (l : List UInt8) (w : World) (hr : Rb w B (some ⟨b, o, none⟩) n c l) :
    Calls Tryz.prog 142 #[.slice (some ⟨b, o, none⟩) n c, .int .u8 10] w fun e w' => e = .returned (.int .i64 (Lib.indexByte l 10)) ∧ w = w' := by
  have hl := hr.len
  have hc : ∀ i, i < n → w.cell? ⟨b, o + i, none⟩ = some (.int .u8 ((l.map fun x => (x.toNat : Int)).getD i 0)) := fun i hi => by
    obtain ⟨b', o', x, e, _, hx, hg⟩ := hr.at_ hi
    injection e with e
    injection e with e1 e2 _
    subst e1 e2
    rw [List.getD_eq_getElem?_getD, List.getElem?_map, hg.1]
    exact hx
  have hrun := Lib.run_indexByteSlice (P := Tryz.prog) w b o n c (l.map fun x => (x.toNat : Int)) (by simpa using hl) hc 10
  rw [bytesOf_map] at hrun
  have H := Lib.hid hrun; clear hrun hc hl
  go_enter Tryz.func142, Tryz.ntmps142
  go_wp2_with fail
  rw [run_callFunc_extern Tryz.func178 (by kernel_rfl) (by kernel_rfl) (by kernel_rfl) (e := Extern.BytealgIndexByte.indexByte) (by kernel_rfl), H.out]
  simp only [Result.andThen]
  rw [Oper.upon_value]
  go_wp2
  go_ret
  exact ⟨rfl, rfl⟩

set_option maxHeartbeats 1000000 in
set_option maxRecDepth 100000 in
theorem lidx_c (s : ByteArray) (w : World) :
    Calls Tryz.prog 179 #[.string s, .int .u8 10] w fun e w' => e = .returned (.int .i64 (Lib.indexByte s.data.toList 10)) ∧ w = w' := by
  go_enter Tryz.func179, Tryz.ntmps179
  go_wp2_with fail
  rw [run_callFunc_extern Tryz.func210 (by kernel_rfl) (by kernel_rfl) (by kernel_rfl) (e := Extern.BytealgIndexByte.indexByte) (by kernel_rfl), Lib.run_indexByteString]
  simp only [Result.andThen]
  rw [Oper.upon_value]
  go_wp2
  go_ret
  exact ⟨rfl, rfl⟩
set_option maxRecDepth 100000 in
theorem sidx_c (s : ByteArray) (w : World) :
    Calls Tryz.prog 143 #[.string s, .int .u8 10] w fun e w' => e = .returned (.int .i64 (Lib.indexByte s.data.toList 10)) ∧ w = w' := by
  go_enter Tryz.func143, Tryz.ntmps143
  go_wp2_with fail
  refine (lidx_c s _).mono ?_
  rintro e w' ⟨rfl, rfl⟩
  go_wp2
  go_ret
  exact ⟨rfl, rfl⟩

def RetLn (w : World) (l : List UInt8) (a : Nat) (e : Ending) (w' : World) : Prop := ∃ k n, e = .returned (.tuple #[.string ⟨List.toArray k⟩, .int .i64 ((n : Nat) : Int)]) ∧ Tm.Line l a k n ∧ w = w'

set_option maxHeartbeats 1000000 in
set_option maxRecDepth 100000 in
theorem line_c (A : Option Addr) (n c B : Nat) (l : List UInt8) (a : Nat) (w : World) (hr : Rb w B A n c l) (ha : a < n) (hn : n ≤ 1000000) :
    Calls Tryz.prog 117 #[.slice A n c, .int .i64 (a : Int)] w (RetLn w l a) := by
  have hl := hr.len
  obtain ⟨D, hD, hrD⟩ := bty.from_ hr (k := a) (by omega) (a : Int) rfl
  obtain ⟨b1, o1, _, rfl, _⟩ := hrD.at_ (k := 0) (by omega)
  have hcv := bty.conv hrD
  rcases Tm.idx_cases (l.drop a) with ⟨hi, hnone⟩ | ⟨k, v, hkv, hi, hnone⟩
  · have Hfin := Lib.hid (Tm.line_last l a (by omega) hnone)
    have Hl := Lib.hid hl; have HrD := Lib.hid hrD; have Hi := Lib.hid hi; clear hr hl hrD hi hnone
    go_enter Tryz.func117, Tryz.ntmps117
    go_wp2_with fail
    refine (bidx_c b1 o1 _ _ B _ _ HrD.out).mono ?_
    rw [Hi.out]
    rintro e w' ⟨rfl, rfl⟩
    go_wp2
    go_ret2
    exact ⟨_, n, rfl, by have := Hfin.out; rwa [Hl.out] at this, rfl⟩
  · have hfin := Tm.line_more l k v a hkv hnone
    have hlen := congrArg List.length hkv
    rw [List.length_drop, List.length_append, List.length_cons] at hlen
    have hka : a + k.length + 1 ≤ n := by omega
    obtain ⟨E, hE, hrE⟩ := bty.mid_ hr (i := a) (k := a + k.length) (by omega) (by omega) (a : Int) ((a : Int) + (k.length : Int)) rfl (by omega) k.length (by omega)
    have e2 : (l.take (a + k.length)).drop a = k := by rw [List.drop_take, show a + k.length - a = k.length by omega]; exact hfin.2
    rw [e2] at hrE
    have hcvE := bty.conv hrE
    have Hfin := Lib.hid hfin; have Hl := Lib.hid hl; have HrD := Lib.hid hrD; have Hi := Lib.hid hi; clear hr hl hrD hi hnone hfin hlen hrE e2 hkv
    go_enter Tryz.func117, Tryz.ntmps117
    go_wp2_with fail
    refine (bidx_c b1 o1 _ _ B _ _ HrD.out).mono ?_
    rw [Hi.out]
    rintro e w' ⟨rfl, rfl⟩
    go_wp2
    go_ret2
    exact ⟨k, a + k.length + 1, by first | rfl | (simp [Int.natCast_add]), by have h := Hfin.out.1; rwa [Hfin.out.2] at h, rfl⟩

theorem ten_ne {x : UInt8} (h : x ≠ 10) : ((x.toNat : Int) == 10) = false := by
  rw [beq_eq_false_iff_ne]
  intro e
  apply h
  apply UInt8.toNat_inj.1
  show x.toNat = 10
  omega

set_option maxHeartbeats 1000000 in
set_option maxRecDepth 100000 in
theorem isLine_c (A : Option Addr) (n c B : Nat) (r : List (List UInt8)) (w : World) (hr : Rc 1 w B A n c (lvs r)) (o : Bool) (ho : o = Tm.ok r) :
    Calls Tryz.prog 118 #[.slice A n c] w fun e w' => e = .returned (.bool o) ∧ w = w' := by
  have hl := lvs_num hr
  by_cases h1 : n = 1
  · subst h1
    obtain ⟨b, off, s, rfl, _, hcell, hx, _⟩ := lvs_at hr (k := 0) (by omega)
    rw [Nat.add_zero] at hcell
    obtain rfl : r = [s] := by
      match r, hl, hx with
      | [y], _, hx => simp at hx; rw [hx]
    by_cases hbig : s.length ≤ 1000
    · have hd : decide ((s.length : Int) ≤ 1000) = true := by simp; omega
      have hd2 : decide (s.length ≤ 1000) = true := by simpa using hbig
      rw [Tm.ok_one, hd2, Tm.contains_ten, Bool.true_and] at ho
      rcases Tm.idx_cases s with ⟨hi, _⟩ | ⟨k, v, hkv, hi, _⟩
      · obtain rfl : o = true := by rw [ho, hi]; rfl
        have Hi := Lib.hid (show Lib.indexByte (⟨s.toArray⟩ : ByteArray).data.toList 10 = -1 from hi); clear hr hl ho hi hx hd2
        go_enter Tryz.func118, Tryz.ntmps118
        go_wp2_with fail
        refine (sidx_c _ _).mono ?_
        rw [Hi.out]
        rintro e w' ⟨rfl, rfl⟩
        go_wp2
        go_ret
        exact ⟨rfl, rfl⟩
      · obtain rfl : o = false := by rw [ho, hi]; simp
        have Hi := Lib.hid (show Lib.indexByte (⟨s.toArray⟩ : ByteArray).data.toList 10 = (k.length : Int) from hi); clear hr hl ho hi hx hd2 hkv
        go_enter Tryz.func118, Tryz.ntmps118
        go_wp2_with fail
        refine (sidx_c _ _).mono ?_
        rw [Hi.out]
        rintro e w' ⟨rfl, rfl⟩
        go_wp2
        go_ret
        exact ⟨rfl, rfl⟩
    · have hd : decide ((s.length : Int) ≤ 1000) = false := by simp; omega
      obtain rfl : o = false := by rw [ho, Tm.ok_one, decide_eq_false hbig]; rfl
      clear hr hl ho hx
      go_enter Tryz.func118, Tryz.ntmps118
      go_wp2
      go_ret
      exact ⟨rfl, rfl⟩
  · obtain rfl : o = false := by rw [ho]; exact Tm.ok_len (by omega)
    have hd : ((n : Int) == 1) = false := by rw [beq_eq_false_iff_ne]; omega
    clear hr hl ho
    go_enter Tryz.func118, Tryz.ntmps118
    go_wp2
    go_ret
    exact ⟨rfl, rfl⟩
end Go.Proofs.YtknmhdkomjjneaaGreatDoor.Txt

/-
  text's Scan, the document's Scan: what each call returns and leaves.
-/

namespace Go.Proofs.YtknmhdkomjjneaaGreatDoor.Txt
open Go.RowKit Go.Maps

theorem oc_lt {z : Nat} {w : World} {e : TypeId} {base n c : Nat} {A : Option Addr} {vs : List Value} (h : Oc z w e base A n c vs) : ∀ g, ob A = some g → g < w.heap.size := fun g hg => (oc_ob h g hg).2
def RetP (w : World) (l : List UInt8) (e : Ending) (w' : World) : Prop :=
  ∃ A c, e = .returned (.tuple #[.slice A (Tm.ls l).length c, .int .i64 (l.length : Int), .int .i64 0]) ∧ PLS w' (Fr w.heap.size w') A (Tm.ls l).length c ((Tm.ls l).map Tm.pc) ∧ Below w.heap.size w w'
def ScanRel (base n : Nat) (w : World) (l : List UInt8) (o t : Value) (wr : World) : Prop :=
  ∃ A c vs done, ∃ a : Nat, o = .slice A done.length c ∧ t = .int .i64 (a : Int) ∧ a ≤ n ∧ Oc 2 wr 63 base A done.length c vs ∧ PsS wr (Sf base wr A) vs (done.map Tm.pc) ∧ done ++ Tm.lns a [] (l.drop a) = Tm.ls l ∧ Below base w wr

set_option maxHeartbeats 2000000 in
set_option maxRecDepth 100000 in
theorem scan_c (A : Option Addr) (n c : Nat) (l : List UInt8) (w : World) (hr : Rb w w.heap.size A n c l) (hn : n ≤ 1000000) :
    Calls Tryz.prog 95 #[.slice A n c] w (RetP w l) := by
  have hl := hr.len
  have Hr := Lib.hid hr; have Hl := Lib.hid hl; clear hr hl
  go_enter Tryz.func95, Tryz.ntmps95
  go_wp2
  go_loopw [5, 6] (fun o t wr => ScanRel w.heap.size n w l o t wr) (fun _ t _ => n - (intOf t).toNat)
  case atStart => exact ⟨none, 0, [], [], 0, rfl, rfl, Nat.zero_le _, Oc.nil _ _ _ _, PsS.nil, rfl, Below.refl _ _⟩
  case round =>
    obtain ⟨A3, c3, vs, done, a, rfl, rfl, ha, hown, hps, hst, hbel⟩ := hrel
    have z3 := hbel.size
    have hlen : done.length ≤ n := by
      have h1 := Tm.ls_len l
      have h2 := congrArg List.length hst
      rw [List.length_append] at h2
      have := Hl.out
      omega
    by_cases hlt : a < n
    · have Hst := Lib.hid hst; have Hown := Lib.hid hown; have Hps := Lib.hid hps; clear hst hown hps
      have hr3 := Hr.out.below hbel
      have Hr3 := Lib.hid hr3; clear hr3
      go_wp2_with fail
      refine (line_c A n c _ l a _ Hr3.out hlt hn).mono ?_
      rintro e w4 ⟨k, m, rfl, ⟨hln, hm1, hm2, hk⟩, rfl⟩
      have hst2 : (done ++ [(a, k)]) ++ Tm.lns m [] (l.drop m) = Tm.ls l := by
        rw [← Hst.out, hln]; simp
      have hmn : m ≤ n := by rw [Hl.out] at hm2; exact hm2
      have Hst2 := Lib.hid hst2; clear hln hst2 hm2 hk
      rename World => wr
      obtain ⟨w5, h5⟩ : ∃ w5, w5 = wr.alloc (.cells #[.string ⟨k.toArray⟩] 9) := ⟨_, rfl⟩
      obtain ⟨w6, h6⟩ : ∃ w6, w6 = w5.alloc (.cells #[.slice (some ⟨wr.heap.size, 0, none⟩) 1 1] 78) := ⟨_, rfl⟩
      obtain ⟨w7, h7⟩ : ∃ w7, w7 = w6.alloc (.cells #[.int .i64 (a : Int), .slice (some ⟨wr.heap.size + 1, 0, none⟩) 1 1] 63) := ⟨_, rfl⟩
      obtain ⟨z7, b7, hlit, hpr⟩ := piece_lit wr k a A3 w.heap.size _ _ _ z3 (oc_lt Hown.out) w5 w6 w7 h5 h6 h7
      have hown7 := Hown.out.keep b7
      have hps7 := (Hps.out.keep (sf_below b7)).snoc hpr
      have bw7 := hbel.trans (b7.mono z3)
      have H5 := Lib.hid h5; have H6 := Lib.hid h6; have H7 := Lib.hid h7; have Hlit := Lib.hid hlit; have Hown7 := Lib.hid hown7; have Hps7 := Lib.hid hps7; have Z7 := Lib.hid z7; clear h5 h6 h7 hlit hpr hown7 hps7 z7 b7
      go_wp2_with (at_builtin; rw [← H5.out, ← H6.out, ← H7.out]; go_must (refine Sl.wpAppAt pty rfl (.tmp 19) (.tmp 25) rfl (n := done.length) (m := 1) (N := done.length + 1) (ws := vs ++ [.int .i64 (a : Int), .slice (some ⟨wr.heap.size + 1, 0, none⟩) 1 1]) rfl rfl Hown7.out Hlit.out ?hs1 rfl rfl ?hs4 ?hs5 ?hs6 ?_))
      case hs1 => simp [Value.oneCell']
      case hs4 => omega
      case hs5 => omega
      case hs6 => have := Z7.out; omega
      intro A8 c8 w8 hown8 hg8
      have bw8 := bw7.trans (hg8.belowC Hown7.out (by have := Z7.out; omega))
      have hps8 := Hps7.out.keep (sf_grow hg8)
      have Hown8 := Lib.hid hown8; have Hps8 := Lib.hid hps8; clear hown8 hps8 hg8
      go_wp2
      go_roundw
      case rel => exact ⟨A8, c8, vs ++ [.int .i64 (a : Int), .slice (some ⟨wr.heap.size + 1, 0, none⟩) 1 1], done ++ [(a, k)], m, by simp, rfl, hmn, by rw [List.length_append]; exact Hown8.out, by rw [List.map_append]; exact Hps8.out, Hst2.out, bw8⟩
      case measure => simp [intOf]; omega
    · have e : a = n := by omega
      subst e
      have hd : done = Tm.ls l := by
        rw [← Hl.out, List.drop_length] at hst
        rw [← hst]
        simp [Tm.lns_end]
      have hfin : PLS wr (Fr w.heap.size wr) A3 done.length c3 (done.map Tm.pc) := ⟨vs, hown.rcS, hps.keep (stays_weak sf_fr)⟩
      have Hd := Lib.hid hd; have Hfin := Lib.hid hfin; clear hst hown hps hd hfin
      go_wp2
      go_ret3
      refine ⟨A3, c3, ?_, ?_, hbel⟩
      · rw [← Hd.out, Hl.out]; rfl
      · rw [← Hd.out]; exact Hfin.out
end Go.Proofs.YtknmhdkomjjneaaGreatDoor.Txt

/-
  The document's Scan: what the call returns and leaves.
-/

namespace Go.Proofs.YtknmhdkomjjneaaGreatDoor.Txt
open Go.RowKit Go.Maps

def seg (l : List UInt8) (f i : Nat) : List UInt8 := (l.take i).drop f
end Go.Proofs.YtknmhdkomjjneaaGreatDoor.Txt

/-
  text's Read; the document's All, Of, Read; Pieces (are rows alike?): what each call returns and leaves.
-/

namespace Go.Proofs.YtknmhdkomjjneaaGreatDoor.Txt
open Go.RowKit Go.Maps
def RetA (w : World) (L : List (List (List UInt8))) (e : Ending) (w' : World) : Prop :=
  ∃ A c, e = .returned (.slice A L.length c) ∧ RL w' w'.heap.size A L.length c L ∧ Below w.heap.size w w'
def AllRel (base n : Nat) (w : World) (L : Nat → List (List (List UInt8))) (o i : Value) (wr : World) : Prop :=
  ∃ A c vs, ∃ k : Nat, o = .slice A (L k).length c ∧ i = .int .i64 (k : Int) ∧ k ≤ n ∧ Oc 1 wr 78 base A (L k).length c vs ∧ RrsS wr (· < base) vs (L k) ∧ Below base w wr

end Go.Proofs.YtknmhdkomjjneaaGreatDoor.Txt

/-
  The document's Read; Pieces (are rows alike?); text's Write, the document's Write: what each call returns and leaves.
-/

namespace Go.Proofs.YtknmhdkomjjneaaGreatDoor.Txt
open Go.RowKit Go.Maps
theorem _root_.Go.Proofs.YtknmhdkomjjneaaGreatDoor.U8.wpAppStrTo {P : Program} {t e s : TypeId} (u : U8 P t e s) {w : World} {ops : Array Oper} {rest : List Oper} {o : Oper} {a : Act} {Q : Exit → Act → World → Prop} (hgd : o.guard = none) (x y : Operand)
    (ho : o.op = .call { callee := .builtin .append, args := #[x, y], argTypes := #[t, s] })
    {base c : Nat} {A : Option Addr} {l r N : List UInt8} (hx : a.eval x = .slice A l.length c) (hy : a.eval y = .string ⟨r.toArray⟩) (hown : Own w e base A c l) (hN : l ++ r = N)
    (hsm : N.length ≤ 140737488355328) (hbase : base ≤ w.heap.size)
    (h : ∀ A' c' w', Own w' e base A' c' N → Below base w w' → wpList P ops Q rest (a.put o.dst (.slice A' N.length c')) w') : wpList P ops Q (o :: rest) a w := by
  subst hN
  refine u.wpAppStr hgd x y ho hx hy hown ?_ hbase fun A' c' w' h1 h2 => ?_
  · rw [List.length_append] at hsm
    exact hsm
  · have := h A' c' w' (by simpa using h1) h2
    simpa using this

def RetW (w : World) (t : List UInt8 × Nat) (e : Ending) (w' : World) : Prop :=
  ∃ A c, e = .returned (.tuple #[.slice A t.1.length c, .int .i64 (t.2 : Int)]) ∧ Own w' 5 w.heap.size A c t.1 ∧ Below w.heap.size w w'
def WriteRel (base n : Nat) (w : World) (l : List (List (List UInt8))) (o i : Value) (wr : World) : Prop :=
  ∃ A c M, ∃ k : Nat, o = .slice A M.length c ∧ i = .int .i64 (k : Int) ∧ k ≤ n ∧ Own wr 5 base A c M ∧ M = Tm.wr (l.take k) ∧ (l.take k).all Tm.ok = true ∧ Below base w wr

set_option maxRecDepth 100000 in
set_option maxHeartbeats 2000000 in
theorem write_c (A : Option Addr) (n c : Nat) (l : List (List (List UInt8))) (w : World) (hr : RL w w.heap.size A n c l) (hn : n ≤ 1000000) (hz : (Tm.wr l).length ≤ 1000000) :
    Calls Tryz.prog 96 #[.slice A n c] w (RetW w (Tm.wrS l)) := by
  have hl := hr.len
  have Hr := Lib.hid hr; have Hl := Lib.hid hl; clear hr hl
  go_enter Tryz.func96, Tryz.ntmps96
  go_wp2
  go_loopw [4, 9] (fun o i wr => WriteRel w.heap.size n w l o i wr) (fun _ i _ => n - (intOf i).toNat)
  case atStart => exact ⟨none, 0, [], 0, rfl, rfl, Nat.zero_le _, Own.nil _ _ _, rfl, rfl, Below.refl _ _⟩
  case round =>
    obtain ⟨A3, c3, M, k, rfl, rfl, hk, hown, hM, hok, hbel⟩ := hrel
    have z3 := hbel.size
    rename World => wr
    by_cases hlt : k < n
    · obtain ⟨b, off, D, m, d, r, rfl, hb, hcell, hx, _, hrec⟩ := (Hr.out.below hbel).at_ hlt
      have hml : M.length ≤ 1000000 := by rw [hM]; exact Nat.le_trans (Tm.wr_take l k) hz
      cases hokr : Tm.ok r with
      | false =>
        have Hf := Lib.hid (Tm.wrS_err (Tm.oks_not l k r hx hokr))
        have Hk := Lib.hid hokr.symm; have Hrec := Lib.hid hrec; clear hown hM hok hx hokr hrec
        go_wp2_with fail
        refine (isLine_c D m d _ r _ Hrec.out false Hk.out).mono ?_
        rintro e w' ⟨rfl, rfl⟩
        go_wp2
        go_ret2
        rw [Hf.out]
        exact ⟨none, 0, rfl, Own.nil _ _ _, hbel⟩
      | true =>
        obtain ⟨s, rfl, hs1, _⟩ := Tm.ok_inv hokr
        have hm : m = 1 := by have := lvs_num hrec; simpa using this.symm
        subst hm
        obtain ⟨b2, off2, x, rfl, hb2, hc2, hx2, _⟩ := lvs_at hrec (k := 0) (by omega)
        obtain rfl : s = x := by simpa using hx2
        rw [Nat.add_zero] at hc2
        obtain ⟨M2, hM2⟩ : ∃ M2, M ++ s = M2 := ⟨_, rfl⟩
        obtain ⟨M3, hM3⟩ : ∃ M3, M2 ++ [10] = M3 := ⟨_, rfl⟩
        have hfin : M3 = Tm.wr (l.take (k + 1)) := by rw [Tm.wr_next l k s hx, ← hM, hM2, hM3]
        have q2 : M2.length ≤ 1001000 := by rw [← hM2, List.length_append]; omega
        have q3 : M3.length ≤ 1001001 := by rw [← hM3, List.length_append]; simp; omega
        have Hok2 := Lib.hid (Tm.oks_next l k [s] hx hokr hok)
        have Hfin := Lib.hid hfin; have H2 := Lib.hid hM2; have H3 := Lib.hid hM3; have Hk := Lib.hid hokr.symm; have Hrec := Lib.hid hrec; have Hown := Lib.hid hown
        clear hown hM hok hx hokr hrec hx2 hM2 hM3 hfin
        go_wp2_with fail
        refine (isLine_c _ 1 d _ [s] _ Hrec.out true Hk.out).mono ?_
        rintro e w' ⟨rfl, rfl⟩
        go_wp2_with (at_builtin; go_must (refine bty.wpAppStrTo rfl (.tmp 16) (.tmp 19) rfl (l := M) (r := s) (N := M2) rfl rfl Hown.out H2.out ?hs1 ?hs2 ?_))
        case hs1 => omega
        case hs2 => omega
        intro A5 c5 w5 hown5 hb5
        have z5 := hb5.size
        have Hown5 := Lib.hid hown5; clear hown5
        go_wp2_with (at_builtin; go_must (refine bty.wpAppTo rfl (.tmp 21) (.tmp 22) rfl (l := M2) (r := [10]) (N := M3) rfl rfl (Hown5.out.alloc _) (Rb.oneI _ _ _ 10 rfl) H3.out ?hs3 ?hs4 ?_))
        case hs3 => omega
        case hs4 => simp; omega
        intro A6 c6 w6 hown6 hg6
        have hg6' : Grows w5 w6 A5 A6 := Grows.pre ((Below.refl _ _).alloc (Nat.le_refl _) _) hg6
        have b6 := (hbel.trans hb5).trans (hg6'.below Hown5.out (by omega))
        have Hown6 := Lib.hid hown6; clear hown6 hg6 hg6'
        go_wp2
        go_roundw
        case rel => exact ⟨A6, c6, M3, k + 1, rfl, by go_num, hlt, Hown6.out, Hfin.out, Hok2.out, b6⟩
        case measure => simp [intOf]; omega
    · have e : l.take k = l := List.take_of_length_le (by have := Hl.out; omega)
      rw [e] at hM hok
      have Hf := Lib.hid (Tm.wrS_ok hok)
      subst hM
      have Hown := Lib.hid hown; clear hown hok e
      go_wp2
      go_ret2
      rw [Hf.out]
      exact ⟨A3, c3, rfl, Hown.out, hbel⟩

def NoTen (s : List UInt8) (n : Nat) (t : Value) : Prop := ∃ k : Nat, t = .int .i64 (k : Int) ∧ k ≤ n ∧ ∀ x ∈ s.take k, x ≠ 10

set_option maxRecDepth 100000 in
set_option maxHeartbeats 4000000 in
theorem rwrite_c (A : Option Addr) (n c : Nat) (l : List (List (List UInt8))) (w : World) (hr : RL w w.heap.size A n c l) (hn : n ≤ 1000000) (hz : (Tm.wr l).length ≤ 1000000) :
    Calls Tryz.prog 48 #[.slice A n c] w (RetW w (Tm.wrS l)) := by
  have hl := hr.len
  have Hr := Lib.hid hr; have Hl := Lib.hid hl; clear hr hl
  go_enter Tryz.func48, Tryz.ntmps48
  go_wp2
  go_loopw [4, 5] (fun o i wr => WriteRel w.heap.size n w l o i wr) (fun _ i _ => n - (intOf i).toNat)
  case atStart => exact ⟨some ⟨w.heap.size, 0, none⟩, 0, [], 0, rfl, rfl, Nat.zero_le _, Own.made0 _ _, rfl, rfl, (Below.refl _ _).alloc (Nat.le_refl _) _⟩
  case round =>
    obtain ⟨A3, c3, M, k, rfl, rfl, hk, hown, hM, hok, hbel⟩ := hrel
    have z3 := hbel.size
    rename World => wr
    by_cases hlt : k < n
    · obtain ⟨b, off, D, m, d, r, rfl, hb, hcell, hx, _, hrec⟩ := (Hr.out.below hbel).at_ hlt
      have hml : M.length ≤ 1000000 := by rw [hM]; exact Nat.le_trans (Tm.wr_take l k) hz
      have hrl := lvs_num hrec
      by_cases hm1 : m = 1
      · subst hm1
        obtain ⟨b2, off2, s, rfl, hb2, hc2, hx2, _⟩ := lvs_at hrec (k := 0) (by omega)
        rw [Nat.add_zero] at hc2
        obtain rfl : r = [s] := by
          match r, hrl, hx2 with
          | [y], _, hx2 => simp at hx2; rw [hx2]
        by_cases hbig : 1000 < s.length
        · have Hf := Lib.hid (Tm.wrS_err (Tm.oks_not l k [s] hx (by rw [Tm.ok_one, decide_eq_false (by omega)]; rfl)))
          have dg : decide ((1000 : Int) < (s.length : Int)) = true := by simp; omega
          clear hown hM hok hx hrec hx2 hrl
          go_wp2
          go_ret2
          rw [Hf.out]
          exact ⟨none, 0, rfl, Own.nil _ _ _, hbel⟩
        · have dg : decide ((1000 : Int) < (s.length : Int)) = false := by simp; omega
          obtain ⟨X, hX⟩ : ∃ X : ByteArray, X = ⟨s.toArray⟩ := ⟨_, rfl⟩
          have hXs : X.size = s.length := by rw [hX]; rfl
          have hXl : X.data.toList = s := by rw [hX]
          rw [← hX] at hc2
          have dg2 : decide ((1000 : Int) < (X.size : Int)) = false := by rw [hXs]; exact dg
          have hX1 : X.size ≤ 1000 := by omega
          have Hown := Lib.hid hown; have HM := Lib.hid hM; have Hok := Lib.hid hok; have Hx := Lib.hid hx; have HX := Lib.hid hX; have HXl := Lib.hid hXl; have HXs := Lib.hid hXs
          clear hown hM hok hx hX hXl hXs hrec hx2 hrl dg
          go_wp2
          go_loop [7] (fun t => NoTen s X.size t) (fun t => X.size - (intOf t).toNat)
          case atStart => exact ⟨0, rfl, Nat.zero_le _, by simp⟩
          case round =>
            obtain ⟨j, rfl, hj, hno⟩ := hrel
            have Hno := Lib.hid hno; clear hno
            by_cases hjt : j < X.size
            · have hsj : s[j]? = some X[j] := by
                rw [← HXl.out, Array.getElem?_toList]
                exact Array.getElem?_eq_getElem hjt
              by_cases h10 : X[j] = 10
              · have Hf := Lib.hid (Tm.wrS_err (Tm.oks_not l k [s] Hx.out (by
                  rw [Tm.ok_one]
                  have : s.contains 10 = true := by rw [List.contains_iff_mem]; exact List.mem_of_getElem? (h10 ▸ hsj)
                  rw [this]; simp)))
                have hb10 : ((X[j].toNat : Int) == 10) = true := by rw [h10]; rfl
                clear h10 hsj
                go_wp2
                go_ret2
                rw [Hf.out]
                exact ⟨none, 0, rfl, Own.nil _ _ _, hbel⟩
              · have hb10 := ten_ne h10
                have hno2 : ∀ x ∈ s.take (j + 1), x ≠ 10 := fun x hx => by
                  rw [List.take_add_one, hsj, List.mem_append] at hx
                  rcases hx with hx | hx
                  · exact Hno.out x hx
                  · simp at hx; rw [hx]; exact h10
                have Hno2 := Lib.hid hno2; clear hno2 h10 hsj
                go_wp2
                go_round
                case rel => exact ⟨j + 1, by go_num, hjt, Hno2.out⟩
                case measure => simp [intOf]; omega
            · have hno : ∀ x ∈ s, x ≠ 10 := by
                have := Hno.out
                rwa [List.take_of_length_le (by have := HXs.out; omega)] at this
              have hokr : Tm.ok [s] = true := by
                rw [Tm.ok_one]
                simp
                exact ⟨by have := HXs.out; omega, fun h => hno 10 h rfl⟩
              obtain ⟨M2, hM2⟩ : ∃ M2, M ++ s = M2 := ⟨_, rfl⟩
              obtain ⟨M3, hM3⟩ : ∃ M3, M2 ++ [10] = M3 := ⟨_, rfl⟩
              have hfin : M3 = Tm.wr (l.take (k + 1)) := by rw [Tm.wr_next l k s Hx.out, ← HM.out, hM2, hM3]
              have hs1000 : s.length ≤ 1000 := by have := HXs.out; omega
              have q2 : M2.length ≤ 1001000 := by rw [← hM2, List.length_append]; omega
              have q3 : M3.length ≤ 1001001 := by rw [← hM3, List.length_append]; simp; omega
              have Hok2 := Lib.hid (Tm.oks_next l k [s] Hx.out hokr Hok.out)
              have Hfin := Lib.hid hfin; have H2 := Lib.hid hM2; have H3 := Lib.hid hM3
              clear hM2 hM3 hfin hokr hno
              go_wp2_with (at_builtin; go_must (refine bty.wpAppStrTo rfl (.tmp 47) (.tmp 48) rfl (l := M) (r := s) (N := M2) rfl (congrArg Value.string HX.out) Hown.out H2.out ?hs1 z3 ?_))
              case hs1 => omega
              intro A5 c5 w5 hown5 hb5
              have z5 := hb5.size
              have Hown5 := Lib.hid hown5; clear hown5
              go_wp2_with (at_builtin; go_must (refine bty.wpAppTo rfl (.tmp 50) (.tmp 51) rfl (l := M2) (r := [10]) (N := M3) rfl rfl (Hown5.out.alloc _) (Rb.oneI _ _ _ 10 rfl) H3.out ?hs3 ?hs4 ?_))
              case hs3 => omega
              case hs4 => simp; omega
              intro A6 c6 w6 hown6 hg6
              have hg6' : Grows w5 w6 A5 A6 := Grows.pre ((Below.refl _ _).alloc (Nat.le_refl _) _) hg6
              have b6 := (hbel.trans hb5).trans (hg6'.below Hown5.out (by omega))
              have Hown6 := Lib.hid hown6; clear hown6 hg6 hg6'
              go_wp2
              go_roundw
              case rel => exact ⟨A6, c6, M3, k + 1, rfl, by go_num, hlt, Hown6.out, Hfin.out, Hok2.out, b6⟩
              case measure => simp [intOf]; omega
      · have Hf := Lib.hid (Tm.wrS_err (Tm.oks_not l k r hx (Tm.ok_len (by omega))))
        have dm : ((m : Int) != 1) = true := by simp; omega
        clear hown hM hok hx hrec hrl
        go_wp2
        go_ret2
        rw [Hf.out]
        exact ⟨none, 0, rfl, Own.nil _ _ _, hbel⟩
    · have e : l.take k = l := List.take_of_length_le (by have := Hl.out; omega)
      rw [e] at hM hok
      have Hf := Lib.hid (Tm.wrS_ok hok)
      subst hM
      have Hown := Lib.hid hown; clear hown hok e
      go_wp2
      go_ret2
      rw [Hf.out]
      exact ⟨A3, c3, rfl, Hown.out, hbel⟩
end Go.Proofs.YtknmhdkomjjneaaGreatDoor.Txt
