/-
  fixed's Cells; the document's: what each call returns and leaves.
-/
import Derived.Test.YtjdmpnonjlffaaaY7
import Derived.Test.YtjdmpnonjlffaaaY3
import Derived.Laws.OwnMore
namespace Go.Proofs.Ytjdmpnonjlffaaa
open Go.RowKit Go.Maps

theorem ext_eq (l : List UInt8) (a b : Nat) : (ByteArray.mk l.toArray).extract a b = ByteArray.mk ((l.take b).drop a).toArray := by
  have h : ((ByteArray.mk l.toArray).extract a b).data.toList = ((l.take b).drop a) := by
    simp [ByteArray.data_extract, List.extract_eq_take_drop, List.drop_take]
  cases h2 : (ByteArray.mk l.toArray).extract a b with
  | mk x => rw [h2] at h; rw [← h]
theorem sty : Sl Try.prog 43 9 (.string ⟨#[]⟩) 1 16 := ⟨Try.underlying43, by kernel_rfl, rfl, by omega⟩
/-- A row of m empty texts. -/
def srow (m : Nat) : Array Value := (List.replicate m (Value.string ⟨#[]⟩)).toArray
theorem smake (w : World) (m : Nat) (hm : m ≤ 1000000) :
    (Instr.makeSlice 43 (.int .i64 (m : Int)) (.int .i64 (m : Int))).run Try.prog w = .ok (.slice (some ⟨w.heap.size, 0, none⟩) m m) (w.alloc (.cells (srow m) 9)) := by
  obtain ⟨i, hi, hz0, hz1, hz2⟩ := info_parts sty.inf
  have h := run_make (P := Try.prog) w 43 9 i (.string ⟨#[]⟩) sty.sl hi hz0 .i64 .i64 (m : Int) (m : Int) (by omega) (by omega) (by rw [hz2]; omega) (by omega)
  simp only [Int.toNat_natCast, hz1, Nat.mul_one] at h
  rw [h]
  have e1 : madeCells (Value.string ⟨#[]⟩).cells m = srow m := by
    apply Array.toList_inj.1
    have hcells : (Value.string ⟨#[]⟩).cells = #[.string ⟨#[]⟩] := rfl
    rw [hcells, toList_madeCells_one]
    simp [srow]
  rw [e1]
def RetC (w : World) (t : List (List UInt8) × Nat) (e : Ending) (w' : World) : Prop :=
  ∃ A c, e = .returned (.tuple #[.slice A t.1.length c, .int .i64 (t.2 : Int)]) ∧ Rc 1 w' w'.heap.size A t.1.length c (lvs t.1) ∧ Below w.heap.size w w'
def CelRel (g m : Nat) (ws : List Int) (l : List UInt8) (w : World) (s i : Value) (wr : World) : Prop :=
  ∃ j : Nat, ∃ D, s = .string ⟨List.toArray D⟩ ∧ D = l.drop (Fx.pre ws j) ∧ i = .int .i64 (j : Int) ∧ j ≤ m ∧ Oc 1 wr 9 g (some ⟨g, 0, none⟩) m m (lvs (Fx.cl ws l j) ++ List.replicate (m - j) (.string ⟨#[]⟩)) ∧ Below g w wr
theorem row_set (ws : List Int) (l : List UInt8) (m j : Nat) (h : j < m) : (lvs (Fx.cl ws l j) ++ List.replicate (m - j) (Value.string ⟨#[]⟩)).set j (.string ⟨(Fx.fld ws l j).toArray⟩) = lvs (Fx.cl ws l (j + 1)) ++ List.replicate (m - (j + 1)) (.string ⟨#[]⟩) := by
  have hl : (lvs (Fx.cl ws l j)).length = j := by rw [lvs_length, Fx.cl_len]
  rw [List.set_append_right _ _ (by omega), hl, Nat.sub_self, show m - j = (m - (j + 1)) + 1 by omega, List.replicate_succ, List.set_cons_zero, Fx.cl_next, lvs_append]
  simp [lvs]

theorem cells_arg (X : ByteArray) (A : Option Addr) (m c B : Nat) (ws : List Int) (hw : Fx.wok ws = false) (w : World) (hr : Rc 1 w B A m c (ivs ws)) :
    Calls Try.prog 21 #[.string X, .slice A m c] w fun e w' => e = .returned (.tuple #[.slice none 0 0, .int .i64 1]) ∧ w = w' := by
  have Hr := Lib.hid hr; clear hr
  go_enter Try.func21, Try.ntmps21
  go_wp2_with fail
  refine (arw_c A m c B ws false hw.symm _ Hr.out).mono ?_
  rintro e w1 ⟨rfl, rfl⟩
  go_wp2
  go_ret2
  exact ⟨rfl, rfl⟩
set_option maxRecDepth 100000 in
theorem cells_short (X : ByteArray) (A : Option Addr) (m c B : Nat) (ws : List Int) (hw : Fx.wok ws = true) (hs : X.size < Fx.pre ws m) (w : World) (hr : Rc 1 w B A m c (ivs ws)) :
    Calls Try.prog 21 #[.string X, .slice A m c] w fun e w' => e = .returned (.tuple #[.slice none 0 0, .int .i64 2]) ∧ w = w' := by
  have hsum := fun W h => sum_c A m c B ws hw W h
  obtain ⟨N, hN⟩ : ∃ N, N = Fx.pre ws m := ⟨_, rfl⟩
  simp only [← hN] at hsum hs
  have Hr := Lib.hid hr; have Hsum := Lib.hid hsum; clear hr hsum hN
  have hs' : (X.size : Int) < (N : Int) := by omega
  go_enter Try.func21, Try.ntmps21
  go_wp2_with fail
  refine (arw_c A m c B ws true hw.symm _ Hr.out).mono ?_
  rintro e w1 ⟨rfl, rfl⟩
  go_wp2_with fail
  refine (Hsum.out _ Hr.out).mono ?_
  rintro e w1 ⟨rfl, rfl⟩
  go_wp2
  go_ret2
  exact ⟨rfl, rfl⟩
set_option maxRecDepth 100000 in
theorem cells_large (X : ByteArray) (A : Option Addr) (m c B : Nat) (ws : List Int) (hw : Fx.wok ws = true) (hs : Fx.pre ws m < X.size) (w : World) (hr : Rc 1 w B A m c (ivs ws)) :
    Calls Try.prog 21 #[.string X, .slice A m c] w fun e w' => e = .returned (.tuple #[.slice none 0 0, .int .i64 5]) ∧ w = w' := by
  have hsum := fun W h => sum_c A m c B ws hw W h
  obtain ⟨N, hN⟩ : ∃ N, N = Fx.pre ws m := ⟨_, rfl⟩
  simp only [← hN] at hsum hs
  have Hr := Lib.hid hr; have Hsum := Lib.hid hsum; clear hr hsum hN
  have hs' : (N : Int) < (X.size : Int) := by omega
  have hs2 : ¬ (X.size : Int) < (N : Int) := by omega
  go_enter Try.func21, Try.ntmps21
  go_wp2_with fail
  refine (arw_c A m c B ws true hw.symm _ Hr.out).mono ?_
  rintro e w1 ⟨rfl, rfl⟩
  go_wp2_with fail
  refine (Hsum.out _ Hr.out).mono ?_
  rintro e w1 ⟨rfl, rfl⟩
  go_wp2
  go_ret2
  exact ⟨rfl, rfl⟩

set_option maxHeartbeats 2000000 in
set_option maxRecDepth 100000 in
theorem cells_ok (l : List UInt8) (A : Option Addr) (m c : Nat) (ws : List Int) (hw : Fx.wok ws = true) (hs : Fx.pre ws m = l.length) (w : World) (hr : Rc 1 w w.heap.size A m c (ivs ws)) :
    Calls Try.prog 21 #[.string ⟨l.toArray⟩, .slice A m c] w (RetC w (Fx.cl ws l m, 0)) := by
  have hsum := fun W h => sum_c A m c w.heap.size ws hw W h
  have hl : ws.length = m := by have := hr.len1; rw [ivs_length] at this; exact this
  have hm : m ≤ 50 := by have := Fx.wok_len hw; omega
  have hmk := smake w m (by omega)
  simp only [hs] at hsum
  have Hr := Lib.hid hr; have Hsum := Lib.hid hsum; have Hl := Lib.hid hl; have Hs := Lib.hid hs; have Hw := Lib.hid hw; clear hr hsum hl hs hw
  go_enter Try.func21, Try.ntmps21
  go_wp2_with fail
  refine (arw_c A m c _ ws true Hw.out.symm _ Hr.out).mono ?_
  rintro e w1 ⟨rfl, rfl⟩
  go_wp2_with fail
  refine (Hsum.out _ Hr.out).mono ?_
  rintro e w1 ⟨rfl, rfl⟩
  go_wp2
  go_loopw [0, 30] (fun s i wr => CelRel w.heap.size m ws l w s i wr) (fun _ i _ => m - (intOf i).toNat)
  case atStart =>
    refine ⟨0, l, rfl, by simp [Fx.pre], rfl, Nat.zero_le _, ?_, (Below.refl _ _).alloc (Nat.le_refl _) _⟩
    have h := Oc.lit (z := 1) w 9 (srow m) m (by simp [srow]) (by simp only [maxLen]; omega)
    simpa [srow, Fx.cl, lvs] using h
  case round =>
    clear hmk
    obtain ⟨j, D, rfl, hD, rfl, hj, hown, hbel⟩ := hrel
    have z3 := hbel.size
    rename World => wr
    by_cases hlt : j < m
    · obtain ⟨b, off, x, rfl, hb, hcell, hxx⟩ := (Hr.out.below hbel).int hlt
      have hx2 := Fx.wok_at Hw.out hxx
      obtain ⟨W, rfl⟩ : ∃ W : Nat, x = (W : Int) := ⟨x.toNat, by omega⟩
      have hnx := Fx.pre_next hxx
      rw [Int.toNat_natCast] at hnx
      have hpl := Fx.pre_le ws (show j + 1 ≤ m by omega)
      have hfd := Fx.fld_eq ws l j hxx
      rw [Int.toNat_natCast, ← hD] at hfd
      have hDl : D.length = l.length - Fx.pre ws j := by rw [hD, List.length_drop]
      have hWD : W ≤ D.length := by have := Hs.out; omega
      obtain ⟨X, hX⟩ : ∃ X : ByteArray, X = ⟨D.toArray⟩ := ⟨_, rfl⟩
      have hXs : X.size = D.length := by rw [hX]; rfl
      have e1 : X.extract 0 W = ⟨(Fx.fld ws l j).toArray⟩ := by rw [hX, ext_eq, hfd]; rfl
      have e2 : X.extract W X.size = ⟨(D.drop W).toArray⟩ := by rw [hXs, hX, ext_eq, List.take_length]
      have e3 : D.drop W = l.drop (Fx.pre ws (j + 1)) := by rw [hD, List.drop_drop, hnx]
      have hWX : W ≤ X.size := by omega
      have hnew : wr.cell? ⟨w.heap.size, j, none⟩ = some (.string ⟨#[]⟩) := by
        rw [World.ownsRow.cellAt hown j (by omega), List.getElem?_append_right (by rw [lvs_length, Fx.cl_len]; exact Nat.le_refl _), lvs_length, Fx.cl_len, Nat.sub_self, List.getElem?_replicate, if_pos (by omega)]
      have hfz : wr.frozen? ⟨w.heap.size, j, none⟩ = false := World.ownsRow.frozenAt hown j
      have hst := (World.ownsRow.stored hown j (.string (X.extract 0 W))).1
      rw [show (lvs (Fx.cl ws l j) ++ List.replicate (m - j) (Value.string ⟨#[]⟩)).set j (.string (X.extract 0 W)) = lvs (Fx.cl ws l (j + 1)) ++ List.replicate (m - (j + 1)) (.string ⟨#[]⟩) by rw [e1]; exact row_set ws l m j hlt] at hst
      have hb2 := hbel.setCell (p := ⟨w.heap.size, j, none⟩) (Nat.le_refl _) (.string (X.extract 0 W))
      rw [← hX]
      have Hst := Lib.hid hst; have Hb2 := Lib.hid hb2; have E2 := Lib.hid e2; have E3 := Lib.hid e3
      clear hown hst hb2 e1 e2 e3 hX hD hDl hWD hfd hnx hpl hxx hXs hbel
      have hW0 : (0 : Int) ≤ (W : Int) := by omega
      go_wp2_with fail
      go_region
      go_wp2
      go_roundw
      case rel => exact ⟨j + 1, D.drop W, by rw [E2.out], E3.out, by go_num, hlt, Hst.out, Hb2.out.drew⟩
      case measure => simp [intOf]; omega
    · obtain rfl : j = m := by omega
      rw [Nat.sub_self, List.replicate_zero, List.append_nil] at hown
      have hfin := hown.rc
      have Hfin := Lib.hid hfin; clear hown hfin hD
      go_wp2
      go_ret2
      exact ⟨some ⟨w.heap.size, 0, none⟩, j, by rw [Fx.cl_len]; rfl, by rw [Fx.cl_len]; exact Hfin.out, hbel⟩
end Go.Proofs.Ytjdmpnonjlffaaa
