/-
  bundle.Names: what the call returns and leaves.
-/
import Derived.Test.YtdhbfoelpdoofaaQ8
namespace Go.Proofs.Ytdhbfoelpdoofaa
open Go.RowKit

theorem ity : Sl Try.prog 41 3 (.int .i64 0) 1 8 := ⟨Try.underlying41, by kernel_rfl, rfl, by omega⟩
/-- A row of m values. -/
def mrow (v : Value) (m : Nat) : Array Value := (List.replicate m v).toArray
theorem make1 {t e : TypeId} {zv : Value} {y : Nat} (u : Sl Try.prog t e zv 1 y) (hz : zv.cells = #[zv]) (hy : y ≤ 100) (w : World) (m : Nat) (hm : m ≤ 1000000) :
    (Instr.makeSlice t (.int .i64 (m : Int)) (.int .i64 (m : Int))).run Try.prog w = .ok (.slice (some ⟨w.heap.size, 0, none⟩) m m) (w.alloc (.cells (mrow zv m) e)) := by
  obtain ⟨i, hi, hz0, hz1, hz2⟩ := info_parts u.inf
  have hmy : y * m ≤ 100 * 1000000 := Nat.mul_le_mul hy hm
  have h := run_make (P := Try.prog) w t e i zv u.sl hi hz0 .i64 .i64 (m : Int) (m : Int) (by omega) (by omega) (by rw [hz2]; omega) (by omega)
  simp only [Int.toNat_natCast, hz1, Nat.mul_one] at h
  rw [h]
  have e1 : madeCells zv.cells m = mrow zv m := by
    apply Array.toList_inj.1
    rw [hz, toList_madeCells_one]
    simp [mrow]
  rw [e1]
def ns (D : List Bm.F) : List (List UInt8) := D.map (·.nm)
def zvs (D : List Bm.F) : List Value := D.map fun f => .int .i64 (f.sz : Int)
theorem ns_next (D : List Bm.F) (k j : Nat) (f : Bm.F) (h : D[j]? = some f) (hj : j < k) (hk : D.length = k) :
    (lvs (ns (D.take j)) ++ List.replicate (k - j) (Value.string ⟨#[]⟩)).set j (.string ⟨f.nm.toArray⟩) = lvs (ns (D.take (j + 1))) ++ List.replicate (k - (j + 1)) (.string ⟨#[]⟩) := by
  have hl : (lvs (ns (D.take j))).length = j := by unfold ns; rw [lvs_length, List.length_map, List.length_take]; omega
  rw [List.set_append_right _ _ (by omega), hl, Nat.sub_self, show k - j = (k - (j + 1)) + 1 by omega, List.replicate_succ, List.set_cons_zero, List.take_add_one, h]
  unfold ns lvs
  simp
theorem zs_next (D : List Bm.F) (k j : Nat) (f : Bm.F) (h : D[j]? = some f) (hj : j < k) (hk : D.length = k) :
    (zvs (D.take j) ++ List.replicate (k - j) (Value.int .i64 0)).set j (.int .i64 (f.sz : Int)) = zvs (D.take (j + 1)) ++ List.replicate (k - (j + 1)) (.int .i64 0) := by
  have hl : (zvs (D.take j)).length = j := by unfold zvs; rw [List.length_map, List.length_take]; omega
  rw [List.set_append_right _ _ (by omega), hl, Nat.sub_self, show k - j = (k - (j + 1)) + 1 by omega, List.replicate_succ, List.set_cons_zero, List.take_add_one, h]
  unfold zvs
  simp
theorem row_old (L : List Value) (j k : Nat) (v : Value) (hl : L.length = j) (hj : j < k) : (L ++ List.replicate (k - j) v)[j]? = some v := by
  rw [List.getElem?_append_right (by omega), hl, Nat.sub_self, show k - j = (k - (j + 1)) + 1 by omega, List.replicate_succ]
  rfl
/-- Names and sizes. -/
def RetNm (w : World) (t : Option (List Bm.F × Nat)) (e : Ending) (w' : World) : Prop :=
  Below w.heap.size w w' ∧ match t with
  | some (D, _) => ∃ A c E d, e = .returned (.tuple #[.slice A D.length c, .slice E D.length d, .int .i64 0]) ∧ Rc 1 w' w'.heap.size A D.length c (lvs (ns D)) ∧ Rc 1 w' w'.heap.size E D.length d (zvs D)
  | none => e = .returned (.tuple #[.slice none 0 0, .slice none 0 0, .int .i64 3])
def NmRel (g k : Nat) (w : World) (D : List Bm.F) (i : Value) (wr : World) : Prop :=
  ∃ j : Nat, i = .int .i64 (j : Int) ∧ j ≤ k ∧ Oc 1 wr 9 g (some ⟨g, 0, none⟩) k k (lvs (ns (D.take j)) ++ List.replicate (k - j) (.string ⟨#[]⟩)) ∧ Oc 1 wr 3 (g + 1) (some ⟨g + 1, 0, none⟩) k k (zvs (D.take j) ++ List.replicate (k - j) (.int .i64 0)) ∧ Below g w wr

set_option maxRecDepth 100000 in
set_option maxHeartbeats 4000000 in
/-- Names -/
theorem names_c (A : Option Addr) (n c : Nat) (l : List UInt8) (w : World) (hr : Rb w w.heap.size A n c l) (hn : n ≤ 90000) :
    Calls Try.prog 15 #[.slice A n c] w (RetNm w (Bm.dir l)) := by
  have hl := hr.len
  have hdi := fun (T : Option Addr) (W : World) (hT : Rn W W.heap.size T 256 256 Cm.tab) (hW : Rb W W.heap.size A n c l) => directoryOf_c T A n c 256 l W hT hW hn
  have Hr := Lib.hid hr; have Hl := Lib.hid hl; have Hdi := Lib.hid hdi
  clear hr hl hdi
  rcases hI : Bm.dir l with _ | ⟨D, en⟩
  · have HI := Lib.hid hI
    clear hI
    go_enter Try.func15, Try.ntmps15
    go_wp2_with fail
    refine (table_c w).mono ?_
    rintro e w1 ⟨rfl, hT, hb1, hz1⟩
    have hr1 := (Hr.out.below hb1).more hb1.size
    have HT := Lib.hid hT; have Hr1 := Lib.hid hr1
    clear hT hr1
    go_wp2_with fail
    refine (Hdi.out _ _ HT.out Hr1.out).mono ?_
    rw [HI.out]
    rintro e w2 ⟨hb2, rfl⟩
    have b2 := hb1.trans (hb2.mono hb1.size)
    unfold dv
    go_wp2
    go_ret3
    exact ⟨b2.alloc b2.size _, rfl⟩
  · obtain ⟨hD, hen, hm⟩ := dir_files hI Hl.out hn
    obtain ⟨k, hk⟩ : ∃ k, D.length = k := ⟨_, rfl⟩
    rw [hk] at hD
    have HI := Lib.hid hI; have Hk := Lib.hid hk
    clear hI hm hk
    go_enter Try.func15, Try.ntmps15
    go_wp2_with fail
    refine (table_c w).mono ?_
    rintro e w1 ⟨rfl, hT, hb1, hz1⟩
    have hr1 := (Hr.out.below hb1).more hb1.size
    have HT := Lib.hid hT; have Hr1 := Lib.hid hr1
    clear hT hr1
    go_wp2_with fail
    refine (Hdi.out _ _ HT.out Hr1.out).mono ?_
    rw [HI.out]
    rintro e w2 ⟨hb2, F, d, rfl, hF⟩
    have z1 := hb1.size
    have z2 := hb2.size
    unfold dv
    rw [Hk.out] at hF ⊢
    have b2 := hb1.trans (hb2.mono z1)
    obtain ⟨w3, hw3⟩ : ∃ w3, w3 = w2.alloc (.cells #[.slice F k d, .int .i64 (en : Int)] 57) := ⟨_, rfl⟩
    obtain ⟨g, hg⟩ : ∃ g, g = w3.heap.size := ⟨_, rfl⟩
    have b3 : Below w2.heap.size w2 w3 := by rw [hw3]; exact (Below.refl _ _).alloc (Nat.le_refl _) _
    have z3 := b3.size
    have bw3 := b2.trans (b3.mono b2.size)
    have hmn := make1 sty rfl (by omega) w3 k (by omega)
    obtain ⟨w4, hw4⟩ : ∃ w4, w4 = w3.alloc (.cells (mrow (.string ⟨#[]⟩) k) 9) := ⟨_, rfl⟩
    rw [← hw4, ← hg] at hmn
    have z4 : w4.heap.size = g + 1 := by rw [hw4, hg]; simp
    have b4 : Below g w3 w4 := by rw [hw4, hg]; exact (Below.refl _ _).alloc (Nat.le_refl _) _
    have hmi := make1 ity rfl (by omega) w4 k (by omega)
    obtain ⟨w5, hw5⟩ : ∃ w5, w5 = w4.alloc (.cells (mrow (.int .i64 0) k) 3) := ⟨_, rfl⟩
    rw [← hw5, z4] at hmi
    have b5 : Below (g + 1) w4 w5 := by rw [hw5, ← z4]; exact (Below.refl _ _).alloc (Nat.le_refl _) _
    have z5 : w5.heap.size = g + 1 + 1 := by rw [hw5]; simp [z4]
    have on4 : Oc 1 w4 9 g (some ⟨g, 0, none⟩) k k (lvs (ns (D.take 0)) ++ List.replicate (k - 0) (.string ⟨#[]⟩)) := by
      have h := Oc.lit (z := 1) w3 9 (mrow (.string ⟨#[]⟩) k) k (by simp [mrow]) (by simp only [maxLen]; omega)
      rw [← hw4, ← hg] at h
      simpa [mrow, ns, lvs] using h
    have oi5 : Oc 1 w5 3 (g + 1) (some ⟨g + 1, 0, none⟩) k k (zvs (D.take 0) ++ List.replicate (k - 0) (.int .i64 0)) := by
      have h := Oc.lit (z := 1) w4 3 (mrow (.int .i64 0) k) k (by simp [mrow]) (by simp only [maxLen]; omega)
      rw [← hw5, z4] at h
      simpa [mrow, zvs] using h
    have on5 := on4.keep (by rw [z4]; exact b5)
    have hF5 : Rf w5 g F k d D := ((Rf.below hF.rf b3).below ((b4.mono (by omega)).trans (b5.mono (by omega)))).more (by omega)
    have hgw : w.heap.size ≤ g := by have := b2.size; omega
    have b35 : Below g w3 w5 := b4.trans (b5.mono (by omega))
    have x3 := Box2.made w2 57 (.slice F k d) (.int .i64 (en : Int))
    rw [← hw3] at x3
    have x4 := x3.below b4 (by rw [hg]; exact x3.lt)
    have c0 := x3.c0
    have d0 := x4.c0
    have e0 := (x3.below b35 (by rw [hg]; exact x3.lt)).c0
    have hg2 : w2.heap.size < g := by rw [hg]; exact x3.lt
    have On5 := Lib.hid on5; have Oi5 := Lib.hid oi5; have HF5 := Lib.hid hF5; have W3 := Lib.hid hw3; have Z5 := Lib.hid z5; have Hg := Lib.hid hg
    clear hw3 hw4 hw5 on4 on5 oi5 hF hF5 x3 x4 hg z5 b3 b4 b5
    clear z4
    go_wp2_with (rw [← W3.out])
    go_loopw [30] (fun i wr => NmRel g k w5 D i wr) (fun i _ => k - (intOf i).toNat)
    case atStart => exact ⟨0, rfl, Nat.zero_le _, On5.out, Oi5.out, Below.refl _ _⟩
    case round =>
      obtain ⟨j, rfl, hj, hn1, hi1, hbel⟩ := hrel
      have zr := hbel.size
      clear hmn hmi c0 d0
      by_cases hlt : j < k
      · obtain ⟨b, off, f, rfl, hb, hf, e0', e1, e2, e3⟩ := (HF5.out.below hbel).at_ hlt
        have hnn := ns_next D k j f hf hlt Hk.out
        have hzn := zs_next D k j f hf hlt Hk.out
        have hln : (lvs (ns (D.take j))).length = j := by unfold ns; rw [lvs_length, List.length_map, List.length_take, Hk.out]; omega
        have hlz : (zvs (D.take j)).length = j := by unfold zvs; rw [List.length_map, List.length_take, Hk.out]; omega
        obtain ⟨fa, hfa⟩ : ∃ x, x = f.at_ := ⟨_, rfl⟩
        obtain ⟨fn, hfn⟩ : ∃ x, x = f.nm := ⟨_, rfl⟩
        obtain ⟨fz, hfz⟩ : ∃ x, x = f.sz := ⟨_, rfl⟩
        obtain ⟨fs, hfs⟩ : ∃ x, x = f.st := ⟨_, rfl⟩
        rw [← hfa] at e0'; rw [← hfn] at e1 hnn; rw [← hfz] at e2 hzn; rw [← hfs] at e3
        have o1 : wr.cell? ⟨g, j, none⟩ = some (.string ⟨#[]⟩) := by rw [World.ownsRow.cellAt hn1 j (by omega)]; exact row_old _ j k _ hln hlt
        have o2 : wr.cell? ⟨g + 1, j, none⟩ = some (.int .i64 0) := by rw [World.ownsRow.cellAt hi1 j (by omega)]; exact row_old _ j k _ hlz hlt
        have p1 := World.ownsRow.frozenAt hn1 j
        have p2 := World.ownsRow.frozenAt hi1 j
        have hg3 : g < wr.heap.size := by have := Z5.out; omega
        have hg4 : g + 1 < wr.heap.size := by have := Z5.out; omega
        have Hn1 := Lib.hid hn1; have Hi1 := Lib.hid hi1; have Hnn := Lib.hid hnn; have Hzn := Lib.hid hzn
        clear hn1 hi1 hnn hzn hln hlz hfa hfn hfz hfs hf
        go_wp2
        go_roundw
        case rel =>
          refine ⟨j + 1, by go_num, hlt, ?_, ?_, ?_⟩
          · have h1 : Oc 1 (wr.setCell ⟨g, j, none⟩ (.string ⟨fn.toArray⟩)) 9 g (some ⟨g, 0, none⟩) k k _ := (World.ownsRow.stored Hn1.out j (.string ⟨fn.toArray⟩)).1
            rw [Hnn.out] at h1
            exact (h1.tn (k := g + 1) ((Tn.of_below (Below.refl _ _)).set _) (.inr fun x hx => by have h3 : g = x := Option.some.inj hx; omega)).alloc _
          · have h1 : Oc 1 (wr.setCell ⟨g, j, none⟩ (.string ⟨fn.toArray⟩)) 3 (g + 1) (some ⟨g + 1, 0, none⟩) k k _ := Hi1.out.tn (k := g) ((Tn.of_below (Below.refl _ _)).set _) (.inl (by omega))
            have h2 : Oc 1 ((wr.setCell ⟨g, j, none⟩ (.string ⟨fn.toArray⟩)).setCell ⟨g + 1, j, none⟩ (.int .i64 (fz : Int))) 3 (g + 1) (some ⟨g + 1, 0, none⟩) k k _ := (World.ownsRow.stored h1 j (.int .i64 (fz : Int))).1
            rw [Hzn.out] at h2
            exact h2.alloc _
          · exact ((hbel.setCell (Nat.le_refl _) _).setCell (Nat.le_succ _) _).alloc (by simp; omega) _
        case measure => simp [intOf]; omega
      · have hjk : j = k := by omega
        subst hjk
        rw [List.take_of_length_le (by rw [Hk.out]; exact Nat.le_refl _), Nat.sub_self] at hn1 hi1
        simp only [List.replicate_zero, List.append_nil] at hn1 hi1
        have Hn1 := Lib.hid hn1.rc; have Hi1 := Lib.hid hi1.rc
        have bfin := bw3.trans ((b35.trans hbel).mono (by omega))
        have Bfin := Lib.hid bfin
        clear hn1 hi1 bfin
        go_wp2
        go_ret3
        refine ⟨Bfin.out, ?_⟩
        show ∃ A c E d, _ ∧ _ ∧ _
        rw [Hk.out]
        exact ⟨_, _, _, _, rfl, Hn1.out, Hi1.out⟩
end Go.Proofs.Ytdhbfoelpdoofaa
