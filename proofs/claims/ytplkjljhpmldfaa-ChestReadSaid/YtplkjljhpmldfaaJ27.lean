/-
  Joined: P4.
-/
import Derived.Test.YtplkjljhpmldfaaJ22
import Derived.Test.YtplkjljhpmldfaaJ14
import Derived.Maps.GroupsBeside
/-
  The map of places: what it holds once the first m places are noted; press.note.
-/
namespace Go.Proofs.Ytplkjljhpmldfaa
open Go.RowKit Go.Maps Go.ChangeShapes

/-- The places below m at which the four bytes are x. -/
def posn (l : List UInt8) (m x : Nat) : List Nat := (List.range m).filter (fun p => f4 l p == x)
theorem posn_zero (l : List UInt8) (x : Nat) : posn l 0 x = [] := rfl
theorem posn_same (l : List UInt8) (m : Nat) : posn l (m + 1) (f4 l m) = posn l m (f4 l m) ++ [m] := by simp [posn, List.range_succ, List.filter_append]
theorem posn_other (l : List UInt8) (m x : Nat) (h : f4 l m ≠ x) : posn l (m + 1) x = posn l m x := by
  have : (f4 l m == x) = false := by simpa using h
  simp [posn, List.range_succ, List.filter_append, this]
def posI (l : List UInt8) (m x : Nat) : List Int := (posn l m x).map fun (p : Nat) => (p : Int)

/-- The map's datum holds the places below m. -/
def Gd (D : DataW Unit) (l : List UInt8) (m : Nat) : Prop :=
  IsMap D ∧ ∀ x : Nat, (D.atKey (.int .u32 (x : Int)) .nil = .nil ∧ posI l m x = []) ∨ D.atKey (.int .u32 (x : Int)) .nil = .slice (lits .i64 (posI l m x)) []
theorem Gd.start (l : List UInt8) : Gd (.map []) l 0 := ⟨isMap_empty, fun _ => .inl ⟨rfl, rfl⟩⟩
theorem lits_inj {q : IntKind} : ∀ {a b : List Int}, (lits q a : List (DataW Unit)) = lits q b → a = b
  | [], [], _ => rfl
  | [], _ :: _, h => by simp [lits] at h
  | _ :: _, [], h => by simp [lits] at h
  | x :: a, y :: b, h => by
    simp only [lits, List.map_cons, List.cons.injEq, DataW.lit.injEq, Lit.int.injEq, true_and] at h
    rw [h.1, lits_inj (q := q) (a := a) (b := b) h.2]
theorem Gd.at_ {D : DataW Unit} {l : List UInt8} {m : Nat} (h : Gd D l m) (x : Nat) {w : World} {base : Nat} {v : Value} {zs : List Int} (hat : D.atKey (.int .u32 (x : Int)) .nil = rowDatum .i64 v zs) (hoi : w.ownsInts base 3 .i64 v zs) : zs = posI l m x := by
  rcases hoi.datum (H := Unit) with ⟨e, rfl⟩ | e
  · rw [e] at hat
    rcases h.2 x with ⟨_, h2⟩ | h2
    · exact h2.symm
    · rw [hat] at h2; cases h2
  · rw [e] at hat
    rcases h.2 x with ⟨h1, _⟩ | h2
    · rw [hat] at h1; cases h1
    · rw [hat] at h2
      simp only [DataW.slice.injEq, and_true] at h2
      exact lits_inj h2
theorem Gd.put {D : DataW Unit} {l : List UInt8} {m : Nat} (h : Gd D l m) {w : World} {base : Nat} {v : Value} {zs : List Int} (hzs : zs = posI l m (f4 l m)) (hoi : w.ownsInts base 3 .i64 v (zs ++ [(m : Int)])) :
    Gd (D.put (.int .u32 (f4 l m : Nat)) (rowDatum .i64 v (zs ++ [(m : Int)]))) l (m + 1) := by
  refine ⟨h.1.put _ _, fun x => ?_⟩
  by_cases hx : x = f4 l m
  · subst hx
    rw [atKey_put_same h.1 (show WideAt.IsKeyLit (.int .u32 _) from trivial), hoi.datum_pos (by simp), hzs]
    refine .inr ?_
    unfold posI
    rw [posn_same, List.map_append]
    rfl
  · rw [atKey_put_other (by intro e; simp at e; omega)]
    have := h.2 x
    unfold posI at this ⊢
    rw [posn_other l m x (fun e => hx e.symm)]
    exact this

theorem info_int : (Try.prog.info? 3).map (fun i => (i.zero, i.size, i.bytes)) = some (some (.int .i64 0), 1, 8) := by kernel_rfl
theorem zero_ints (w : World) : (zeroValue 37).run Try.prog w = .ok (.slice none 0 0) w := by kernel_rfl
theorem law_u32 : Keyed Try.prog 81 := int_keyed Try.underlying81

/-- Block b is the map of the places below m; no group lies in a block of which No holds. -/
structure Grp (w : World) (b : Nat) (No : Nat → Prop) (l : List UInt8) (m : Nat) (D : DataW Unit) : Prop where
  own : w.ownsGroups Try.prog 81 (b + 1) 3 .i64 b m D
  gd : Gd D l m
  sh : w.Shuns b No
  lt : b < w.heap.size
theorem grown_drewN (w : World) (q : Nat) (r : Option Nat) : w.grownBy (w.drewN q) r := ⟨rfl, rfl, rfl, Nat.le_refl _, fun _ _ _ => rfl⟩
theorem none_or (o : Option Nat) : o = none ∨ o ≠ none := by cases o <;> simp
theorem Grp.drewN {w : World} {b : Nat} {No : Nat → Prop} {l : List UInt8} {m : Nat} {D : DataW Unit} (h : Grp w b No l m D) (q : Nat) : Grp (w.drewN q) b No l m D :=
  ⟨h.own.kept (grown_drewN w q none) (by simp) (fun _ _ _ _ _ => none_or _), h.gd, h.sh.kept (grown_drewN w q none) h.lt (by simp), h.lt⟩
theorem Grp.start (w : World) (l : List UInt8) (No : Nat → Prop) : Grp (w.alloc (.map #[] 0)) w.heap.size No l 0 (.map []) :=
  ⟨World.ownsGroups_made _ _ _ _ _, Gd.start l, World.Shuns_made _ _, by simp⟩
/-- Another row of the call's own has grown. -/
theorem Grp.beside {w w' : World} {b : Nat} {l : List UInt8} {m : Nat} {D : DataW Unit} {A A' : Option Addr} (h : Grp w b (fun g => ob A = some g) l m D) (hne : ob A ≠ some b) (hg : Grows w w' A A') : Grp w' b (fun g => ob A' = some g) l m D ∧ ob A' ≠ some b := by
  have hlt := h.lt
  have h1 : some b ≠ ob A := fun e => hne e.symm
  have ho : w'.ownsGroups Try.prog 81 (b + 1) 3 .i64 b m D := h.own.kept hg.1 h1 (h.sh.rowsOff fun j hj => hj)
  have hreno : w.Shuns b (fun g => ob A' = some g) := h.sh.reno h.own fun g hg' => by
    rcases hg.2 with e | ⟨g', e, hge⟩
    · exact .inl (e ▸ hg')
    · rw [e] at hg'; cases hg'; exact .inr hge
  refine ⟨⟨ho, h.gd, hreno.kept hg.1 hlt h1, Nat.lt_of_lt_of_le hlt hg.size⟩, fun e => ?_⟩
  rcases hg.2 with e1 | ⟨g', e1, hge⟩
  · exact hne (e1 ▸ e)
  · rw [e1] at e; cases e; omega

def NoteRel (b from_ : Nat) (T : Int) (w : World) (l : List UInt8) (n : Nat) (No : Nat → Prop) (t : Value) (wr : World) : Prop :=
  ∃ (p : Nat) (D : DataW Unit), t = .int .i64 (p : Int) ∧ from_ ≤ p ∧ (p = from_ ∨ (p : Int) ≤ T) ∧ Hid (Grp wr b No l (min p (n - 3)) D) ∧ Below b w wr ∧ w.heap.size ≤ wr.heap.size ∧ Hid (∀ g, No g → g ≠ b → g < w.heap.size → wr.heap[g]? = w.heap[g]?)


theorem wf32 (x : Nat) (h : x < 4294967296) : (Lit.int .u32 (x : Int)).wf = true := by
  exact WalkArith.wf_u32 (by omega)

set_option maxRecDepth 100000 in
set_option maxHeartbeats 1000000 in
/-- press.note -/
theorem note_c (A : Option Addr) (n c b : Nat) (l : List UInt8) (from_ to : Nat) (No : Nat → Prop) (D0 : DataW Unit) (w : World) (hr : Rb w b A n c l) (hn : n ≤ 900000) (hNo : ∀ g, No g → g < w.heap.size) (hg : Grp w b No l (min from_ (n - 3)) D0) (hft : from_ ≤ to) (hto : to ≤ 900000) :
    Calls Try.prog 69 #[.map (some b), .slice A n c, .int .i64 (from_ : Int), .int .i64 (to : Int)] w fun e w' => e = .returned (.tuple #[]) ∧ (∃ D, Grp w' b No l (min to (n - 3)) D) ∧ Below b w w' ∧ w.heap.size ≤ w'.heap.size ∧ ∀ g, No g → g ≠ b → g < w.heap.size → w'.heap[g]? = w.heap[g]? := by
  have Hr := Lib.hid hr; have HNo := Lib.hid hNo; have Hg := Lib.hid hg; clear hr hNo hg
  by_cases hT : (to : Int) ≤ (n : Int) - 4 + 1
  · obtain ⟨i0, hi, hz0, hz1, hz2⟩ := info_parts info_int
    go_enter Try.func69, Try.ntmps69
    go_wp2
    go_loopw [8] (fun t wr => NoteRel b from_ (to : Int) w l n No t wr) (fun t _ => n - (intOf t).toNat)
    case atStart => exact ⟨from_, D0, rfl, Nat.le_refl _, .inl rfl, Hg.out, Below.refl _ _, Nat.le_refl _, Lib.hid fun _ _ _ _ => rfl⟩
    case round =>
      obtain ⟨p, D, rfl, hfp, hpT, HG, hbel, hsz, HK⟩ := hrel
      by_cases hlt : (p : Int) < (to : Int)
      · have hp4 : p + 4 ≤ n := by omega
        have hpn : p ≤ 1000000 := by omega
        have HG' : Hid (Grp wr b No l p D) := by rw [show p = min p (n - 3) by omega]; exact HG
        clear HG
        go_wp2_with fail
        refine (four_c A n c b l p _ (Hr.out.below hbel) (by omega) hp4).mono ?_
        rintro e w1 ⟨rfl, q, rfl⟩
        have HG1 := Lib.hid (HG'.out.drewN q); clear HG'
        obtain ⟨x, hx⟩ : ∃ x, x = f4 l p := ⟨_, rfl⟩
        have hxl : x < 4294967296 := by rw [hx]; exact f4_lt l p
        rw [← hx]
        have Hx := Lib.hid hx; clear hx
        have hkey := keyOf_int_mk (P := Try.prog) Try.underlying81 (q := .u32) (a := (x : Int)) (wf32 x hxl)
        generalize hW : wr.drewN q = W
        have HW := Lib.hid hW; clear hW
        have HG2 : Hid (Grp W b No l p D) := by rw [← HW.out]; exact HG1
        clear HG1
        have hbW := HG2.out.lt
        have HWs : Hid (W.heap.size = wr.heap.size) := Lib.hid (by rw [← HW.out]; rfl)
        go_wp2_with (first
          | (at_lookup; refine wpList_lookup_groups_shuns _ rfl _ _ 103 rfl 81 37 3 .i64 law_u32 Try.underlying103 (zero_ints _) (b + 1) b p D rfl HG2.out.own (by unfold maxLen; omega) _ _ rfl hkey ?_; intro u zs hat hoi hzl hback hsu)
          | (at_builtin; refine wpList_append_own_at _ rfl _ _ 37 rfl (b + 1) 3 i0 (.int .i64 0) 1 8 Try.underlying37 hi hz0 hz1 hz2 rfl (by decide) _ _ _ rfl (hoi.1.alloc _) ⟨W.heap.size, 0, none⟩ 1 1 [.int .i64 (p : Int)] rfl rfl (cell_one_new _ _ _) (ints_oneCell .i64 [(p : Int)]) (by unfold maxLen; omega) (by omega) (by simp; omega) ?_; intro v' w5 hown' hgrow hnil hloc
             have hall := (World.grownBy_alloc W (.cells #[.int .i64 (p : Int)] 3) u.ownBlock).trans hgrow
             have hoi' := hoi.appended hown' (WalkArith.wf_i64 (by omega))
             have hloc' : v'.ownBlock = u.ownBlock ∨ ∃ g, v'.ownBlock = some g ∧ W.heap.size ≤ g := hloc.imp id (fun h => ⟨_, h, by simp⟩)
             have hno' : ∀ g, v'.ownBlock = some g → ¬ No g := fun g hg hN => by
               rcases hloc' with h1 | ⟨g', h1, h2⟩
               · exact hsu No HG2.out.sh g (h1 ▸ hg) hN
               · rw [h1] at hg; cases hg; have := HNo.out g hN; have := HWs.out; omega)
          | (at_mapUpdate; refine wpList_mapUpdate_back_shuns _ rfl _ _ _ 103 rfl law_u32 Try.underlying103 hkey HG2.out.own (by unfold maxLen; omega) hoi HG2.out.sh hno' hback rfl rfl rfl hall hoi' (by simp; omega) hloc' ?_; intro w6 hown6 hgrow6 hsh6)
          | go_in)
        have hWs := HWs.out
        have hzs := HG2.out.gd.at_ x hat hoi
        rw [Hx.out] at hzs hown6
        have hgd := HG2.out.gd.put hzs hoi'
        have hsu' := hsu No HG2.out.sh
        have hbW2 : Below b w W := by rw [← HW.out]; exact below_drewN hbel q
        have hbel6 : Below b w w6 := hbW2.groups hoi hall hgrow6 (by omega) (by omega) (Nat.le_refl _)
        have hs6 := hgrow6.size
        have hsa := hall.size
        have hG6 : Hid (Grp w6 b No l (min (p + 1) (n - 3)) (D.put (.int .u32 (f4 l p : Nat)) (rowDatum .i64 v' (zs ++ [(p : Int)])))) := by
          rw [show min (p + 1) (n - 3) = p + 1 by omega]
          exact ⟨hown6, hgd, hsh6, by omega⟩
        have HK6 : Hid (∀ g, No g → g ≠ b → g < w.heap.size → w6.heap[g]? = w.heap[g]?) := fun g h1 h2 h3 => by
          have e1 := hgrow6.block g (by omega) (fun e => h2 (Option.some.inj e))
          have e2 := hall.block g (by omega) (fun e => hsu' g e.symm h1)
          have e3 : W.heap[g]? = wr.heap[g]? := by rw [← HW.out]; rfl
          exact e1.trans (e2.trans (e3.trans (HK.out g h1 h2 h3)))
        clear hback hsu hno' hsh6 hown6 hgd hall hgrow hown'
        go_roundw
        case rel => exact ⟨p + 1, _, by go_num, by omega, .inr (by omega), hG6, hbel6, by omega, HK6⟩
        case measure => simp [intOf]; omega
      · go_wp2
        go_end0
        refine ⟨rfl, ⟨D, ?_⟩, hbel, hsz, HK.out⟩
        rw [show min to (n - 3) = min p (n - 3) by omega]
        exact HG.out
  · obtain ⟨i0, hi, hz0, hz1, hz2⟩ := info_parts info_int
    go_enter Try.func69, Try.ntmps69
    go_wp2
    go_loopw [8] (fun t wr => NoteRel b from_ ((n : Int) - 3) w l n No t wr) (fun t _ => n - (intOf t).toNat)
    case atStart => exact ⟨from_, D0, rfl, Nat.le_refl _, .inl rfl, Hg.out, Below.refl _ _, Nat.le_refl _, Lib.hid fun _ _ _ _ => rfl⟩
    case round =>
      obtain ⟨p, D, rfl, hfp, hpT, HG, hbel, hsz, HK⟩ := hrel
      by_cases hlt : (p : Int) < ((n : Int) - 3)
      · have hp4 : p + 4 ≤ n := by omega
        have hpn : p ≤ 1000000 := by omega
        have HG' : Hid (Grp wr b No l p D) := by rw [show p = min p (n - 3) by omega]; exact HG
        clear HG
        go_wp2_with fail
        refine (four_c A n c b l p _ (Hr.out.below hbel) (by omega) hp4).mono ?_
        rintro e w1 ⟨rfl, q, rfl⟩
        have HG1 := Lib.hid (HG'.out.drewN q); clear HG'
        obtain ⟨x, hx⟩ : ∃ x, x = f4 l p := ⟨_, rfl⟩
        have hxl : x < 4294967296 := by rw [hx]; exact f4_lt l p
        rw [← hx]
        have Hx := Lib.hid hx; clear hx
        have hkey := keyOf_int_mk (P := Try.prog) Try.underlying81 (q := .u32) (a := (x : Int)) (wf32 x hxl)
        generalize hW : wr.drewN q = W
        have HW := Lib.hid hW; clear hW
        have HG2 : Hid (Grp W b No l p D) := by rw [← HW.out]; exact HG1
        clear HG1
        have hbW := HG2.out.lt
        have HWs : Hid (W.heap.size = wr.heap.size) := Lib.hid (by rw [← HW.out]; rfl)
        go_wp2_with (first
          | (at_lookup; refine wpList_lookup_groups_shuns _ rfl _ _ 103 rfl 81 37 3 .i64 law_u32 Try.underlying103 (zero_ints _) (b + 1) b p D rfl HG2.out.own (by unfold maxLen; omega) _ _ rfl hkey ?_; intro u zs hat hoi hzl hback hsu)
          | (at_builtin; refine wpList_append_own_at _ rfl _ _ 37 rfl (b + 1) 3 i0 (.int .i64 0) 1 8 Try.underlying37 hi hz0 hz1 hz2 rfl (by decide) _ _ _ rfl (hoi.1.alloc _) ⟨W.heap.size, 0, none⟩ 1 1 [.int .i64 (p : Int)] rfl rfl (cell_one_new _ _ _) (ints_oneCell .i64 [(p : Int)]) (by unfold maxLen; omega) (by omega) (by simp; omega) ?_; intro v' w5 hown' hgrow hnil hloc
             have hall := (World.grownBy_alloc W (.cells #[.int .i64 (p : Int)] 3) u.ownBlock).trans hgrow
             have hoi' := hoi.appended hown' (WalkArith.wf_i64 (by omega))
             have hloc' : v'.ownBlock = u.ownBlock ∨ ∃ g, v'.ownBlock = some g ∧ W.heap.size ≤ g := hloc.imp id (fun h => ⟨_, h, by simp⟩)
             have hno' : ∀ g, v'.ownBlock = some g → ¬ No g := fun g hg hN => by
               rcases hloc' with h1 | ⟨g', h1, h2⟩
               · exact hsu No HG2.out.sh g (h1 ▸ hg) hN
               · rw [h1] at hg; cases hg; have := HNo.out g hN; have := HWs.out; omega)
          | (at_mapUpdate; refine wpList_mapUpdate_back_shuns _ rfl _ _ _ 103 rfl law_u32 Try.underlying103 hkey HG2.out.own (by unfold maxLen; omega) hoi HG2.out.sh hno' hback rfl rfl rfl hall hoi' (by simp; omega) hloc' ?_; intro w6 hown6 hgrow6 hsh6)
          | go_in)
        have hWs := HWs.out
        have hzs := HG2.out.gd.at_ x hat hoi
        rw [Hx.out] at hzs hown6
        have hgd := HG2.out.gd.put hzs hoi'
        have hsu' := hsu No HG2.out.sh
        have hbW2 : Below b w W := by rw [← HW.out]; exact below_drewN hbel q
        have hbel6 : Below b w w6 := hbW2.groups hoi hall hgrow6 (by omega) (by omega) (Nat.le_refl _)
        have hs6 := hgrow6.size
        have hsa := hall.size
        have hG6 : Hid (Grp w6 b No l (min (p + 1) (n - 3)) (D.put (.int .u32 (f4 l p : Nat)) (rowDatum .i64 v' (zs ++ [(p : Int)])))) := by
          rw [show min (p + 1) (n - 3) = p + 1 by omega]
          exact ⟨hown6, hgd, hsh6, by omega⟩
        have HK6 : Hid (∀ g, No g → g ≠ b → g < w.heap.size → w6.heap[g]? = w.heap[g]?) := fun g h1 h2 h3 => by
          have e1 := hgrow6.block g (by omega) (fun e => h2 (Option.some.inj e))
          have e2 := hall.block g (by omega) (fun e => hsu' g e.symm h1)
          have e3 : W.heap[g]? = wr.heap[g]? := by rw [← HW.out]; rfl
          exact e1.trans (e2.trans (e3.trans (HK.out g h1 h2 h3)))
        clear hback hsu hno' hsh6 hown6 hgd hall hgrow hown'
        go_roundw
        case rel => exact ⟨p + 1, _, by go_num, by omega, .inr (by omega), hG6, hbel6, by omega, HK6⟩
        case measure => simp [intOf]; omega
      · go_wp2
        go_end0
        refine ⟨rfl, ⟨D, ?_⟩, hbel, hsz, HK.out⟩
        rw [show min to (n - 3) = min p (n - 3) by omega]
        exact HG.out

end Go.Proofs.Ytplkjljhpmldfaa
