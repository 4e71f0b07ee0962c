/-
  Joined: P4 P5 P6 P7 P14 P15 P8.
-/
import Derived.Test.YtknmhdkomjjneaaGreatDoorJW8
import Derived.Test.YtknmhdkomjjneaaGreatDoorJW6
import Derived.Maps.GroupsBeside
/-
  The map of places: what it holds once the first m places are noted; press.note.
-/
namespace Go.Proofs.YtknmhdkomjjneaaGreatDoor.Cht
open Go.RowKit Go.Maps Go.ChangeShapes

def posn (l : List UInt8) (m x : Nat) : List Nat := (List.range m).filter (fun p => f4 l p == x)
theorem posn_same (l : List UInt8) (m : Nat) : posn l (m + 1) (f4 l m) = posn l m (f4 l m) ++ [m] := by simp [posn, List.range_succ, List.filter_append]
theorem posn_other (l : List UInt8) (m x : Nat) (h : f4 l m ≠ x) : posn l (m + 1) x = posn l m x := by
  have : (f4 l m == x) = false := by simpa using h
  simp [posn, List.range_succ, List.filter_append, this]
def posI (l : List UInt8) (m x : Nat) : List Int := (posn l m x).map fun (p : Nat) => (p : Int)

def Gd (D : DataW Unit) (l : List UInt8) (m : Nat) : Prop :=
  IsMap D ∧ ∀ x : Nat, (D.atKey (.int .u32 (x : Int)) .nil = .nil ∧ posI l m x = []) ∨ D.atKey (.int .u32 (x : Int)) .nil = .slice (lits .i64 (posI l m x)) []
theorem Gd.start (l : List UInt8) : Gd (.map []) l 0 := ⟨isMap_empty, fun _ => .inl ⟨rfl, rfl⟩⟩
theorem lits_inj {q : IntKind} : ∀ {a b : List Int}, (lits q a : List (DataW Unit)) = lits q b → a = b
  | [], [], _ => rfl
  | [], _ :: _, h => by simp [lits] at h
  | _ :: _, [], h => by simp [lits] at h
  | x :: a, y :: b, h => by
    simp only [lits, List.map_cons, List.cons.injEq, DataW.lit.injEq, Lit.int.injEq, true_and] at h
    rw [h.1, lits_inj (q := q) (a := a) (b := b) h.2]
theorem Gd.at_ {D : DataW Unit} {l : List UInt8} {m : Nat} (h : Gd D l m) (x : Nat) {w : World} {base : Nat} {v : Value} {zs : List Int} (hat : D.atKey (.int .u32 (x : Int)) .nil = rowDatum .i64 v zs) (hoi : w.ownsInts base 3 .i64 v zs) : zs = posI l m x := by
  rcases hoi.datum (H := Unit) with ⟨e, rfl⟩ | e
  · rw [e] at hat
    rcases h.2 x with ⟨_, h2⟩ | h2
    · exact h2.symm
    · rw [hat] at h2; cases h2
  · rw [e] at hat
    rcases h.2 x with ⟨h1, _⟩ | h2
    · rw [hat] at h1; cases h1
    · rw [hat] at h2
      simp only [DataW.slice.injEq, and_true] at h2
      exact lits_inj h2
theorem Gd.put {D : DataW Unit} {l : List UInt8} {m : Nat} (h : Gd D l m) {w : World} {base : Nat} {v : Value} {zs : List Int} (hzs : zs = posI l m (f4 l m)) (hoi : w.ownsInts base 3 .i64 v (zs ++ [(m : Int)])) :
    Gd (D.put (.int .u32 (f4 l m : Nat)) (rowDatum .i64 v (zs ++ [(m : Int)]))) l (m + 1) := by
  refine ⟨h.1.put _ _, fun x => ?_⟩
  by_cases hx : x = f4 l m
  · subst hx
    rw [atKey_put_same h.1 (show WideAt.IsKeyLit (.int .u32 _) from trivial), hoi.datum_pos (by simp), hzs]
    refine .inr ?_
    unfold posI
    rw [posn_same, List.map_append]
    rfl
  · rw [atKey_put_other (by intro e; simp at e; omega)]
    have := h.2 x
    unfold posI at this ⊢
    rw [posn_other l m x (fun e => hx e.symm)]
    exact this

theorem info_int : (Tryz.prog.info? 3).map (fun i => (i.zero, i.size, i.bytes)) = some (some (.int .i64 0), 1, 8) := by kernel_rfl
theorem zero_ints (w : World) : (zeroValue 25).run Tryz.prog w = .ok (.slice none 0 0) w := by kernel_rfl
theorem law_u32 : Keyed Tryz.prog 123 := int_keyed Tryz.underlying123

structure Grp (w : World) (b : Nat) (No : Nat → Prop) (l : List UInt8) (m : Nat) (D : DataW Unit) : Prop where
  own : w.ownsGroups Tryz.prog 123 (b + 1) 3 .i64 b m D
  gd : Gd D l m
  sh : w.Shuns b No
  lt : b < w.heap.size
theorem grown_drewN (w : World) (q : Nat) (r : Option Nat) : w.grownBy (w.drewN q) r := ⟨rfl, rfl, rfl, Nat.le_refl _, fun _ _ _ => rfl⟩
theorem none_or (o : Option Nat) : o = none ∨ o ≠ none := by cases o <;> simp
theorem Grp.drewN {w : World} {b : Nat} {No : Nat → Prop} {l : List UInt8} {m : Nat} {D : DataW Unit} (h : Grp w b No l m D) (q : Nat) : Grp (w.drewN q) b No l m D :=
  ⟨h.own.kept (grown_drewN w q none) (by simp) (fun _ _ _ _ _ => none_or _), h.gd, h.sh.kept (grown_drewN w q none) h.lt (by simp), h.lt⟩
theorem Grp.start (w : World) (l : List UInt8) (No : Nat → Prop) : Grp (w.alloc (.map #[] 0)) w.heap.size No l 0 (.map []) :=
  ⟨World.ownsGroups_made _ _ _ _ _, Gd.start l, World.Shuns_made _ _, by simp⟩
theorem Grp.beside {w w' : World} {b : Nat} {l : List UInt8} {m : Nat} {D : DataW Unit} {A A' : Option Addr} (h : Grp w b (fun g => ob A = some g) l m D) (hne : ob A ≠ some b) (hg : Grows w w' A A') : Grp w' b (fun g => ob A' = some g) l m D ∧ ob A' ≠ some b := by
  have hlt := h.lt
  have h1 : some b ≠ ob A := fun e => hne e.symm
  have ho : w'.ownsGroups Tryz.prog 123 (b + 1) 3 .i64 b m D := h.own.kept hg.1 h1 (h.sh.rowsOff fun j hj => hj)
  have hreno : w.Shuns b (fun g => ob A' = some g) := h.sh.reno h.own fun g hg' => by
    rcases hg.2 with e | ⟨g', e, hge⟩
    · exact .inl (e ▸ hg')
    · rw [e] at hg'; cases hg'; exact .inr hge
  refine ⟨⟨ho, h.gd, hreno.kept hg.1 hlt h1, Nat.lt_of_lt_of_le hlt hg.size⟩, fun e => ?_⟩
  rcases hg.2 with e1 | ⟨g', e1, hge⟩
  · exact hne (e1 ▸ e)
  · rw [e1] at e; cases e; omega

def NoteRel (b from_ : Nat) (T : Int) (w : World) (l : List UInt8) (n : Nat) (No : Nat → Prop) (t : Value) (wr : World) : Prop :=
  ∃ (p : Nat) (D : DataW Unit), t = .int .i64 (p : Int) ∧ from_ ≤ p ∧ (p = from_ ∨ (p : Int) ≤ T) ∧ Hid (Grp wr b No l (min p (n - 3)) D) ∧ Below b w wr ∧ w.heap.size ≤ wr.heap.size ∧ Hid (∀ g, No g → g ≠ b → g < w.heap.size → wr.heap[g]? = w.heap[g]?)


theorem wf32 (x : Nat) (h : x < 4294967296) : (Lit.int .u32 (x : Int)).wf = true := by
  exact WalkArith.wf_u32 (by omega)

set_option maxRecDepth 100000 in
set_option maxHeartbeats 1000000 in
theorem note_c (A : Option Addr) (n c b : Nat) (l : List UInt8) (from_ to : Nat) (No : Nat → Prop) (D0 : DataW Unit) (w : World) (hr : Rb w b A n c l) (hn : n ≤ 900000) (hNo : ∀ g, No g → g < w.heap.size) (hg : Grp w b No l (min from_ (n - 3)) D0) (hft : from_ ≤ to) (hto : to ≤ 900000) :
    Calls Tryz.prog 203 #[.map (some b), .slice A n c, .int .i64 (from_ : Int), .int .i64 (to : Int)] w fun e w' => e = .returned (.tuple #[]) ∧ (∃ D, Grp w' b No l (min to (n - 3)) D) ∧ Below b w w' ∧ w.heap.size ≤ w'.heap.size ∧ ∀ g, No g → g ≠ b → g < w.heap.size → w'.heap[g]? = w.heap[g]? := by
  have Hr := Lib.hid hr; have HNo := Lib.hid hNo; have Hg := Lib.hid hg; clear hr hNo hg
  by_cases hT : (to : Int) ≤ (n : Int) - 4 + 1
  · obtain ⟨i0, hi, hz0, hz1, hz2⟩ := info_parts info_int
    go_enter Tryz.func203, Tryz.ntmps203
    go_wp2
    go_loopw [8] (fun t wr => NoteRel b from_ (to : Int) w l n No t wr) (fun t _ => n - (intOf t).toNat)
    case atStart => exact ⟨from_, D0, rfl, Nat.le_refl _, .inl rfl, Hg.out, Below.refl _ _, Nat.le_refl _, Lib.hid fun _ _ _ _ => rfl⟩
    case round =>
      obtain ⟨p, D, rfl, hfp, hpT, HG, hbel, hsz, HK⟩ := hrel
      by_cases hlt : (p : Int) < (to : Int)
      · have hp4 : p + 4 ≤ n := by omega
        have hpn : p ≤ 1000000 := by omega
        have HG' : Hid (Grp wr b No l p D) := by rw [show p = min p (n - 3) by omega]; exact HG
        clear HG
        go_wp2_with fail
        refine (four_c A n c b l p _ (Hr.out.below hbel) (by omega) hp4).mono ?_
        rintro e w1 ⟨rfl, q, rfl⟩
        have HG1 := Lib.hid (HG'.out.drewN q); clear HG'
        obtain ⟨x, hx⟩ : ∃ x, x = f4 l p := ⟨_, rfl⟩
        have hxl : x < 4294967296 := by rw [hx]; exact f4_lt l p
        rw [← hx]
        have Hx := Lib.hid hx; clear hx
        have hkey := keyOf_int_mk (P := Tryz.prog) Tryz.underlying123 (q := .u32) (a := (x : Int)) (wf32 x hxl)
        generalize hW : wr.drewN q = W
        have HW := Lib.hid hW; clear hW
        have HG2 : Hid (Grp W b No l p D) := by rw [← HW.out]; exact HG1
        clear HG1
        have hbW := HG2.out.lt
        have HWs : Hid (W.heap.size = wr.heap.size) := Lib.hid (by rw [← HW.out]; rfl)
        go_wp2_with (first
          | (at_lookup; refine wpList_lookup_groups_shuns _ rfl _ _ 217 rfl 123 25 3 .i64 law_u32 Tryz.underlying217 (zero_ints _) (b + 1) b p D rfl HG2.out.own (by unfold maxLen; omega) _ _ rfl hkey ?_; intro u zs hat hoi hzl hback hsu)
          | (at_builtin; refine wpList_append_own_at _ rfl _ _ 25 rfl (b + 1) 3 i0 (.int .i64 0) 1 8 Tryz.underlying25 hi hz0 hz1 hz2 rfl (by decide) _ _ _ rfl (hoi.1.alloc _) ⟨W.heap.size, 0, none⟩ 1 1 [.int .i64 (p : Int)] rfl rfl (cell_one_new _ _ _) (ints_oneCell .i64 [(p : Int)]) (by unfold maxLen; omega) (by omega) (by simp; omega) ?_; intro v' w5 hown' hgrow hnil hloc
             have hall := (World.grownBy_alloc W (.cells #[.int .i64 (p : Int)] 3) u.ownBlock).trans hgrow
             have hoi' := hoi.appended hown' (WalkArith.wf_i64 (by omega))
             have hloc' : v'.ownBlock = u.ownBlock ∨ ∃ g, v'.ownBlock = some g ∧ W.heap.size ≤ g := hloc.imp id (fun h => ⟨_, h, by simp⟩)
             have hno' : ∀ g, v'.ownBlock = some g → ¬ No g := fun g hg hN => by
               rcases hloc' with h1 | ⟨g', h1, h2⟩
               · exact hsu No HG2.out.sh g (h1 ▸ hg) hN
               · rw [h1] at hg; cases hg; have := HNo.out g hN; have := HWs.out; omega)
          | (at_mapUpdate; refine wpList_mapUpdate_back_shuns _ rfl _ _ _ 217 rfl law_u32 Tryz.underlying217 hkey HG2.out.own (by unfold maxLen; omega) hoi HG2.out.sh hno' hback rfl rfl rfl hall hoi' (by simp; omega) hloc' ?_; intro w6 hown6 hgrow6 hsh6)
          | go_in)
        have hWs := HWs.out
        have hzs := HG2.out.gd.at_ x hat hoi
        rw [Hx.out] at hzs hown6
        have hgd := HG2.out.gd.put hzs hoi'
        have hsu' := hsu No HG2.out.sh
        have hbW2 : Below b w W := by rw [← HW.out]; exact below_drewN hbel q
        have hbel6 : Below b w w6 := hbW2.groups hoi hall hgrow6 (by omega) (by omega) (Nat.le_refl _)
        have hs6 := hgrow6.size
        have hsa := hall.size
        have hG6 : Hid (Grp w6 b No l (min (p + 1) (n - 3)) (D.put (.int .u32 (f4 l p : Nat)) (rowDatum .i64 v' (zs ++ [(p : Int)])))) := by
          rw [show min (p + 1) (n - 3) = p + 1 by omega]
          exact ⟨hown6, hgd, hsh6, by omega⟩
        have HK6 : Hid (∀ g, No g → g ≠ b → g < w.heap.size → w6.heap[g]? = w.heap[g]?) := fun g h1 h2 h3 => by
          have e1 := hgrow6.block g (by omega) (fun e => h2 (Option.some.inj e))
          have e2 := hall.block g (by omega) (fun e => hsu' g e.symm h1)
          have e3 : W.heap[g]? = wr.heap[g]? := by rw [← HW.out]; rfl
          exact e1.trans (e2.trans (e3.trans (HK.out g h1 h2 h3)))
        clear hback hsu hno' hsh6 hown6 hgd hall hgrow hown'
        go_roundw
        case rel => exact ⟨p + 1, _, by go_num, by omega, .inr (by omega), hG6, hbel6, by omega, HK6⟩
        case measure => simp [intOf]; omega
      · go_wp2
        go_end0
        refine ⟨rfl, ⟨D, ?_⟩, hbel, hsz, HK.out⟩
        rw [show min to (n - 3) = min p (n - 3) by omega]
        exact HG.out
  · obtain ⟨i0, hi, hz0, hz1, hz2⟩ := info_parts info_int
    go_enter Tryz.func203, Tryz.ntmps203
    go_wp2
    go_loopw [8] (fun t wr => NoteRel b from_ ((n : Int) - 3) w l n No t wr) (fun t _ => n - (intOf t).toNat)
    case atStart => exact ⟨from_, D0, rfl, Nat.le_refl _, .inl rfl, Hg.out, Below.refl _ _, Nat.le_refl _, Lib.hid fun _ _ _ _ => rfl⟩
    case round =>
      obtain ⟨p, D, rfl, hfp, hpT, HG, hbel, hsz, HK⟩ := hrel
      by_cases hlt : (p : Int) < ((n : Int) - 3)
      · have hp4 : p + 4 ≤ n := by omega
        have hpn : p ≤ 1000000 := by omega
        have HG' : Hid (Grp wr b No l p D) := by rw [show p = min p (n - 3) by omega]; exact HG
        clear HG
        go_wp2_with fail
        refine (four_c A n c b l p _ (Hr.out.below hbel) (by omega) hp4).mono ?_
        rintro e w1 ⟨rfl, q, rfl⟩
        have HG1 := Lib.hid (HG'.out.drewN q); clear HG'
        obtain ⟨x, hx⟩ : ∃ x, x = f4 l p := ⟨_, rfl⟩
        have hxl : x < 4294967296 := by rw [hx]; exact f4_lt l p
        rw [← hx]
        have Hx := Lib.hid hx; clear hx
        have hkey := keyOf_int_mk (P := Tryz.prog) Tryz.underlying123 (q := .u32) (a := (x : Int)) (wf32 x hxl)
        generalize hW : wr.drewN q = W
        have HW := Lib.hid hW; clear hW
        have HG2 : Hid (Grp W b No l p D) := by rw [← HW.out]; exact HG1
        clear HG1
        have hbW := HG2.out.lt
        have HWs : Hid (W.heap.size = wr.heap.size) := Lib.hid (by rw [← HW.out]; rfl)
        go_wp2_with (first
          | (at_lookup; refine wpList_lookup_groups_shuns _ rfl _ _ 217 rfl 123 25 3 .i64 law_u32 Tryz.underlying217 (zero_ints _) (b + 1) b p D rfl HG2.out.own (by unfold maxLen; omega) _ _ rfl hkey ?_; intro u zs hat hoi hzl hback hsu)
          | (at_builtin; refine wpList_append_own_at _ rfl _ _ 25 rfl (b + 1) 3 i0 (.int .i64 0) 1 8 Tryz.underlying25 hi hz0 hz1 hz2 rfl (by decide) _ _ _ rfl (hoi.1.alloc _) ⟨W.heap.size, 0, none⟩ 1 1 [.int .i64 (p : Int)] rfl rfl (cell_one_new _ _ _) (ints_oneCell .i64 [(p : Int)]) (by unfold maxLen; omega) (by omega) (by simp; omega) ?_; intro v' w5 hown' hgrow hnil hloc
             have hall := (World.grownBy_alloc W (.cells #[.int .i64 (p : Int)] 3) u.ownBlock).trans hgrow
             have hoi' := hoi.appended hown' (WalkArith.wf_i64 (by omega))
             have hloc' : v'.ownBlock = u.ownBlock ∨ ∃ g, v'.ownBlock = some g ∧ W.heap.size ≤ g := hloc.imp id (fun h => ⟨_, h, by simp⟩)
             have hno' : ∀ g, v'.ownBlock = some g → ¬ No g := fun g hg hN => by
               rcases hloc' with h1 | ⟨g', h1, h2⟩
               · exact hsu No HG2.out.sh g (h1 ▸ hg) hN
               · rw [h1] at hg; cases hg; have := HNo.out g hN; have := HWs.out; omega)
          | (at_mapUpdate; refine wpList_mapUpdate_back_shuns _ rfl _ _ _ 217 rfl law_u32 Tryz.underlying217 hkey HG2.out.own (by unfold maxLen; omega) hoi HG2.out.sh hno' hback rfl rfl rfl hall hoi' (by simp; omega) hloc' ?_; intro w6 hown6 hgrow6 hsh6)
          | go_in)
        have hWs := HWs.out
        have hzs := HG2.out.gd.at_ x hat hoi
        rw [Hx.out] at hzs hown6
        have hgd := HG2.out.gd.put hzs hoi'
        have hsu' := hsu No HG2.out.sh
        have hbW2 : Below b w W := by rw [← HW.out]; exact below_drewN hbel q
        have hbel6 : Below b w w6 := hbW2.groups hoi hall hgrow6 (by omega) (by omega) (Nat.le_refl _)
        have hs6 := hgrow6.size
        have hsa := hall.size
        have hG6 : Hid (Grp w6 b No l (min (p + 1) (n - 3)) (D.put (.int .u32 (f4 l p : Nat)) (rowDatum .i64 v' (zs ++ [(p : Int)])))) := by
          rw [show min (p + 1) (n - 3) = p + 1 by omega]
          exact ⟨hown6, hgd, hsh6, by omega⟩
        have HK6 : Hid (∀ g, No g → g ≠ b → g < w.heap.size → w6.heap[g]? = w.heap[g]?) := fun g h1 h2 h3 => by
          have e1 := hgrow6.block g (by omega) (fun e => h2 (Option.some.inj e))
          have e2 := hall.block g (by omega) (fun e => hsu' g e.symm h1)
          have e3 : W.heap[g]? = wr.heap[g]? := by rw [← HW.out]; rfl
          exact e1.trans (e2.trans (e3.trans (HK.out g h1 h2 h3)))
        clear hback hsu hno' hsh6 hown6 hgd hall hgrow hown'
        go_roundw
        case rel => exact ⟨p + 1, _, by go_num, by omega, .inr (by omega), hG6, hbel6, by omega, HK6⟩
        case measure => simp [intOf]; omega
      · go_wp2
        go_end0
        refine ⟨rfl, ⟨D, ?_⟩, hbel, hsz, HK.out⟩
        rw [show min to (n - 3) = min p (n - 3) by omega]
        exact HG.out

end Go.Proofs.YtknmhdkomjjneaaGreatDoor.Cht

/-
  The longest likeness: the document's best, and the search over the places noted.
-/

namespace Go.Proofs.YtknmhdkomjjneaaGreatDoor.Cht
open Go.RowKit Go.Maps Go.ChangeShapes

theorem bestF_next (b : List UInt8) (i k d : Nat) (r : Nat × Nat) : Pm.bestF b i (k + 1) d r = Pm.bestF b i k (d + 1) (if 4 ≤ Pm.like b i d ∧ r.1 < Pm.like b i d then (Pm.like b i d, d) else r) := rfl
theorem bestF_skip (b : List UInt8) (i : Nat) (r : Nat × Nat) : ∀ m k d, m ≤ k → (∀ e, d ≤ e → e < d + m → Pm.like b i e < 4) → Pm.bestF b i k d r = Pm.bestF b i (k - m) (d + m) r
  | 0, _, _, _, _ => rfl
  | m + 1, 0, _, h, _ => by omega
  | m + 1, k + 1, d, h, hl => by
    have h0 := hl d (Nat.le_refl _) (by omega)
    rw [bestF_next, if_neg (by omega), bestF_skip b i r m k (d + 1) (by omega) (fun e h1 h2 => hl e (by omega) (by omega))]
    rw [show k + 1 - (m + 1) = k - m by omega, show d + 1 + m = d + (m + 1) by omega]

theorem posn_sorted (l : List UInt8) (m x : Nat) : (posn l m x).Pairwise (· < ·) := (List.pairwise_lt_range (n := m)).filter _
theorem posn_lt {l : List UInt8} {m x j k p q : Nat} (hj : (posn l m x)[j]? = some p) (hk : (posn l m x)[k]? = some q) (h : j < k) : p < q := by
  obtain ⟨h1, rfl⟩ := List.getElem?_eq_some_iff.1 hj
  obtain ⟨h2, rfl⟩ := List.getElem?_eq_some_iff.1 hk
  exact List.pairwise_iff_getElem.1 (posn_sorted l m x) j k h1 h2 h
theorem posn_mem {l : List UInt8} {m x p : Nat} : p ∈ posn l m x ↔ p < m ∧ f4 l p = x := by simp [posn]
theorem like_four (l : List UInt8) (i e : Nat) (hi : i + 4 ≤ l.length) (he : 1 ≤ e) (hei : e ≤ i) : 4 ≤ Pm.like l i e ↔ f4 l (i - e) = f4 l i := by
  rw [f4_same l (i - e) i (by omega) hi]
  constructor
  · intro h k hk
    have := Pm.like_eq l i e k (by omega)
    rw [this]
    congr 1
    omega
  · intro h
    exact Pm.likeF_ge l e 4 200 i (by omega) hi fun k hk => by rw [show i + k - e = i - e + k by omega]; exact (h k hk).symm

structure Look (l : List UInt8) (i K d : Nat) (r : Nat × Nat) : Prop where
  b : Pm.best l i = Pm.bestF l i (min i 4096 + 1 - d) d r
  d1 : 1 ≤ d
  rem : ∀ e, d ≤ e → e ≤ i → 4 ≤ Pm.like l i e → ∃ j, j < K ∧ (posn l i (f4 l i))[j]? = some (i - e)
  lo : ∀ j, j < K → ∀ p, (posn l i (f4 l i))[j]? = some p → p + d ≤ i
  r1 : r.1 ≤ 200
  r2 : r.2 ≤ 4096
theorem Look.start (l : List UInt8) (i : Nat) (hi : i + 4 ≤ l.length) : Look l i (posn l i (f4 l i)).length 1 (0, 0) := by
  refine ⟨by unfold Pm.best; rfl, Nat.le_refl _, fun e h1 h2 h3 => ?_, fun j _ p hp => ?_, by simp, by simp⟩
  · have hm : i - e ∈ posn l i (f4 l i) := posn_mem.2 ⟨by omega, (like_four l i e hi h1 h2).1 h3⟩
    obtain ⟨j, hj⟩ := List.mem_iff_getElem?.1 hm
    exact ⟨j, (List.getElem?_eq_some_iff.1 hj).1, hj⟩
  · have := (posn_mem.1 (List.mem_of_getElem? hp)).1
    omega
theorem Look.none {l : List UInt8} {i d : Nat} {r : Nat × Nat} (h : Look l i 0 d r) : Pm.best l i = r := by
  rw [h.b]
  refine Pm.bestF_stay l i _ d r fun e h1 h2 => ?_
  rcases Nat.lt_or_ge (Pm.like l i e) 4 with h3 | h3
  · exact .inr h3
  · obtain ⟨j, hj, _⟩ := h.rem e h1 (by omega) h3; omega
theorem Look.far {l : List UInt8} {i K d p : Nat} {r : Nat × Nat} (h : Look l i (K + 1) d r) (hp : (posn l i (f4 l i))[K]? = some p) (hf : 4096 < i - p) : Pm.best l i = r := by
  rw [h.b]
  refine Pm.bestF_stay l i _ d r fun e h1 h2 => ?_
  rcases Nat.lt_or_ge (Pm.like l i e) 4 with h3 | h3
  · exact .inr h3
  · obtain ⟨j, hj, hq⟩ := h.rem e h1 (by omega) h3
    rcases Nat.lt_or_ge j K with h4 | h4
    · have := posn_lt hq hp h4; omega
    · obtain rfl : j = K := by omega
      rw [hp] at hq
      injection hq with hq
      omega
theorem Look.step {l : List UInt8} {i K d p : Nat} {r : Nat × Nat} (h : Look l i (K + 1) d r) (hi : i + 4 ≤ l.length) (hp : (posn l i (f4 l i))[K]? = some p) (hf : i - p ≤ 4096) :
    Look l i K (i - p + 1) (if r.1 < Pm.like l i (i - p) then (Pm.like l i (i - p), i - p) else r) := by
  have hlo := h.lo K (by omega) p hp
  have hd1 := h.d1
  have hm := posn_mem.1 (List.mem_of_getElem? hp)
  have h4 : 4 ≤ Pm.like l i (i - p) := (like_four l i (i - p) hi (by omega) (by omega)).2 (by rw [show i - (i - p) = p by omega]; exact hm.2)
  have hle := Pm.like_le l i (i - p)
  have hr1 := h.r1; have hr2 := h.r2
  refine ⟨?_, by omega, fun e h1 h2 h3 => ?_, fun j hj q hq => ?_, ?_, ?_⟩
  · rw [h.b, bestF_skip l i r (i - p - d) _ d (by omega) (fun e h1 h2 => ?_)]
    · rw [show min i 4096 + 1 - d - (i - p - d) = (min i 4096 + 1 - (i - p + 1)) + 1 by omega, show d + (i - p - d) = i - p by omega, bestF_next]
      by_cases hlt : r.1 < Pm.like l i (i - p)
      · rw [if_pos ⟨h4, hlt⟩, if_pos hlt]
      · rw [if_neg (fun q => hlt q.2), if_neg hlt]
    · rcases Nat.lt_or_ge (Pm.like l i e) 4 with h3 | h3
      · exact h3
      · obtain ⟨j, hj, hq⟩ := h.rem e h1 (by omega) h3
        rcases Nat.lt_or_ge j K with h5 | h5
        · have := posn_lt hq hp h5; omega
        · obtain rfl : j = K := by omega
          rw [hp] at hq
          injection hq with hq
          omega
  · obtain ⟨j, hj, hq⟩ := h.rem e (by omega) h2 h3
    refine ⟨j, ?_, hq⟩
    rcases Nat.lt_or_ge j K with h5 | h5
    · exact h5
    · obtain rfl : j = K := by omega
      rw [hp] at hq
      injection hq with hq
      omega
  · have := posn_lt hq hp hj; omega
  · split
    · exact hle
    · exact hr1
  · split
    · exact hf
    · exact hr2
theorem Look.full {l : List UInt8} {i K d : Nat} {r : Nat × Nat} (h : Look l i K d r) (hi : i ≤ l.length) (hr : min 200 (l.length - i) ≤ r.1) : Pm.best l i = r := by
  rw [h.b]
  refine Pm.bestF_stay l i _ d r fun e h1 h2 => .inl ?_
  have := Pm.like_le l i e
  have := Pm.like_len l i e hi
  omega
theorem best_few (l : List UInt8) (i : Nat) (h : l.length < i + 4) (hi : i ≤ l.length) : Pm.best l i = (0, 0) := by
  refine Pm.best_none l i fun e _ _ _ => ?_
  have := Pm.like_len l i e hi
  omega

def BestRel (l : List UInt8) (i : Nat) (w : World) (tn ta td : Value) (wr : World) : Prop :=
  ∃ (d q : Nat) (r : Nat × Nat), tn = .int .i64 (r.1 : Int) ∧ ta = .int .i64 (r.2 : Int) ∧ td = .int .i64 (d : Int) ∧ wr = w.drewN q ∧ 1 ≤ d ∧ d ≤ 4097 ∧ d ≤ i + 1 ∧ r.1 ≤ 200 ∧ r.2 ≤ 4096 ∧ Hid (Pm.best l i = Pm.bestF l i (min i 4096 + 1 - d) d r)

set_option maxRecDepth 100000 in
theorem rbest_c (A : Option Addr) (n c B : Nat) (l : List UInt8) (i : Nat) (w : World) (hr : Rb w B A n c l) (hn : n ≤ 900000) (hi : i ≤ n) :
    Calls Tryz.prog 108 #[.slice A n c, .int .i64 (i : Int)] w fun e w' => e = .returned (.tuple #[.int .i64 ((Pm.best l i).1 : Nat), .int .i64 ((Pm.best l i).2 : Nat)]) ∧ ∃ q, w' = w.drewN q := by
  obtain ⟨R, hR⟩ : ∃ R, R = Pm.best l i := ⟨_, rfl⟩
  rw [← hR]
  have Hr := Lib.hid hr; have HR := Lib.hid hR; clear hr hR
  go_enter Tryz.func108, Tryz.ntmps108
  go_wp2
  go_loopw [6, 7, 8] (fun tn ta td wr => BestRel l i w tn ta td wr) (fun _ _ td _ => 5000 - (intOf td).toNat)
  case atStart => exact ⟨1, 0, (0, 0), rfl, rfl, rfl, rfl, by omega, by omega, by omega, by simp, by simp, Lib.hid rfl⟩
  case round =>
    obtain ⟨d, q, r, rfl, rfl, rfl, rfl, hd1, hd2, hd3, hr1, hr2, HB⟩ := hrel
    by_cases h1 : d ≤ i
    · by_cases h2 : d ≤ 4096
      · go_wp2_with fail
        refine (rlike_c A n c B l i d _ (Hr.out.drewN q) (by omega) hd1 h1 hi).mono ?_
        rintro e w1 ⟨rfl, q2, rfl⟩
        have hB2 : Pm.best l i = Pm.bestF l i (min i 4096 + 1 - (d + 1)) (d + 1) (if 4 ≤ Pm.like l i d ∧ r.1 < Pm.like l i d then (Pm.like l i d, d) else r) := by
          rw [HB.out, show min i 4096 + 1 - d = min i 4096 + 1 - (d + 1) + 1 by omega, bestF_next]
        have hle := Pm.like_le l i d
        obtain ⟨k, hk⟩ : ∃ k, k = Pm.like l i d := ⟨_, rfl⟩
        rw [← hk] at hB2 hle ⊢
        clear hk HB
        by_cases h3 : 4 ≤ k
        · by_cases h4 : r.1 < k
          · rw [if_pos ⟨h3, h4⟩] at hB2
            have HB2 := Lib.hid hB2; clear hB2
            go_wp2
            go_roundw
            case rel => exact ⟨d + 1, _, (k, d), rfl, rfl, by go_num, rfl, by omega, by omega, by omega, hle, by dsimp only; omega, HB2⟩
            case measure => simp [intOf]; omega
          · rw [if_neg (fun q => h4 q.2)] at hB2
            have HB2 := Lib.hid hB2; clear hB2
            go_wp2
            go_roundw
            case rel => exact ⟨d + 1, _, r, rfl, rfl, by go_num, rfl, by omega, by omega, by omega, hr1, hr2, HB2⟩
            case measure => simp [intOf]; omega
        · rw [if_neg (fun q => h3 q.1)] at hB2
          have HB2 := Lib.hid hB2; clear hB2
          go_wp2
          go_roundw
          case rel => exact ⟨d + 1, _, r, rfl, rfl, by go_num, rfl, by omega, by omega, by omega, hr1, hr2, HB2⟩
          case measure => simp [intOf]; omega
      · go_wp2
        go_ret2
        have hb := HB.out
        rw [show min i 4096 + 1 - d = 0 by omega] at hb
        have h5 : R = r := HR.out.trans hb
        subst h5
        exact ⟨rfl, _, rfl⟩
    · go_wp2
      go_ret2
      have hb := HB.out
      rw [show min i 4096 + 1 - d = 0 by omega] at hb
      have h5 : R = r := HR.out.trans hb
      subst h5
      exact ⟨rfl, _, rfl⟩
end Go.Proofs.YtknmhdkomjjneaaGreatDoor.Cht

/-
  places.match: the search over the places noted comes to the longest likeness.
-/

namespace Go.Proofs.YtknmhdkomjjneaaGreatDoor.Cht
open Go.RowKit Go.Maps Go.ChangeShapes

theorem posI_get (l : List UInt8) (m x k p : Nat) (h : (posn l m x)[k]? = some p) : (posI l m x)[k]? = some (p : Int) := by unfold posI; rw [List.getElem?_map, h]; rfl

def MatchRel (l : List UInt8) (i : Nat) (w : World) (tn td tk : Value) (wr : World) : Prop :=
  ∃ (K d q : Nat) (r : Nat × Nat) (z : Int), tn = .int .i64 (r.1 : Int) ∧ td = .int .i64 (r.2 : Int) ∧ tk = .int .i64 z ∧ z = (K : Int) - 1 ∧ wr = w.drewN q ∧ r.1 ≤ 200 ∧ r.2 ≤ 4096 ∧ K ≤ (posn l i (f4 l i)).length ∧ Hid (Look l i K d r)

theorem best_ret {l : List UInt8} {i : Nat} {R r : Nat × Nat} (h1 : R = Pm.best l i) (h2 : Pm.best l i = r) : Ending.returned (.tuple #[.int .i64 (r.1 : Int), .int .i64 (r.2 : Int)]) = .returned (.tuple #[.int .i64 (R.1 : Int), .int .i64 (R.2 : Int)]) := by rw [h1, h2]

theorem mret {l : List UInt8} {i : Nat} {R r : Nat × Nat} {a b : Int} (h1 : R = Pm.best l i) (h2 : Pm.best l i = r) (ha : a = (r.1 : Int)) (hb : b = (r.2 : Int)) : Ending.returned (.tuple #[.int .i64 a, .int .i64 b]) = .returned (.tuple #[.int .i64 (R.1 : Int), .int .i64 (R.2 : Int)]) := by rw [h1, h2, ha, hb]
theorem mlenI (A : Option Addr) (n c B : Nat) (l : List UInt8) (i d : Nat) (z : Int) (w : World) (hz : z = (d : Int)) (hr : Rb w B A n c l) (hn : n ≤ 1000000) (hd : 1 ≤ d) (hdi : d ≤ i) (hi : i ≤ n) :
    Calls Tryz.prog 227 #[.slice A n c, .int .i64 (i : Int), .int .i64 z] w fun e w' => e = .returned (.int .i64 (Pm.like l i d : Nat)) ∧ ∃ q, w' = w.drewN q := by
  subst hz
  exact mlen_c A n c B l i d w hr hn hd hdi hi

theorem posn_len (l : List UInt8) (m x : Nat) : (posn l m x).length ≤ m := by
  unfold posn
  have := List.length_filter_le (fun p => f4 l p == x) (List.range m)
  simpa using this

set_option maxRecDepth 100000 in
set_option maxHeartbeats 1000000 in
theorem match_c (A : Option Addr) (n c b : Nat) (l : List UInt8) (i : Nat) (No : Nat → Prop) (D0 : DataW Unit) (w : World) (hr : Rb w b A n c l) (hn : n ≤ 900000) (hi : i ≤ n) (hg : Grp w b No l (min i (n - 3)) D0) :
    Calls Tryz.prog 202 #[.map (some b), .slice A n c, .int .i64 (i : Int)] w fun e w' => e = .returned (.tuple #[.int .i64 ((Pm.best l i).1 : Nat), .int .i64 ((Pm.best l i).2 : Nat)]) ∧ ∃ q, w' = w.drewN q := by
  obtain ⟨R, hR⟩ : ∃ R, R = Pm.best l i := ⟨_, rfl⟩
  rw [← hR]
  have hl := hr.len
  have Hr := Lib.hid hr; have HR := Lib.hid hR; have Hg := Lib.hid hg; clear hr hR hg
  by_cases h4 : n < i + 4
  · have h4' : (n : Int) - (i : Int) < 4 := by omega
    have hb := best_few l i (by omega) (by omega)
    have h5 : R = (0, 0) := HR.out.trans hb
    clear hb hl h4 HR
    subst h5
    go_enter Tryz.func202, Tryz.ntmps202
    go_wp2
    go_ret2
    exact ⟨rfl, 0, rfl⟩
  · have h4' : (4 : Int) ≤ (n : Int) - (i : Int) := by omega
    have hi4 : i + 4 ≤ n := by omega
    have HG : Hid (Grp w b No l i D0) := by rw [show i = min i (n - 3) by omega]; exact Hg
    have Hst := Lib.hid (Look.start l i (by omega))
    have Hll := Lib.hid hl
    clear Hg h4 hl
    go_enter Tryz.func202, Tryz.ntmps202
    go_wp2_with fail
    refine (four_c A n c b l i _ Hr.out (by omega) hi4).mono ?_
    rintro e w1 ⟨rfl, q, rfl⟩
    obtain ⟨x, hx⟩ : ∃ x, x = f4 l i := ⟨_, rfl⟩
    have hxl : x < 4294967296 := by rw [hx]; exact f4_lt l i
    rw [← hx]
    have Hx := Lib.hid hx; clear hx
    have hkey := keyOf_int_mk (P := Tryz.prog) Tryz.underlying123 (q := .u32) (a := (x : Int)) (wf32 x hxl)
    have HG1 := Lib.hid (HG.out.drewN q)
    go_wp2_with (at_lookup; go_must (refine wpList_lookup_groups _ rfl _ _ 217 rfl 123 25 3 .i64 law_u32 Tryz.underlying217 (zero_ints _) (b + 1) b i D0 rfl HG1.out.own (by unfold maxLen; omega) _ _ rfl hkey ?_))
    intro v zs hat hoi hzl hback
    clear hback
    have hzs := HG1.out.gd.at_ x hat hoi
    rw [Hx.out] at hzs
    clear hat
    have hlen : zs.length = (posn l i (f4 l i)).length := by rw [hzs]; simp [posI]
    have hpl := posn_len l i (f4 l i)
    have hsh : ∃ Av cv, v = .slice Av zs.length cv ∧ (0 < zs.length → ∃ g, Av = some ⟨g, 0, none⟩ ∧ zs.length ≤ cv ∧ ∀ k p : Nat, (posn l i (f4 l i))[k]? = some p → w.cell? ⟨g, k, none⟩ = some (.int .i64 (p : Int))) := by
      have hrow := hoi.1
      rcases hoi.1.2 with ⟨rfl, h0⟩ | ⟨g, cap, cur, rfl, hgb, hh, hcap, hcm, _, _⟩
      · exact ⟨none, 0, by rw [h0], fun h => by omega⟩
      · refine ⟨_, _, rfl, fun _ => ⟨g, rfl, hcap, fun k p hp => ?_⟩⟩
        have hk : k < zs.length := by rw [hlen]; exact (List.getElem?_eq_some_iff.1 hp).1
        have h1 := hrow.cellAt k (by omega)
        have h2 := posI_get l i _ k p hp
        rw [← hzs] at h2
        have h3 : (w.drewN q).cell? ⟨g, k, none⟩ = some (.int .i64 (p : Int)) := by
          rw [h1]
          simp [h2]
        exact h3
    obtain ⟨Av, cv, rfl, hcv⟩ := hsh
    have Hcv := Lib.hid hcv; have Hlen := Lib.hid hlen; clear hcv hoi HG1 HG hzs hzl
    obtain ⟨N, hN⟩ : ∃ N, N = zs.length := ⟨_, rfl⟩
    rw [← hN] at Hcv Hlen ⊢
    clear hN
    have hNi : N ≤ i := by have := Hlen.out; omega
    clear hpl
    go_wp2
    go_loopw [9, 10, 11] (fun tn td tk wr => MatchRel l i w tn td tk wr) (fun _ _ tk _ => ((intOf tk) + 1).toNat)
    case atStart => exact ⟨N, 1, q, (0, 0), _, rfl, rfl, rfl, by omega, rfl, by simp, by simp, by have := Hlen.out; omega, by rw [Hlen.out]; exact Hst⟩
    case round =>
      obtain ⟨K, d, q2, r, z, rfl, rfl, rfl, hz, rfl, hr1, hr2, hKl, HL⟩ := hrel
      cases K with
      | zero =>
        obtain rfl : z = -1 := by omega
        clear hz
        go_wp2
        go_ret2
        exact ⟨best_ret HR.out HL.out.none, _, rfl⟩
      | succ K =>
        obtain rfl : z = (K : Int) := by omega
        clear hz
        obtain ⟨p, hp⟩ : ∃ p, (posn l i (f4 l i))[K]? = some p := ⟨_, List.getElem?_eq_getElem (by omega)⟩
        have hpi := (posn_mem.1 (List.mem_of_getElem? hp)).1
        have hKN : (K : Int) < (N : Int) := by have := Hlen.out; omega
        obtain ⟨g, rfl, hcap, hcell⟩ := Hcv.out (by omega)
        have hc := hcell K p hp
        have Hp := Lib.hid hp; clear hp hcell
        by_cases hf : i - p ≤ 4096
        · have hf' : (i : Int) - (p : Int) ≤ 4096 := by omega
          go_wp2_with fail
          refine (mlenI A n c b l i (i - p) _ _ (by omega) (Hr.out.drewN q2) (by omega) (by omega) (by omega) hi).mono ?_
          rintro e w2 ⟨rfl, q3, rfl⟩
          have hst2 := HL.out.step (by rw [Hll.out]; exact hi4) Hp.out hf
          have hle := Pm.like_le l i (i - p)
          have hln := Pm.like_len l i (i - p) (by rw [Hll.out]; exact hi)
          rw [Hll.out] at hln
          obtain ⟨k, hk⟩ : ∃ k, k = Pm.like l i (i - p) := ⟨_, rfl⟩
          rw [← hk] at hst2 hle hln ⊢
          clear hk HL
          by_cases h5 : r.1 < k
          · rw [if_pos h5] at hst2
            have Hst2 := Lib.hid hst2; clear hst2
            have h5' : (r.1 : Int) < (k : Int) := by omega
            by_cases h6 : 200 ≤ n - i
            · have h6' : (200 : Int) ≤ (n : Int) - (i : Int) := by omega
              by_cases h7 : k = 200
              · have h7' : ((k : Int) == 200) = true := by simp; omega
                have H7 := Lib.hid h7; clear h7
                go_wp2_with fail
                go_quiet (fail)
                go_wp2
                go_ret2
                exact ⟨mret HR.out (Hst2.out.full (by rw [Hll.out]; exact hi) (by rw [Hll.out]; dsimp only; have := H7.out; omega)) rfl (by dsimp only; have := H7.out; omega), _, rfl⟩
              · have h7' : ((k : Int) == 200) = false := by simp; omega
                go_wp2_with fail
                go_quiet (fail)
                go_wp2
                go_roundw
                case rel => exact ⟨K, i - p + 1, _, (k, i - p), _, rfl, by dsimp only; congr 1; omega, rfl, by omega, rfl, by dsimp only; omega, by dsimp only; omega, by omega, Hst2⟩
                case measure => simp [intOf]
            · have h6' : (n : Int) - (i : Int) < 200 := by omega
              by_cases h7 : k = n - i
              · have h7' : ((k : Int) == (n : Int) - (i : Int)) = true := by simp; omega
                have H7 := Lib.hid h7; clear h7
                go_wp2_with fail
                go_quiet (fail)
                go_wp2
                go_ret2
                exact ⟨mret HR.out (Hst2.out.full (by rw [Hll.out]; exact hi) (by rw [Hll.out]; dsimp only; have := H7.out; omega)) rfl (by dsimp only; have := H7.out; omega), _, rfl⟩
              · have h7' : ((k : Int) == (n : Int) - (i : Int)) = false := by simp; omega
                go_wp2_with fail
                go_quiet (fail)
                go_wp2
                go_roundw
                case rel => exact ⟨K, i - p + 1, _, (k, i - p), _, rfl, by dsimp only; congr 1; omega, rfl, by omega, rfl, by dsimp only; omega, by dsimp only; omega, by omega, Hst2⟩
                case measure => simp [intOf]
          · rw [if_neg h5] at hst2
            have Hst2 := Lib.hid hst2; clear hst2
            have h5' : (k : Int) ≤ (r.1 : Int) := by omega
            by_cases h6 : 200 ≤ n - i
            · have h6' : (200 : Int) ≤ (n : Int) - (i : Int) := by omega
              by_cases h7 : k = 200
              · have h7' : ((k : Int) == 200) = true := by simp; omega
                have H7 := Lib.hid h7; clear h7
                go_wp2
                go_ret2
                exact ⟨mret HR.out (Hst2.out.full (by rw [Hll.out]; exact hi) (by rw [Hll.out]; have := H7.out; omega)) rfl rfl, _, rfl⟩
              · have h7' : ((k : Int) == 200) = false := by simp; omega
                go_wp2
                go_roundw
                case rel => exact ⟨K, i - p + 1, _, r, _, rfl, rfl, rfl, by omega, rfl, hr1, hr2, by omega, Hst2⟩
                case measure => simp [intOf]
            · have h6' : (n : Int) - (i : Int) < 200 := by omega
              by_cases h7 : k = n - i
              · have h7' : ((k : Int) == (n : Int) - (i : Int)) = true := by simp; omega
                have H7 := Lib.hid h7; clear h7
                go_wp2
                go_ret2
                exact ⟨mret HR.out (Hst2.out.full (by rw [Hll.out]; exact hi) (by rw [Hll.out]; have := H7.out; omega)) rfl rfl, _, rfl⟩
              · have h7' : ((k : Int) == (n : Int) - (i : Int)) = false := by simp; omega
                go_wp2
                go_roundw
                case rel => exact ⟨K, i - p + 1, _, r, _, rfl, rfl, rfl, by omega, rfl, hr1, hr2, by omega, Hst2⟩
                case measure => simp [intOf]
        · have hf' : (4096 : Int) < (i : Int) - (p : Int) := by omega
          go_wp2
          go_ret2
          exact ⟨best_ret HR.out (HL.out.far Hp.out (by omega)), _, rfl⟩
end Go.Proofs.YtknmhdkomjjneaaGreatDoor.Cht

/-
  press.Press comes to the document's tokens.
-/

namespace Go.Proofs.YtknmhdkomjjneaaGreatDoor.Cht
open Go.RowKit Go.Maps Go.ChangeShapes

theorem _root_.Go.Proofs.YtknmhdkomjjneaaGreatDoor.Own.same {w w' : World} {e : TypeId} {base c : Nat} {A : Option Addr} {l : List UInt8} (h : Own w e base A c l) (hs : ∀ g, ob A = some g → w'.heap[g]? = w.heap[g]?) : Own w' e base A c l := by
  unfold Own at h ⊢
  refine ⟨h.1, ?_⟩
  rcases h.2 with hn | ⟨g, cap, cur, hv, hbg, hg, rest⟩
  · exact .inl hn
  · refine .inr ⟨g, cap, cur, hv, hbg, (hs g ?_).trans hg, rest⟩
    injection hv with hA
    rw [hA]
    rfl

def RetP (base : Nat) (w : World) (L : List UInt8) (e : Ending) (w' : World) : Prop :=
  ∃ A c, e = .returned (.tuple #[.slice A L.length c, .int .i64 0]) ∧ Own w' 5 base A c L ∧ Below base w w'

def PressRel (base B : Nat) (w : World) (L l : List UInt8) (n : Nat) (o f t : Value) (wr : World) : Prop :=
  ∃ A c l1 from_ i D, o = .slice A l1.length c ∧ f = .int .i64 (from_ : Nat) ∧ t = .int .i64 (i : Nat) ∧ from_ ≤ i ∧ i ≤ n ∧ Hid (Own wr 5 base A c l1) ∧ Hid (Grp wr B (fun g => ob A = some g) l (min i (n - 3)) D) ∧ Hid (ob A ≠ some B) ∧ Hid (l1 ++ Pm.pressGo l from_ i = L) ∧ Below base w wr ∧ base ≤ wr.heap.size

set_option maxRecDepth 100000 in
set_option maxHeartbeats 1000000 in
theorem press_c (A0 : Option Addr) (n c0 : Nat) (l : List UInt8) (w : World) (hr : Rb w w.heap.size A0 n c0 l) (hn : n ≤ 20000) :
    Calls Tryz.prog 167 #[.slice A0 n c0] w (RetP w.heap.size w (Pm.pressS l)) := by
  have hl := hr.len
  obtain ⟨L, hL⟩ : ∃ L, L = Pm.pressS l := ⟨_, rfl⟩
  have hLs : L.length ≤ 30000 := by
    have := Pm.press_len l (by omega)
    rw [hL]; omega
  rw [← hL]
  obtain ⟨V, hV⟩ : ∃ V, V = Vm.vb n := ⟨_, rfl⟩
  have hput := put_c none 0 0 [] n w (Rb.nil _ _) (by omega) (by omega)
  rw [List.nil_append, ← hV] at hput
  have hVL : V ++ Pm.pressGo l 0 0 = L := by rw [hV, hL]; unfold Pm.pressS; rw [hl]
  have hmm := @run_makeMap Tryz.prog
  have Hr := Lib.hid hr; have Hl := Lib.hid hl; have Hput := Lib.hid hput; have HVL := Lib.hid hVL; clear hr hl hL hV hput hVL
  go_enter Tryz.func167, Tryz.ntmps167
  go_wp2_with fail
  refine Hput.out.mono ?_
  rintro e w1 ⟨A1, c1, rfl, hown1, hb1⟩
  have hs1 := hb1.size
  have hob1 := own_ob hown1
  have hne1 : Hid (ob A1 ≠ some w1.heap.size) := Lib.hid (fun e => by have := (hob1 _ e).2; omega)
  have HG1 := Lib.hid (Grp.start w1 l (fun g => ob A1 = some g))
  have Hown1 := Lib.hid hown1; clear hown1 hob1
  have hbB : Below w.heap.size w (w1.alloc (.map #[] 0)) := hb1.trans ((Below.refl _ _).alloc hs1 _)
  obtain ⟨base, hbase⟩ : ∃ base, base = w.heap.size := ⟨_, rfl⟩
  obtain ⟨B, hB⟩ : ∃ B, B = w1.heap.size := ⟨_, rfl⟩
  go_wp2
  go_loopw [4, 6, 7] (fun o f t wr => PressRel w.heap.size w1.heap.size w L l n o f t wr) (fun _ _ t _ => n - (intOf t).toNat)
  case atStart => exact ⟨A1, c1, V, 0, 0, _, rfl, rfl, rfl, by omega, by omega, Lib.hid (Hown1.out.alloc _), by rw [Nat.zero_min]; exact HG1, hne1, HVL, hbB, hbB.size⟩
  case round =>
    obtain ⟨A, c, l1, f, i, D, rfl, rfl, rfl, hfi, hin, HO, HG, Hne, HL, hbel, hsz⟩ := hrel
    have hll : l1.length ≤ 30000 := by have := congrArg List.length HL.out; rw [List.length_append] at this; omega
    have hBs := HG.out.lt
    by_cases hlt : i < n
    · have hlt' : (i : Int) < (n : Int) := by omega
      go_wp2_with fail
      refine (match_c A0 n c0 w1.heap.size l i _ D _ ((Hr.out.below hbel).more hs1) (by omega) hin HG.out).mono ?_
      rintro e w2 ⟨rfl, q, rfl⟩
      have hcases := Pm.best_cases l i (by rw [Hl.out]; exact hin)
      by_cases h0 : (Pm.best l i).1 = 0
      · have hgo := Pm.pressGo_lit l f i (by rw [Hl.out]; exact hlt) h0
        have HL2 : Hid (l1 ++ Pm.pressGo l f (i + 1) = L) := by rw [← hgo]; exact HL
        obtain ⟨R, hR⟩ : ∃ R, R = Pm.best l i := ⟨_, rfl⟩
        rw [← hR] at h0 ⊢
        obtain ⟨R1, R2⟩ := R
        dsimp only at h0
        subst h0
        clear hR hcases HL hgo
        go_wp2_with fail
        have hnote := note_c A0 n c0 w1.heap.size l i (i + 1) (fun g => ob A = some g) D (wr.drewN q) (((Hr.out.below hbel).more hs1).drewN q) (by omega) (fun g hg => (own_ob HO.out g hg).2) (HG.out.drewN q) (by omega) (by omega)
        refine (show Calls Tryz.prog 203 #[.map (some w1.heap.size), .slice A0 n c0, .int .i64 (i : Int), .int .i64 ((i : Int) + 1)] (wr.drewN q) _ from hnote).mono ?_
        rintro e w3 ⟨rfl, ⟨D2, hG2⟩, hb3, hsz3, hk3⟩
        have HG2 := Lib.hid hG2
        have HO2 : Hid (Own w3 5 w.heap.size A c l1) := Lib.hid (Own.same (HO.out.drewN q) fun g hg => hk3 g hg (fun e => Hne.out (e ▸ hg)) (own_ob HO.out g hg).2)
        have hbel3 : Below w.heap.size w w3 := (below_drewN hbel q).trans (hb3.mono hs1)
        clear hnote hG2 hk3 hb3
        go_wp2
        go_roundw
        case rel => exact ⟨A, c, l1, f, i + 1, D2, rfl, rfl, by go_num, by omega, by omega, HO2, HG2, Hne, HL2, hbel3, by have := hbel3.size; omega⟩
        case measure => simp [intOf]; omega
      · rcases hcases with hc0 | ⟨h4, h200, hlen, hd1, hdi, hd4, _⟩
        · exact absurd hc0 h0
        have hgo := Pm.pressGo_match l f i (by rw [Hl.out]; exact hlt) h0
        rw [Hl.out] at hlen
        obtain ⟨R, hR⟩ : ∃ R, R = Pm.best l i := ⟨_, rfl⟩
        rw [← hR] at h0 h4 h200 hlen hd1 hdi hd4 hgo ⊢
        obtain ⟨m, d⟩ := R
        dsimp only at h0 h4 h200 hlen hd1 hdi hd4 hgo ⊢
        clear hR h0
        have h4' : (4 : Int) ≤ (m : Int) := by omega
        have hfi' : (f : Int) ≤ (i : Int) := by omega
        obtain ⟨E, hE, hrE⟩ := bty.mid_ (Hr.out.below hbel) (i := f) (k := i) hfi (by omega) (f : Int) (i : Int) rfl rfl (i - f) rfl
        have HrE := Lib.hid (hrE.drewN q); clear hrE
        obtain ⟨L2, hL2⟩ : ∃ L2, L2 = l1 ++ Pm.asB ((l.take i).drop f) := ⟨_, rfl⟩
        obtain ⟨L3, hL3⟩ : ∃ L3, L3 = L2 ++ (Vm.vb (2 * (m - 4) + 1) ++ Vm.vb d) := ⟨_, rfl⟩
        have HL3 : Hid (L3 ++ Pm.pressGo l (i + m) (i + m) = L) := by
          show _ = _
          rw [hL3, hL2, ← HL.out, hgo]
          simp
        have hL2s : L2.length ≤ 30000 := by
          have := congrArg List.length HL3.out
          rw [List.length_append, hL3, List.length_append] at this
          omega
        have hsum : l1.length + (Pm.asB ((l.take i).drop f)).length ≤ 900000 := by
          have := congrArg List.length hL2
          rw [List.length_append] at this
          omega
        have hca := addLiterals_c A c w.heap.size l1 E (i - f) (c0 - f) ((l.take i).drop f) (wr.drewN q) (HO.out.drewN q) hsz HrE.out hsum
        rw [← hL2] at hca
        have Hca := Lib.hid hca; have HL2 := Lib.hid hL2; have HL3' := Lib.hid hL3; clear hL2 hL3 hca hgo HL hsum hlt
        go_wp2_with fail
        refine Hca.out.mono ?_
        rintro e w3 ⟨A2, c2, rfl, hown2, hg2⟩
        have hsz2 := hg2.size
        have hbe2 := (HG.out.drewN q).beside Hne.out hg2
        have HG2 := Lib.hid hbe2.1; have Hne2 := Lib.hid hbe2.2; have HO2 := Lib.hid hown2
        have hbel2 : Below w.heap.size w w3 := (below_drewN hbel q).trans (hg2.below (HO.out.drewN q) hsz)
        clear hbe2 hown2 hg2 hsz2
        have hsz2 : w.heap.size ≤ w3.heap.size := hbel2.size
        have hcb := addMatch_c A2 c2 w.heap.size L2 m d w3 HO2.out hsz2 (by omega) (by omega) h200 hd4
        rw [← HL3'.out] at hcb
        have Hcb := Lib.hid hcb; clear hcb
        go_wp2_with fail
        refine Hcb.out.mono ?_
        rintro e w4 ⟨A3, c3, rfl, hown3, hg3⟩
        have hbe3 := HG2.out.beside Hne2.out hg3
        have HG3 := Lib.hid hbe3.1; have Hne3 := Lib.hid hbe3.2; have HO3 := Lib.hid hown3
        have hbel3 : Below w.heap.size w w4 := hbel2.trans (hg3.below HO2.out hsz2)
        have hsz3 : w.heap.size ≤ w4.heap.size := hbel3.size
        clear hbe3 hown3 hg3 HO HG HO2 HG2
        have hnote := note_c A0 n c0 w1.heap.size l i (i + m) (fun g => ob A3 = some g) D w4 ((Hr.out.below hbel3).more hs1) (by omega) (fun g hg => (own_ob HO3.out g hg).2) HG3.out (by omega) (by omega)
        have Hnote := Lib.hid hnote; clear hnote
        go_wp2_with fail
        refine (show Calls Tryz.prog 203 #[.map (some w1.heap.size), .slice A0 n c0, .int .i64 (i : Int), .int .i64 ((i : Int) + (m : Int))] w4 _ from Hnote.out).mono ?_
        rintro e w5 ⟨rfl, ⟨D2, hG5⟩, hb5, hsz5, hk5⟩
        have HG5 := Lib.hid hG5
        have HO5 : Hid (Own w5 5 w.heap.size A3 c3 L3) := Lib.hid (Own.same HO3.out fun g hg => hk5 g hg (fun e => Hne3.out (e ▸ hg)) (own_ob HO3.out g hg).2)
        have hbel5 : Below w.heap.size w w5 := hbel3.trans (hb5.mono hs1)
        clear Hnote hG5 hk5 hb5 HO3 HG3
        go_wp2
        go_roundw
        case rel => exact ⟨A3, c3, L3, i + m, i + m, D2, rfl, by go_num, by go_num, by omega, by omega, HO5, HG5, Hne3, HL3, hbel5, hbel5.size⟩
        case measure => simp [intOf]; omega
    · obtain rfl : i = n := by omega
      have hgo := Pm.pressGo_at l f i Hl.out.symm
      have hL' : l1 ++ Pm.asB (l.drop f) = L := by rw [← hgo]; exact HL.out
      obtain ⟨E, hE, hrE⟩ := bty.from_ (Hr.out.below hbel) (k := f) hfi (f : Int) rfl
      have hsum : l1.length + (Pm.asB (l.drop f)).length ≤ 900000 := by
        have := congrArg List.length hL'
        rw [List.length_append] at this
        omega
      have hca := addLiterals_c A c w.heap.size l1 E (i - f) (c0 - f) (l.drop f) wr HO.out hsz hrE hsum
      rw [hL'] at hca
      have Hca := Lib.hid hca; clear hca hL' hgo hrE hsum hlt
      go_wp2_with fail
      refine Hca.out.mono ?_
      rintro e w3 ⟨A2, c2, rfl, hown2, hg2⟩
      have hbel2 : Below w.heap.size w w3 := hbel.trans (hg2.below HO.out hsz)
      go_wp2
      go_ret2
      exact ⟨A2, c2, rfl, hown2, hbel2⟩
end Go.Proofs.YtknmhdkomjjneaaGreatDoor.Cht

/-
  press.expanded, Expand, Marks.
-/

namespace Go.Proofs.YtknmhdkomjjneaaGreatDoor.Cht
open Go.RowKit

theorem make_u64 (w : World) (S : Nat) (hS : S ≤ 2147483647) :
    (Instr.makeSlice 22 (.int .i64 0) (.int .u64 (S : Int))).run Tryz.prog w = .ok (.slice (some ⟨w.heap.size, 0, none⟩) 0 S) (w.alloc (.cells (zrow S) 5)) := by
  obtain ⟨i, hi, hz0, hz1, hz2⟩ := info_parts bty.inf
  have h := run_make (P := Tryz.prog) w 22 5 i (.int .u8 0) bty.sl hi hz0 .i64 .u64 0 (S : Int) (by omega) (by omega) (by rw [hz2]; omega) (by omega)
  simp only [Int.toNat_natCast, Int.toNat_zero, hz1, Nat.mul_one] at h
  rw [h]
  have e1 : madeCells (Value.int IntKind.u8 0).cells S = zrow S := by
    apply Array.toList_inj.1
    have hcells : (Value.int IntKind.u8 0).cells = #[.int .u8 0] := rfl
    rw [hcells, toList_madeCells_one]
    simp [zrow]
  rw [e1]

def ExpdRel (base S : Nat) (w : World) (RES : List UInt8 × Nat × Nat × Nat) (to tr : Value) (wr : World) : Prop :=
  ∃ A c o r D m dc p k, to = .slice A (o : List UInt8).length c ∧ tr = .slice D m dc ∧ Hid (Own wr 5 base A c o) ∧ Hid (Rb wr base D m dc r) ∧ m ≤ 900000 ∧ o.length ≤ S ∧ Hid (Pm.expGo S o r p k = RES) ∧ Below base w wr ∧ base ≤ wr.heap.size

set_option maxRecDepth 100000 in
set_option maxHeartbeats 2000000 in
theorem expanded_c (S m dc p k P K' : Nat) (D : Option Addr) (r OUT : List UInt8) (w : World) (hr : Rb w w.heap.size D m dc r) (hm : m ≤ 900000) (hS : S ≤ 2147483647) (hres : Pm.expGo S [] r 0 0 = (OUT, P, K', 0)) :
    Calls Tryz.prog 197 #[surV S (.slice D m dc) p k] w (RetB w.heap.size w OUT) := by
  have hmk := make_u64 (w.alloc (.cells #[.int .u64 (S : Int), .slice D m dc, .int .i64 (p : Int), .int .i64 (k : Int)] 208)) S hS
  have Hr := Lib.hid hr; have Hres := Lib.hid hres; clear hr hres
  unfold surV
  go_enter Tryz.func197, Tryz.ntmps197
  go_wp2
  go_loopw [3, 4] (fun to tr wr => ExpdRel w.heap.size S w (OUT, P, K', 0) to tr wr) (fun _ tr _ => slen tr)
  case atStart =>
    refine ⟨some ⟨w.heap.size + 1, 0, none⟩, S, [], r, D, m, dc, 0, 0, by simp, rfl, Lib.hid ?_, Lib.hid ((Hr.out.alloc (Nat.le_refl _) _).alloc (by simp) _), hm, by simp, Hres, ((Below.refl _ _).alloc (Nat.le_refl _) _).alloc (by simp) _, by simp; omega⟩
    have h := own_zrow ((w.alloc (.cells #[.int .u64 (S : Int), .slice D m dc, .int .i64 (p : Int), .int .i64 (k : Int)] 208)).alloc (.cells (zrow S) 5)) 5 (w.heap.size + 1) 0 S ?_ (Nat.zero_le _) (by simp only [maxLen]; omega)
    · exact h.mono (by omega)
    · have := (heap_alloc_new (w.alloc (.cells #[.int .u64 (S : Int), .slice D m dc, .int .i64 (p : Int), .int .i64 (k : Int)] 208)) (.cells (zrow S) 5))
      simpa using this
  case round =>
    clear hmk
    obtain ⟨A, c, o, r, D, m, dc, p, k, rfl, rfl, HO, HrD, hm, hoS, HG, hbel, hsz⟩ := hrel
    have hrl := HrD.out.len
    have Hrl := Lib.hid hrl; clear hrl
    by_cases hmz : m = 0
    · subst hmz
      obtain rfl : r = [] := List.eq_nil_of_length_eq_zero Hrl.out
      have hG := HG.out
      by_cases hfew : o.length < S
      · rw [eg_nil_few hfew] at hG; simp at hG
      · rw [eg_nil hfew] at hG
        obtain ⟨rfl, _⟩ : o = OUT ∧ _ := Prod.mk.inj hG
        clear hG
        go_wp2
        go_ret
        exact ⟨A, c, rfl, HO.out, hbel⟩
    · have hmp : 0 < m := by omega
      have hne : r ≠ [] := by intro e; rw [e] at Hrl; have := Hrl.out; simp at this; omega
      rcases tk_cases r with ⟨a, s1, htk1, ha, hs1', _⟩ | ⟨x, htk1, hx⟩
      · have hs1p : 1 ≤ s1 := by have := Pm.tk_pos r (by rw [htk1]); rw [htk1] at this; exact this
        have hs1m : s1 ≤ m := by have := Hrl.out; omega
        have hdl : (r.drop s1).length = m - s1 := by rw [List.length_drop, Hrl.out]
        by_cases h2 : a % 2 = 0
        · by_cases hsh : m - s1 < a / 2 + 1
          · have hG := HG.out
            rw [eg_short htk1 h2 (by rw [hdl]; exact hsh)] at hG; simp at hG
          · by_cases hov : S < o.length + (a / 2 + 1)
            · have hG := HG.out
              rw [eg_over htk1 h2 (by rw [hdl]; exact hsh) hov] at hG; simp at hG
            · have hG4 := (eg_lit (p := p) (k := k) (n := S) (out := o) htk1 h2 (by rw [hdl]; exact hsh) hov).symm.trans HG.out
              obtain ⟨K, hK⟩ : ∃ K, K = a / 2 + 1 := ⟨_, rfl⟩
              have hct := takeToken_lit D m dc w.heap.size r a s1 (wr.alloc (.cells #[.bool false, .int .u64 0, .slice none 0 0, .int .u64 0] 230)) (HrD.out.alloc hsz _) (by simp; omega) (by omega) htk1 h2 (by omega)
              rw [← hK] at hG4 hct hsh hov
              have hlen : (o ++ (r.drop s1).take K).length = o.length + K := by rw [List.length_append, List.length_take, hdl]; omega
              have HG4 := Lib.hid hG4; have Hct := Lib.hid hct; have Hlen := Lib.hid hlen; have Hdl := Lib.hid hdl
              have hK1 : 1 ≤ K := by omega
              clear hG4 hct hlen htk1 h2 ha hK hne hdl HG HrD
              go_wp2_with fail
              refine Hct.out.mono ?_
              rintro e w2 ⟨E, F, rfl, hE, hF, hb2⟩
              have HE := Lib.hid hE; have HF := Lib.hid hF; clear hE hF Hct
              have hu : tokV false K (.slice E K (dc - s1)) 0 = .agg #[.bool false, .int .u64 (K : Int), .slice E K (dc - s1), .int .u64 0] := rfl
              rw [hu]
              obtain ⟨htb, hbb2, hs2'⟩ := tokbox _ _ _ _ _ _ _ hb2
              have HTB := Lib.hid htb
              clear htb hb2
              obtain ⟨t0, t1, t2, t3, k0, k1, k2, k3, hlt2⟩ := HTB.out
              have hg3 := grown_put4 w2 wr.heap.size (.bool false) (.int .u64 (K : Int)) (.slice E K (dc - s1)) (.int .u64 0)
              have HO3 : Hid (Own (put4 w2 wr.heap.size (.bool false) (.int .u64 (K : Int)) (.slice E K (dc - s1)) (.int .u64 0)) 5 w.heap.size A c o) := Lib.hid (Own.same (HO.out.keep hbb2) fun g hg => by
                have h1 := own_ob HO.out g hg
                exact hg3.block g (by omega) (fun e => by cases e; omega))
              have hbel3 : Below w.heap.size w (put4 w2 wr.heap.size (.bool false) (.int .u64 (K : Int)) (.slice E K (dc - s1)) (.int .u64 0)) := below_put4 (hbel.trans (hbb2.mono hsz)) hsz _ _ _ _
              have hs3 : (put4 w2 wr.heap.size (.bool false) (.int .u64 (K : Int)) (.slice E K (dc - s1)) (.int .u64 0)).heap.size = w2.heap.size := by simp [put4]
              have happ := appended_lit A c w.heap.size o E K (dc - s1) w.heap.size 0 ((r.drop s1).take K) (put4 w2 wr.heap.size (.bool false) (.int .u64 (K : Int)) (.slice E K (dc - s1)) (.int .u64 0)) HO3.out (by omega) (HE.out.below (below_put4 (Below.refl w.heap.size w2) hsz _ _ _ _)) (by omega) (by rw [List.length_take]; omega)
              have Happ := Lib.hid happ
              clear happ hg3 HO HTB
              go_wp2_with fail
              refine (show Calls Tryz.prog 224 #[tokV false K (.slice E K (dc - s1)) 0, .slice A o.length c] (put4 w2 wr.heap.size (.bool false) (.int .u64 (K : Int)) (.slice E K (dc - s1)) (.int .u64 0)) _ from Happ.out).mono ?_
              rintro e w4 ⟨A2, c2, rfl, hown4, hg4⟩
              have HO4 := Lib.hid hown4
              have hbel34 := hg4.below HO3.out (by omega)
              have HF4 := Lib.hid (((HF.out.below (Below.refl w.heap.size w2)).below ((below_put4 (Below.refl w.heap.size w2) hsz _ _ _ _).trans hbel34)))
              have hbel4 := hbel3.trans hbel34
              clear Happ hown4 hg4 HO3 HF hbel34
              go_wp2
              go_roundw
              case rel => exact ⟨A2, c2, o ++ (r.drop s1).take K, (r.drop s1).drop K, F, _, _, p + 1, k, by simp, rfl, HO4, HF4, by omega, by rw [Hlen.out]; omega, HG4, hbel4, hbel4.size⟩
              case measure => simp [slen]; omega
        · have hodd : a % 2 = 1 := by omega
          rcases tk_cases (r.drop s1) with ⟨d, s2, htk2, hd, hs2, _⟩ | ⟨x, htk2, hx⟩
          · rw [hdl] at hs2
            by_cases hbad : d = 0 ∨ 4096 < d ∨ o.length < d ∨ S - o.length < a / 2 + 4
            · have hG := HG.out
              rw [eg_bad htk1 hodd htk2 hbad] at hG; simp at hG
            · have hG4 := (eg_mat (p := p) (k := k) (n := S) (out := o) htk1 hodd htk2 hbad).symm.trans HG.out
              obtain ⟨K, hK⟩ : ∃ K, K = a / 2 + 4 := ⟨_, rfl⟩
              have hct := takeToken_mat D m dc w.heap.size r a s1 d s2 (wr.alloc (.cells #[.bool false, .int .u64 0, .slice none 0 0, .int .u64 0] 230)) (HrD.out.alloc hsz _) (by simp; omega) (by omega) htk1 ha hodd htk2
              rw [← hK] at hG4 hct hbad
              have hlen : (Pm.copyN K d o).length = o.length + K := copyN_len K d o
              have HG4 := Lib.hid hG4; have Hct := Lib.hid hct; have Hlen := Lib.hid hlen
              have hb1 : 1 ≤ d ∧ d ≤ 4096 ∧ d ≤ o.length ∧ o.length + K ≤ S := by omega
              obtain ⟨hd1, hd2, hd3, hoK⟩ := hb1
              clear hG4 hct hlen htk1 h2 ha hK hne hdl hodd hbad htk2 hd HG HrD
              go_wp2_with fail
              refine Hct.out.mono ?_
              rintro e w2 ⟨F, rfl, hF, hb2⟩
              have HF := Lib.hid hF; clear hF Hct
              have hu : tokV true K (.slice none 0 0) d = .agg #[.bool true, .int .u64 (K : Int), .slice none 0 0, .int .u64 (d : Int)] := rfl
              rw [hu]
              obtain ⟨htb, hbb2, hs2'⟩ := tokbox _ _ _ _ _ _ _ hb2
              have HTB := Lib.hid htb
              clear htb hb2
              obtain ⟨t0, t1, t2, t3, k0, k1, k2, k3, hlt2⟩ := HTB.out
              have hg3 := grown_put4 w2 wr.heap.size (.bool true) (.int .u64 (K : Int)) (.slice none 0 0) (.int .u64 (d : Int))
              have HO3 : Hid (Own (put4 w2 wr.heap.size (.bool true) (.int .u64 (K : Int)) (.slice none 0 0) (.int .u64 (d : Int))) 5 w.heap.size A c o) := Lib.hid (Own.same (HO.out.keep hbb2) fun g hg => by
                have h1 := own_ob HO.out g hg
                exact hg3.block g (by omega) (fun e => by cases e; omega))
              have hbel3 : Below w.heap.size w (put4 w2 wr.heap.size (.bool true) (.int .u64 (K : Int)) (.slice none 0 0) (.int .u64 (d : Int))) := below_put4 (hbel.trans (hbb2.mono hsz)) hsz _ _ _ _
              have hs3 : (put4 w2 wr.heap.size (.bool true) (.int .u64 (K : Int)) (.slice none 0 0) (.int .u64 (d : Int))).heap.size = w2.heap.size := by simp [put4]
              have happ := appended_mat A c w.heap.size o K d (put4 w2 wr.heap.size (.bool true) (.int .u64 (K : Int)) (.slice none 0 0) (.int .u64 (d : Int))) HO3.out (by omega) (by omega) (by omega) (by omega) (by omega)
              have Happ := Lib.hid happ
              clear happ hg3 HO HTB
              go_wp2_with fail
              refine (show Calls Tryz.prog 224 #[tokV true K (.slice none 0 0) d, .slice A o.length c] (put4 w2 wr.heap.size (.bool true) (.int .u64 (K : Int)) (.slice none 0 0) (.int .u64 (d : Int))) _ from Happ.out).mono ?_
              rintro e w4 ⟨A2, c2, rfl, hown4, hg4⟩
              have HO4 := Lib.hid hown4
              have hbel34 := hg4.below HO3.out (by omega)
              have HF4 := Lib.hid (((HF.out.below (Below.refl w.heap.size w2)).below ((below_put4 (Below.refl w.heap.size w2) hsz _ _ _ _).trans hbel34)))
              have hbel4 := hbel3.trans hbel34
              clear Happ hown4 hg4 HO3 HF hbel34
              go_wp2
              go_roundw
              case rel => exact ⟨A2, c2, Pm.copyN K d o, (r.drop s1).drop s2, F, _, _, p, k + 1, rfl, rfl, HO4, HF4, by omega, by rw [Hlen.out]; omega, HG4, hbel4, hbel4.size⟩
              case measure => simp [slen]; omega
          · have hG := HG.out
            rw [eg_err2 htk1 hodd htk2 hx] at hG; simp at hG; omega
      · have hG := HG.out
        rw [eg_err1 hne htk1 hx] at hG; simp at hG; omega
end Go.Proofs.YtknmhdkomjjneaaGreatDoor.Cht

/-
  press.Expand and press.Marks.
-/

namespace Go.Proofs.YtknmhdkomjjneaaGreatDoor.Cht
open Go.RowKit

def RetX (base : Nat) (w : World) (out : List UInt8) (x : Nat) (e : Ending) (w' : World) : Prop :=
  ∃ A c, e = .returned (.tuple #[.slice A out.length c, .int .i64 (x : Int)]) ∧ Own w' 5 base A c out ∧ Below base w w'

set_option maxRecDepth 100000 in
theorem expand_c (A : Option Addr) (n c : Nat) (l : List UInt8) (most : Int) (w : World) (hr : Rb w w.heap.size A n c l) (hn : n ≤ 900000) (hm : I64 most) (hsm : ∀ S s, Vm.tk l = (S, s, 0) → (S : Int) ≤ most → S ≤ 2147483647) :
    Calls Tryz.prog 164 #[.slice A n c, .int .i64 most] w (RetX w.heap.size w (Pm.expS l most).1 (Pm.expS l most).2.2.2) := by
  have hsv := surveyed_c A n c w.heap.size l most w hr (Nat.le_refl _) hn hm
  have Hsv := Lib.hid hsv; have Hsm := Lib.hid hsm; have Hm := Lib.hid hm
  have hl := hr.len
  have Hl := Lib.hid hl
  clear hsv hsm hm hr hl
  obtain ⟨X, hX⟩ : ∃ X, X = Pm.expS l most := ⟨_, rfl⟩
  rw [← hX]
  have HX := Lib.hid hX; clear hX
  go_enter Tryz.func164, Tryz.ntmps164
  go_wp2_with fail
  refine Hsv.out.mono ?_
  rintro e w1 ⟨hb1, ⟨S, s, D, out, p, k, htk, hexp, hgo, rfl, hr1, ⟨h3, h4⟩, _, _⟩ | ⟨x, hexp, hx0, hx100, rfl⟩⟩
  · have hS := Hsm.out S s htk h4
    obtain rfl : X = (out, p, k, 0) := HX.out.trans hexp
    have hs1 := hb1.size
    have Hgo := Lib.hid hgo; have Hr1 := Lib.hid hr1; have Htk := Lib.hid htk
    clear hgo hr1 htk hexp HX Hsv Hsm
    have hne : (S : Int) ≤ 2147483647 := by omega
    unfold surV
    obtain ⟨m, hm⟩ : ∃ m, m = n - s := ⟨_, rfl⟩
    have hmn : m ≤ n := by omega
    rw [← hm] at Hr1 ⊢
    clear hm
    go_wp2_with fail
    refine (show Calls Tryz.prog 197 #[surV S (.slice D m (c - s)) p k] _ _ from expanded_c S m (c - s) p k p k D (l.drop s) out _ ((Hr1.out.alloc hs1 _).more (by simp; omega)) (by omega) hS Hgo.out).mono ?_
    rintro e w2 ⟨A2, c2, rfl, hown2, hb2⟩
    have hs2 := hb2.size
    go_wp2
    go_ret2
    refine ⟨A2, c2, rfl, hown2.mono (by simp; omega), (hb1.trans ((Below.refl _ _).alloc hs1 _)).trans (hb2.mono (by simp; omega))⟩
  · obtain rfl : X = ([], 0, 0, x) := HX.out.trans hexp
    have hx0' : ((x : Int) == 0) = false := by simp; omega
    clear hexp HX Hsv Hsm
    unfold surV
    go_wp2
    go_ret2
    exact ⟨none, 0, rfl, Own.nil _ _ _, hb1.trans ((Below.refl _ _).alloc hb1.size _)⟩

end Go.Proofs.YtknmhdkomjjneaaGreatDoor.Cht

/-
  The document's Press (threshingref03) comes to its tokens.
-/

namespace Go.Proofs.YtknmhdkomjjneaaGreatDoor.Cht
open Go.RowKit Go.Maps Go.ChangeShapes

def RPressRel (base : Nat) (w : World) (L l : List UInt8) (n : Nat) (o f t : Value) (wr : World) : Prop :=
  ∃ A c l1 from_ i, o = .slice A l1.length c ∧ f = .int .i64 (from_ : Nat) ∧ t = .int .i64 (i : Nat) ∧ from_ ≤ i ∧ i ≤ n ∧ Hid (Own wr 5 base A c l1) ∧ Hid (l1 ++ Pm.pressGo l from_ i = L) ∧ Below base w wr ∧ base ≤ wr.heap.size

set_option maxRecDepth 100000 in
set_option maxHeartbeats 1000000 in
theorem rpress_c (A0 : Option Addr) (n c0 : Nat) (l : List UInt8) (w : World) (hr : Rb w w.heap.size A0 n c0 l) (hn : n ≤ 20000) :
    Calls Tryz.prog 74 #[.slice A0 n c0] w (RetP w.heap.size w (Pm.pressS l)) := by
  have hl := hr.len
  obtain ⟨L, hL⟩ : ∃ L, L = Pm.pressS l := ⟨_, rfl⟩
  have hLs : L.length ≤ 30000 := by
    have := Pm.press_len l (by omega)
    rw [hL]; omega
  rw [← hL]
  obtain ⟨V, hV⟩ : ∃ V, V = Vm.vb n := ⟨_, rfl⟩
  have hput := rput_c none 0 0 [] n w (Rb.nil _ _) (by omega) (by omega)
  rw [List.nil_append, ← hV] at hput
  have hVL : V ++ Pm.pressGo l 0 0 = L := by rw [hV, hL]; unfold Pm.pressS; rw [hl]
  have Hr := Lib.hid hr; have Hl := Lib.hid hl; have Hput := Lib.hid hput; have HVL := Lib.hid hVL; clear hr hl hL hV hput hVL
  go_enter Tryz.func74, Tryz.ntmps74
  go_wp2_with fail
  refine Hput.out.mono ?_
  rintro e w1 ⟨A1, c1, rfl, hown1, hb1⟩
  have hs1 := hb1.size
  have Hown1 := Lib.hid hown1; clear hown1
  go_wp2
  go_loopw [4, 5, 6] (fun o f t wr => RPressRel w.heap.size w L l n o f t wr) (fun _ _ t _ => n - (intOf t).toNat)
  case atStart => exact ⟨A1, c1, V, 0, 0, rfl, rfl, rfl, by omega, by omega, Hown1, HVL, hb1, hs1⟩
  case round =>
    obtain ⟨A, c, l1, f, i, rfl, rfl, rfl, hfi, hin, HO, HL, hbel, hsz⟩ := hrel
    have hll : l1.length ≤ 30000 := by have := congrArg List.length HL.out; rw [List.length_append] at this; omega
    by_cases hlt : i < n
    · have hlt' : (i : Int) < (n : Int) := by omega
      go_wp2_with fail
      refine (rbest_c A0 n c0 _ l i _ (Hr.out.below hbel) (by omega) hin).mono ?_
      rintro e w2 ⟨rfl, q, rfl⟩
      have hcases := Pm.best_cases l i (by rw [Hl.out]; exact hin)
      by_cases h0 : (Pm.best l i).1 = 0
      · have hgo := Pm.pressGo_lit l f i (by rw [Hl.out]; exact hlt) h0
        have HL2 : Hid (l1 ++ Pm.pressGo l f (i + 1) = L) := by rw [← hgo]; exact HL
        obtain ⟨R, hR⟩ : ∃ R, R = Pm.best l i := ⟨_, rfl⟩
        rw [← hR] at h0 ⊢
        obtain ⟨R1, R2⟩ := R
        dsimp only at h0
        subst h0
        clear hR hcases HL hgo
        go_wp2
        go_roundw
        case rel => exact ⟨A, c, l1, f, i + 1, rfl, rfl, by go_num, by omega, by omega, Lib.hid (HO.out.drewN q), HL2, below_drewN hbel q, hsz⟩
        case measure => simp [intOf]; omega
      · rcases hcases with hc0 | ⟨h4, h200, hlen, hd1, hdi, hd4, _⟩
        · exact absurd hc0 h0
        have hgo := Pm.pressGo_match l f i (by rw [Hl.out]; exact hlt) h0
        rw [Hl.out] at hlen
        obtain ⟨R, hR⟩ : ∃ R, R = Pm.best l i := ⟨_, rfl⟩
        rw [← hR] at h0 h4 h200 hlen hd1 hdi hd4 hgo ⊢
        obtain ⟨m, d⟩ := R
        dsimp only at h0 h4 h200 hlen hd1 hdi hd4 hgo ⊢
        clear hR h0
        have h4' : ((m : Int) == 0) = false := by simp; omega
        have hfi' : (f : Int) ≤ (i : Int) := by omega
        obtain ⟨E, hE, hrE⟩ := bty.mid_ (Hr.out.below hbel) (i := f) (k := i) hfi (by omega) (f : Int) (i : Int) rfl rfl (i - f) rfl
        have HrE := Lib.hid (hrE.drewN q); clear hrE
        obtain ⟨L2, hL2⟩ : ∃ L2, L2 = l1 ++ Pm.asB ((l.take i).drop f) := ⟨_, rfl⟩
        obtain ⟨L3, hL3⟩ : ∃ L3, L3 = L2 ++ Vm.vb (2 * (m - 4) + 1) := ⟨_, rfl⟩
        obtain ⟨L4, hL4⟩ : ∃ L4, L4 = L3 ++ Vm.vb d := ⟨_, rfl⟩
        have HL4 : Hid (L4 ++ Pm.pressGo l (i + m) (i + m) = L) := by
          show _ = _
          rw [hL4, hL3, hL2, ← HL.out, hgo]
          simp
        have hL3s : L3.length ≤ 30000 := by
          have := congrArg List.length HL4.out
          rw [List.length_append, hL4, List.length_append] at this
          omega
        have hL2s : L2.length ≤ 30000 := by
          rw [hL3, List.length_append] at hL3s
          omega
        have hsum : l1.length + (Pm.asB ((l.take i).drop f)).length ≤ 900000 := by
          have := congrArg List.length hL2
          rw [List.length_append] at this
          omega
        have hca := as_c A c w.heap.size l1 E (i - f) (c0 - f) ((l.take i).drop f) (wr.drewN q) (HO.out.drewN q) hsz HrE.out hsum
        rw [← hL2] at hca
        have Hca := Lib.hid hca; have HL2 := Lib.hid hL2; have HL3 := Lib.hid hL3; have HL4' := Lib.hid hL4; clear hL2 hL3 hL4 hca hgo HL hsum hlt
        go_wp2_with fail
        refine Hca.out.mono ?_
        rintro e w3 ⟨A2, c2, rfl, hown2, hg2⟩
        have HO2 := Lib.hid hown2
        have hbel2 : Below w.heap.size w w3 := (below_drewN hbel q).trans (hg2.below (HO.out.drewN q) hsz)
        clear hown2 hg2
        have hsz2 : w.heap.size ≤ w3.heap.size := hbel2.size
        have hcb := rputO A2 c2 w.heap.size L2 (2 * (m - 4) + 1) (2 * ((m : Int) - 4) + 1) w3 (by omega) HO2.out hsz2 (by omega) (by omega)
        rw [← HL3.out] at hcb
        have Hcb := Lib.hid hcb; clear hcb
        go_wp2_with fail
        refine Hcb.out.mono ?_
        rintro e w4 ⟨A3, c3, rfl, hown3, hg3⟩
        have HO3 := Lib.hid hown3
        have hbel3 : Below w.heap.size w w4 := hbel2.trans (hg3.below HO2.out hsz2)
        have hsz3 : w.heap.size ≤ w4.heap.size := hbel3.size
        clear hown3 hg3 HO HO2
        have hcc := rputO A3 c3 w.heap.size L3 d (d : Int) w4 rfl HO3.out hsz3 (by omega) (by omega)
        rw [← HL4'.out] at hcc
        have Hcc := Lib.hid hcc; clear hcc
        go_wp2_with fail
        refine Hcc.out.mono ?_
        rintro e w5 ⟨A4, c4, rfl, hown4, hg4⟩
        have HO4 := Lib.hid hown4
        have hbel4 : Below w.heap.size w w5 := hbel3.trans (hg4.below HO3.out hsz3)
        clear hown4 hg4 HO3
        go_wp2
        go_roundw
        case rel => exact ⟨A4, c4, L4, i + m, i + m, rfl, by go_num, by go_num, by omega, by omega, HO4, HL4, hbel4, hbel4.size⟩
        case measure => simp [intOf]; omega
    · obtain rfl : i = n := by omega
      have hgo := Pm.pressGo_at l f i Hl.out.symm
      have hL' : l1 ++ Pm.asB (l.drop f) = L := by rw [← hgo]; exact HL.out
      obtain ⟨E, hE, hrE⟩ := bty.from_ (Hr.out.below hbel) (k := f) hfi (f : Int) rfl
      have hsum : l1.length + (Pm.asB (l.drop f)).length ≤ 900000 := by
        have := congrArg List.length hL'
        rw [List.length_append] at this
        omega
      have hca := as_c A c w.heap.size l1 E (i - f) (c0 - f) (l.drop f) wr HO.out hsz hrE hsum
      rw [hL'] at hca
      have Hca := Lib.hid hca; clear hca hL' hgo hrE hsum hlt
      go_wp2_with fail
      refine Hca.out.mono ?_
      rintro e w3 ⟨A2, c2, rfl, hown2, hg2⟩
      have hbel2 : Below w.heap.size w w3 := hbel.trans (hg2.below HO.out hsz)
      go_wp2
      go_ret2
      exact ⟨A2, c2, rfl, hown2, hbel2⟩
end Go.Proofs.YtknmhdkomjjneaaGreatDoor.Cht
