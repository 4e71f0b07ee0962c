/-
  Joined: P4 P5 P7 P14 P15.
-/
import Derived.Test.YtknmhdkomjjneaaGreatDoorJ12
import Derived.Test.YtknmhdkomjjneaaGreatDoorJ6
import Derived.Maps.GroupsBeside
import Derived.Test.YtknmhdkomjjneaaGreatDoorJ5
import Derived.Test.YtknmhdkomjjneaaGreatDoorJ2
import Derived.BigQuiet
/-
  The map of places: what it holds once the first m places are noted; press.note.
-/
namespace Go.Proofs.YtknmhdkomjjneaaGreatDoor.Cht
open Go.RowKit Go.Maps Go.ChangeShapes

/-- The places below m at which the four bytes are x. -/
def posn (l : List UInt8) (m x : Nat) : List Nat := (List.range m).filter (fun p => f4 l p == x)
theorem posn_same (l : List UInt8) (m : Nat) : posn l (m + 1) (f4 l m) = posn l m (f4 l m) ++ [m] := by simp [posn, List.range_succ, List.filter_append]
theorem posn_other (l : List UInt8) (m x : Nat) (h : f4 l m ≠ x) : posn l (m + 1) x = posn l m x := by
  have : (f4 l m == x) = false := by simpa using h
  simp [posn, List.range_succ, List.filter_append, this]
def posI (l : List UInt8) (m x : Nat) : List Int := (posn l m x).map fun (p : Nat) => (p : Int)

/-- The map's datum holds the places below m. -/
def Gd (D : DataW Unit) (l : List UInt8) (m : Nat) : Prop :=
  IsMap D ∧ ∀ x : Nat, (D.atKey (.int .u32 (x : Int)) .nil = .nil ∧ posI l m x = []) ∨ D.atKey (.int .u32 (x : Int)) .nil = .slice (lits .i64 (posI l m x)) []
theorem Gd.start (l : List UInt8) : Gd (.map []) l 0 := ⟨isMap_empty, fun _ => .inl ⟨rfl, rfl⟩⟩
theorem lits_inj {q : IntKind} : ∀ {a b : List Int}, (lits q a : List (DataW Unit)) = lits q b → a = b
  | [], [], _ => rfl
  | [], _ :: _, h => by simp [lits] at h
  | _ :: _, [], h => by simp [lits] at h
  | x :: a, y :: b, h => by
    simp only [lits, List.map_cons, List.cons.injEq, DataW.lit.injEq, Lit.int.injEq, true_and] at h
    rw [h.1, lits_inj (q := q) (a := a) (b := b) h.2]
theorem Gd.at_ {D : DataW Unit} {l : List UInt8} {m : Nat} (h : Gd D l m) (x : Nat) {w : World} {base : Nat} {v : Value} {zs : List Int} (hat : D.atKey (.int .u32 (x : Int)) .nil = rowDatum .i64 v zs) (hoi : w.ownsInts base 3 .i64 v zs) : zs = posI l m x := by
  rcases hoi.datum (H := Unit) with ⟨e, rfl⟩ | e
  · rw [e] at hat
    rcases h.2 x with ⟨_, h2⟩ | h2
    · exact h2.symm
    · rw [hat] at h2; cases h2
  · rw [e] at hat
    rcases h.2 x with ⟨h1, _⟩ | h2
    · rw [hat] at h1; cases h1
    · rw [hat] at h2
      simp only [DataW.slice.injEq, and_true] at h2
      exact lits_inj h2
theorem Gd.put {D : DataW Unit} {l : List UInt8} {m : Nat} (h : Gd D l m) {w : World} {base : Nat} {v : Value} {zs : List Int} (hzs : zs = posI l m (f4 l m)) (hoi : w.ownsInts base 3 .i64 v (zs ++ [(m : Int)])) :
    Gd (D.put (.int .u32 (f4 l m : Nat)) (rowDatum .i64 v (zs ++ [(m : Int)]))) l (m + 1) := by
  refine ⟨h.1.put _ _, fun x => ?_⟩
  by_cases hx : x = f4 l m
  · subst hx
    rw [atKey_put_same h.1 (show WideAt.IsKeyLit (.int .u32 _) from trivial), hoi.datum_pos (by simp), hzs]
    refine .inr ?_
    unfold posI
    rw [posn_same, List.map_append]
    rfl
  · rw [atKey_put_other (by intro e; simp at e; omega)]
    have := h.2 x
    unfold posI at this ⊢
    rw [posn_other l m x (fun e => hx e.symm)]
    exact this

/-- Block b is the map of the places below m; no group lies in a block of which No holds. -/
structure Grp (w : World) (b : Nat) (No : Nat → Prop) (l : List UInt8) (m : Nat) (D : DataW Unit) : Prop where
  own : w.ownsGroups Tryz.prog 123 (b + 1) 3 .i64 b m D
  gd : Gd D l m
  sh : w.Shuns b No
  lt : b < w.heap.size
theorem grown_drewN (w : World) (q : Nat) (r : Option Nat) : w.grownBy (w.drewN q) r := ⟨rfl, rfl, rfl, Nat.le_refl _, fun _ _ _ => rfl⟩
theorem none_or (o : Option Nat) : o = none ∨ o ≠ none := by cases o <;> simp
theorem Grp.drewN {w : World} {b : Nat} {No : Nat → Prop} {l : List UInt8} {m : Nat} {D : DataW Unit} (h : Grp w b No l m D) (q : Nat) : Grp (w.drewN q) b No l m D :=
  ⟨h.own.kept (grown_drewN w q none) (by simp) (fun _ _ _ _ _ => none_or _), h.gd, h.sh.kept (grown_drewN w q none) h.lt (by simp), h.lt⟩
theorem Grp.start (w : World) (l : List UInt8) (No : Nat → Prop) : Grp (w.alloc (.map #[] 0)) w.heap.size No l 0 (.map []) :=
  ⟨World.ownsGroups_made _ _ _ _ _, Gd.start l, World.Shuns_made _ _, by simp⟩
/-- Another row of the call's own has grown. -/
theorem Grp.beside {w w' : World} {b : Nat} {l : List UInt8} {m : Nat} {D : DataW Unit} {A A' : Option Addr} (h : Grp w b (fun g => ob A = some g) l m D) (hne : ob A ≠ some b) (hg : Grows w w' A A') : Grp w' b (fun g => ob A' = some g) l m D ∧ ob A' ≠ some b := by
  have hlt := h.lt
  have h1 : some b ≠ ob A := fun e => hne e.symm
  have ho : w'.ownsGroups Tryz.prog 123 (b + 1) 3 .i64 b m D := h.own.kept hg.1 h1 (h.sh.rowsOff fun j hj => hj)
  have hreno : w.Shuns b (fun g => ob A' = some g) := h.sh.reno h.own fun g hg' => by
    rcases hg.2 with e | ⟨g', e, hge⟩
    · exact .inl (e ▸ hg')
    · rw [e] at hg'; cases hg'; exact .inr hge
  refine ⟨⟨ho, h.gd, hreno.kept hg.1 hlt h1, Nat.lt_of_lt_of_le hlt hg.size⟩, fun e => ?_⟩
  rcases hg.2 with e1 | ⟨g', e1, hge⟩
  · exact hne (e1 ▸ e)
  · rw [e1] at e; cases e; omega

end Go.Proofs.YtknmhdkomjjneaaGreatDoor.Cht

/-
  The longest likeness: the document's best, and the search over the places noted.
-/
namespace Go.Proofs.YtknmhdkomjjneaaGreatDoor.Cht
open Go.RowKit Go.Maps Go.ChangeShapes

theorem bestF_next (b : List UInt8) (i k d : Nat) (r : Nat × Nat) : Pm.bestF b i (k + 1) d r = Pm.bestF b i k (d + 1) (if 4 ≤ Pm.like b i d ∧ r.1 < Pm.like b i d then (Pm.like b i d, d) else r) := rfl
theorem bestF_skip (b : List UInt8) (i : Nat) (r : Nat × Nat) : ∀ m k d, m ≤ k → (∀ e, d ≤ e → e < d + m → Pm.like b i e < 4) → Pm.bestF b i k d r = Pm.bestF b i (k - m) (d + m) r
  | 0, _, _, _, _ => rfl
  | m + 1, 0, _, h, _ => by omega
  | m + 1, k + 1, d, h, hl => by
    have h0 := hl d (Nat.le_refl _) (by omega)
    rw [bestF_next, if_neg (by omega), bestF_skip b i r m k (d + 1) (by omega) (fun e h1 h2 => hl e (by omega) (by omega))]
    rw [show k + 1 - (m + 1) = k - m by omega, show d + 1 + m = d + (m + 1) by omega]

theorem posn_sorted (l : List UInt8) (m x : Nat) : (posn l m x).Pairwise (· < ·) := (List.pairwise_lt_range (n := m)).filter _
theorem posn_lt {l : List UInt8} {m x j k p q : Nat} (hj : (posn l m x)[j]? = some p) (hk : (posn l m x)[k]? = some q) (h : j < k) : p < q := by
  obtain ⟨h1, rfl⟩ := List.getElem?_eq_some_iff.1 hj
  obtain ⟨h2, rfl⟩ := List.getElem?_eq_some_iff.1 hk
  exact List.pairwise_iff_getElem.1 (posn_sorted l m x) j k h1 h2 h
theorem posn_mem {l : List UInt8} {m x p : Nat} : p ∈ posn l m x ↔ p < m ∧ f4 l p = x := by simp [posn]
theorem like_four (l : List UInt8) (i e : Nat) (hi : i + 4 ≤ l.length) (he : 1 ≤ e) (hei : e ≤ i) : 4 ≤ Pm.like l i e ↔ f4 l (i - e) = f4 l i := by
  rw [f4_same l (i - e) i (by omega) hi]
  constructor
  · intro h k hk
    have := Pm.like_eq l i e k (by omega)
    rw [this]
    congr 1
    omega
  · intro h
    exact Pm.likeF_ge l e 4 200 i (by omega) hi fun k hk => by rw [show i + k - e = i - e + k by omega]; exact (h k hk).symm

/-- The search so far: the K first places are still to be looked at. -/
structure Look (l : List UInt8) (i K d : Nat) (r : Nat × Nat) : Prop where
  b : Pm.best l i = Pm.bestF l i (min i 4096 + 1 - d) d r
  d1 : 1 ≤ d
  rem : ∀ e, d ≤ e → e ≤ i → 4 ≤ Pm.like l i e → ∃ j, j < K ∧ (posn l i (f4 l i))[j]? = some (i - e)
  lo : ∀ j, j < K → ∀ p, (posn l i (f4 l i))[j]? = some p → p + d ≤ i
  r1 : r.1 ≤ 200
  r2 : r.2 ≤ 4096
theorem Look.start (l : List UInt8) (i : Nat) (hi : i + 4 ≤ l.length) : Look l i (posn l i (f4 l i)).length 1 (0, 0) := by
  refine ⟨by unfold Pm.best; rfl, Nat.le_refl _, fun e h1 h2 h3 => ?_, fun j _ p hp => ?_, by simp, by simp⟩
  · have hm : i - e ∈ posn l i (f4 l i) := posn_mem.2 ⟨by omega, (like_four l i e hi h1 h2).1 h3⟩
    obtain ⟨j, hj⟩ := List.mem_iff_getElem?.1 hm
    exact ⟨j, (List.getElem?_eq_some_iff.1 hj).1, hj⟩
  · have := (posn_mem.1 (List.mem_of_getElem? hp)).1
    omega
theorem Look.none {l : List UInt8} {i d : Nat} {r : Nat × Nat} (h : Look l i 0 d r) : Pm.best l i = r := by
  rw [h.b]
  refine Pm.bestF_stay l i _ d r fun e h1 h2 => ?_
  rcases Nat.lt_or_ge (Pm.like l i e) 4 with h3 | h3
  · exact .inr h3
  · obtain ⟨j, hj, _⟩ := h.rem e h1 (by omega) h3; omega
theorem Look.far {l : List UInt8} {i K d p : Nat} {r : Nat × Nat} (h : Look l i (K + 1) d r) (hp : (posn l i (f4 l i))[K]? = some p) (hf : 4096 < i - p) : Pm.best l i = r := by
  rw [h.b]
  refine Pm.bestF_stay l i _ d r fun e h1 h2 => ?_
  rcases Nat.lt_or_ge (Pm.like l i e) 4 with h3 | h3
  · exact .inr h3
  · obtain ⟨j, hj, hq⟩ := h.rem e h1 (by omega) h3
    rcases Nat.lt_or_ge j K with h4 | h4
    · have := posn_lt hq hp h4; omega
    · obtain rfl : j = K := by omega
      rw [hp] at hq
      injection hq with hq
      omega
theorem Look.step {l : List UInt8} {i K d p : Nat} {r : Nat × Nat} (h : Look l i (K + 1) d r) (hi : i + 4 ≤ l.length) (hp : (posn l i (f4 l i))[K]? = some p) (hf : i - p ≤ 4096) :
    Look l i K (i - p + 1) (if r.1 < Pm.like l i (i - p) then (Pm.like l i (i - p), i - p) else r) := by
  have hlo := h.lo K (by omega) p hp
  have hd1 := h.d1
  have hm := posn_mem.1 (List.mem_of_getElem? hp)
  have h4 : 4 ≤ Pm.like l i (i - p) := (like_four l i (i - p) hi (by omega) (by omega)).2 (by rw [show i - (i - p) = p by omega]; exact hm.2)
  have hle := Pm.like_le l i (i - p)
  have hr1 := h.r1; have hr2 := h.r2
  refine ⟨?_, by omega, fun e h1 h2 h3 => ?_, fun j hj q hq => ?_, ?_, ?_⟩
  · rw [h.b, bestF_skip l i r (i - p - d) _ d (by omega) (fun e h1 h2 => ?_)]
    · rw [show min i 4096 + 1 - d - (i - p - d) = (min i 4096 + 1 - (i - p + 1)) + 1 by omega, show d + (i - p - d) = i - p by omega, bestF_next]
      by_cases hlt : r.1 < Pm.like l i (i - p)
      · rw [if_pos ⟨h4, hlt⟩, if_pos hlt]
      · rw [if_neg (fun q => hlt q.2), if_neg hlt]
    · rcases Nat.lt_or_ge (Pm.like l i e) 4 with h3 | h3
      · exact h3
      · obtain ⟨j, hj, hq⟩ := h.rem e h1 (by omega) h3
        rcases Nat.lt_or_ge j K with h5 | h5
        · have := posn_lt hq hp h5; omega
        · obtain rfl : j = K := by omega
          rw [hp] at hq
          injection hq with hq
          omega
  · obtain ⟨j, hj, hq⟩ := h.rem e (by omega) h2 h3
    refine ⟨j, ?_, hq⟩
    rcases Nat.lt_or_ge j K with h5 | h5
    · exact h5
    · obtain rfl : j = K := by omega
      rw [hp] at hq
      injection hq with hq
      omega
  · have := posn_lt hq hp hj; omega
  · split
    · exact hle
    · exact hr1
  · split
    · exact hf
    · exact hr2
end Go.Proofs.YtknmhdkomjjneaaGreatDoor.Cht

/-
  press.Press comes to the document's tokens.
-/

namespace Go.Proofs.YtknmhdkomjjneaaGreatDoor.Cht
open Go.RowKit Go.Maps Go.ChangeShapes

theorem _root_.Go.Proofs.YtknmhdkomjjneaaGreatDoor.Own.same {w w' : World} {e : TypeId} {base c : Nat} {A : Option Addr} {l : List UInt8} (h : Own w e base A c l) (hs : ∀ g, ob A = some g → w'.heap[g]? = w.heap[g]?) : Own w' e base A c l := by
  unfold Own at h ⊢
  refine ⟨h.1, ?_⟩
  rcases h.2 with hn | ⟨g, cap, cur, hv, hbg, hg, rest⟩
  · exact .inl hn
  · refine .inr ⟨g, cap, cur, hv, hbg, (hs g ?_).trans hg, rest⟩
    injection hv with hA
    rw [hA]
    rfl

end Go.Proofs.YtknmhdkomjjneaaGreatDoor.Cht

/-
  press.expanded, Expand, Marks.
-/

namespace Go.Proofs.YtknmhdkomjjneaaGreatDoor.Cht
open Go.RowKit

theorem make_u64 (w : World) (S : Nat) (hS : S ≤ 2147483647) :
    (Instr.makeSlice 22 (.int .i64 0) (.int .u64 (S : Int))).run Tryz.prog w = .ok (.slice (some ⟨w.heap.size, 0, none⟩) 0 S) (w.alloc (.cells (zrow S) 5)) := by
  obtain ⟨i, hi, hz0, hz1, hz2⟩ := info_parts bty.inf
  have h := run_make (P := Tryz.prog) w 22 5 i (.int .u8 0) bty.sl hi hz0 .i64 .u64 0 (S : Int) (by omega) (by omega) (by rw [hz2]; omega) (by omega)
  simp only [Int.toNat_natCast, Int.toNat_zero, hz1, Nat.mul_one] at h
  rw [h]
  have e1 : madeCells (Value.int IntKind.u8 0).cells S = zrow S := by
    apply Array.toList_inj.1
    have hcells : (Value.int IntKind.u8 0).cells = #[.int .u8 0] := rfl
    rw [hcells, toList_madeCells_one]
    simp [zrow]
  rw [e1]

def ExpdRel (base S : Nat) (w : World) (RES : List UInt8 × Nat × Nat × Nat) (to tr : Value) (wr : World) : Prop :=
  ∃ A c o r D m dc p k, to = .slice A (o : List UInt8).length c ∧ tr = .slice D m dc ∧ Hid (Own wr 5 base A c o) ∧ Hid (Rb wr base D m dc r) ∧ m ≤ 900000 ∧ o.length ≤ S ∧ Hid (Pm.expGo S o r p k = RES) ∧ Below base w wr ∧ base ≤ wr.heap.size

set_option maxRecDepth 100000 in
set_option maxHeartbeats 2000000 in
/-- press.expanded -/
theorem expanded_c (S m dc p k P K' : Nat) (D : Option Addr) (r OUT : List UInt8) (w : World) (hr : Rb w w.heap.size D m dc r) (hm : m ≤ 900000) (hS : S ≤ 2147483647) (hres : Pm.expGo S [] r 0 0 = (OUT, P, K', 0)) :
    Calls Tryz.prog 197 #[surV S (.slice D m dc) p k] w (RetB w.heap.size w OUT) := by
  have hmk := make_u64 (w.alloc (.cells #[.int .u64 (S : Int), .slice D m dc, .int .i64 (p : Int), .int .i64 (k : Int)] 208)) S hS
  have Hr := Lib.hid hr; have Hres := Lib.hid hres; clear hr hres
  unfold surV
  go_enter Tryz.func197, Tryz.ntmps197
  go_wp2
  go_loopw [3, 4] (fun to tr wr => ExpdRel w.heap.size S w (OUT, P, K', 0) to tr wr) (fun _ tr _ => slen tr)
  case atStart =>
    refine ⟨some ⟨w.heap.size + 1, 0, none⟩, S, [], r, D, m, dc, 0, 0, by simp, rfl, Lib.hid ?_, Lib.hid ((Hr.out.alloc (Nat.le_refl _) _).alloc (by simp) _), hm, by simp, Hres, ((Below.refl _ _).alloc (Nat.le_refl _) _).alloc (by simp) _, by simp; omega⟩
    have h := own_zrow ((w.alloc (.cells #[.int .u64 (S : Int), .slice D m dc, .int .i64 (p : Int), .int .i64 (k : Int)] 208)).alloc (.cells (zrow S) 5)) 5 (w.heap.size + 1) 0 S ?_ (Nat.zero_le _) (by simp only [maxLen]; omega)
    · exact h.mono (by omega)
    · have := (heap_alloc_new (w.alloc (.cells #[.int .u64 (S : Int), .slice D m dc, .int .i64 (p : Int), .int .i64 (k : Int)] 208)) (.cells (zrow S) 5))
      simpa using this
  case round =>
    clear hmk
    obtain ⟨A, c, o, r, D, m, dc, p, k, rfl, rfl, HO, HrD, hm, hoS, HG, hbel, hsz⟩ := hrel
    have hrl := HrD.out.len
    have Hrl := Lib.hid hrl; clear hrl
    by_cases hmz : m = 0
    · subst hmz
      obtain rfl : r = [] := List.eq_nil_of_length_eq_zero Hrl.out
      have hG := HG.out
      by_cases hfew : o.length < S
      · rw [eg_nil_few hfew] at hG; simp at hG
      · rw [eg_nil hfew] at hG
        obtain ⟨rfl, _⟩ : o = OUT ∧ _ := Prod.mk.inj hG
        clear hG
        go_wp2
        go_ret
        exact ⟨A, c, rfl, HO.out, hbel⟩
    · have hmp : 0 < m := by omega
      have hne : r ≠ [] := by intro e; rw [e] at Hrl; have := Hrl.out; simp at this; omega
      rcases tk_cases r with ⟨a, s1, htk1, ha, hs1', _⟩ | ⟨x, htk1, hx⟩
      · have hs1p : 1 ≤ s1 := by have := Pm.tk_pos r (by rw [htk1]); rw [htk1] at this; exact this
        have hs1m : s1 ≤ m := by have := Hrl.out; omega
        have hdl : (r.drop s1).length = m - s1 := by rw [List.length_drop, Hrl.out]
        by_cases h2 : a % 2 = 0
        · by_cases hsh : m - s1 < a / 2 + 1
          · have hG := HG.out
            rw [eg_short htk1 h2 (by rw [hdl]; exact hsh)] at hG; simp at hG
          · by_cases hov : S < o.length + (a / 2 + 1)
            · have hG := HG.out
              rw [eg_over htk1 h2 (by rw [hdl]; exact hsh) hov] at hG; simp at hG
            · have hG4 := (eg_lit (p := p) (k := k) (n := S) (out := o) htk1 h2 (by rw [hdl]; exact hsh) hov).symm.trans HG.out
              obtain ⟨K, hK⟩ : ∃ K, K = a / 2 + 1 := ⟨_, rfl⟩
              have hct := takeToken_lit D m dc w.heap.size r a s1 (wr.alloc (.cells #[.bool false, .int .u64 0, .slice none 0 0, .int .u64 0] 230)) (HrD.out.alloc hsz _) (by simp; omega) (by omega) htk1 h2 (by omega)
              rw [← hK] at hG4 hct hsh hov
              have hlen : (o ++ (r.drop s1).take K).length = o.length + K := by rw [List.length_append, List.length_take, hdl]; omega
              have HG4 := Lib.hid hG4; have Hct := Lib.hid hct; have Hlen := Lib.hid hlen; have Hdl := Lib.hid hdl
              have hK1 : 1 ≤ K := by omega
              clear hG4 hct hlen htk1 h2 ha hK hne hdl HG HrD
              go_wp2_with fail
              refine Hct.out.mono ?_
              rintro e w2 ⟨E, F, rfl, hE, hF, hb2⟩
              have HE := Lib.hid hE; have HF := Lib.hid hF; clear hE hF Hct
              have hu : tokV false K (.slice E K (dc - s1)) 0 = .agg #[.bool false, .int .u64 (K : Int), .slice E K (dc - s1), .int .u64 0] := rfl
              rw [hu]
              obtain ⟨htb, hbb2, hs2'⟩ := tokbox _ _ _ _ _ _ _ hb2
              have HTB := Lib.hid htb
              clear htb hb2
              obtain ⟨t0, t1, t2, t3, k0, k1, k2, k3, hlt2⟩ := HTB.out
              have hg3 := grown_put4 w2 wr.heap.size (.bool false) (.int .u64 (K : Int)) (.slice E K (dc - s1)) (.int .u64 0)
              have HO3 : Hid (Own (put4 w2 wr.heap.size (.bool false) (.int .u64 (K : Int)) (.slice E K (dc - s1)) (.int .u64 0)) 5 w.heap.size A c o) := Lib.hid (Own.same (HO.out.keep hbb2) fun g hg => by
                have h1 := own_ob HO.out g hg
                exact hg3.block g (by omega) (fun e => by cases e; omega))
              have hbel3 : Below w.heap.size w (put4 w2 wr.heap.size (.bool false) (.int .u64 (K : Int)) (.slice E K (dc - s1)) (.int .u64 0)) := below_put4 (hbel.trans (hbb2.mono hsz)) hsz _ _ _ _
              have hs3 : (put4 w2 wr.heap.size (.bool false) (.int .u64 (K : Int)) (.slice E K (dc - s1)) (.int .u64 0)).heap.size = w2.heap.size := by simp [put4]
              have happ := appended_lit A c w.heap.size o E K (dc - s1) w.heap.size 0 ((r.drop s1).take K) (put4 w2 wr.heap.size (.bool false) (.int .u64 (K : Int)) (.slice E K (dc - s1)) (.int .u64 0)) HO3.out (by omega) (HE.out.below (below_put4 (Below.refl w.heap.size w2) hsz _ _ _ _)) (by omega) (by rw [List.length_take]; omega)
              have Happ := Lib.hid happ
              clear happ hg3 HO HTB
              go_wp2_with fail
              refine (show Calls Tryz.prog 224 #[tokV false K (.slice E K (dc - s1)) 0, .slice A o.length c] (put4 w2 wr.heap.size (.bool false) (.int .u64 (K : Int)) (.slice E K (dc - s1)) (.int .u64 0)) _ from Happ.out).mono ?_
              rintro e w4 ⟨A2, c2, rfl, hown4, hg4⟩
              have HO4 := Lib.hid hown4
              have hbel34 := hg4.below HO3.out (by omega)
              have HF4 := Lib.hid (((HF.out.below (Below.refl w.heap.size w2)).below ((below_put4 (Below.refl w.heap.size w2) hsz _ _ _ _).trans hbel34)))
              have hbel4 := hbel3.trans hbel34
              clear Happ hown4 hg4 HO3 HF hbel34
              go_wp2
              go_roundw
              case rel => exact ⟨A2, c2, o ++ (r.drop s1).take K, (r.drop s1).drop K, F, _, _, p + 1, k, by simp, rfl, HO4, HF4, by omega, by rw [Hlen.out]; omega, HG4, hbel4, hbel4.size⟩
              case measure => simp [slen]; omega
        · have hodd : a % 2 = 1 := by omega
          rcases tk_cases (r.drop s1) with ⟨d, s2, htk2, hd, hs2, _⟩ | ⟨x, htk2, hx⟩
          · rw [hdl] at hs2
            by_cases hbad : d = 0 ∨ 4096 < d ∨ o.length < d ∨ S - o.length < a / 2 + 4
            · have hG := HG.out
              rw [eg_bad htk1 hodd htk2 hbad] at hG; simp at hG
            · have hG4 := (eg_mat (p := p) (k := k) (n := S) (out := o) htk1 hodd htk2 hbad).symm.trans HG.out
              obtain ⟨K, hK⟩ : ∃ K, K = a / 2 + 4 := ⟨_, rfl⟩
              have hct := takeToken_mat D m dc w.heap.size r a s1 d s2 (wr.alloc (.cells #[.bool false, .int .u64 0, .slice none 0 0, .int .u64 0] 230)) (HrD.out.alloc hsz _) (by simp; omega) (by omega) htk1 ha hodd htk2
              rw [← hK] at hG4 hct hbad
              have hlen : (Pm.copyN K d o).length = o.length + K := copyN_len K d o
              have HG4 := Lib.hid hG4; have Hct := Lib.hid hct; have Hlen := Lib.hid hlen
              have hb1 : 1 ≤ d ∧ d ≤ 4096 ∧ d ≤ o.length ∧ o.length + K ≤ S := by omega
              obtain ⟨hd1, hd2, hd3, hoK⟩ := hb1
              clear hG4 hct hlen htk1 h2 ha hK hne hdl hodd hbad htk2 hd HG HrD
              go_wp2_with fail
              refine Hct.out.mono ?_
              rintro e w2 ⟨F, rfl, hF, hb2⟩
              have HF := Lib.hid hF; clear hF Hct
              have hu : tokV true K (.slice none 0 0) d = .agg #[.bool true, .int .u64 (K : Int), .slice none 0 0, .int .u64 (d : Int)] := rfl
              rw [hu]
              obtain ⟨htb, hbb2, hs2'⟩ := tokbox _ _ _ _ _ _ _ hb2
              have HTB := Lib.hid htb
              clear htb hb2
              obtain ⟨t0, t1, t2, t3, k0, k1, k2, k3, hlt2⟩ := HTB.out
              have hg3 := grown_put4 w2 wr.heap.size (.bool true) (.int .u64 (K : Int)) (.slice none 0 0) (.int .u64 (d : Int))
              have HO3 : Hid (Own (put4 w2 wr.heap.size (.bool true) (.int .u64 (K : Int)) (.slice none 0 0) (.int .u64 (d : Int))) 5 w.heap.size A c o) := Lib.hid (Own.same (HO.out.keep hbb2) fun g hg => by
                have h1 := own_ob HO.out g hg
                exact hg3.block g (by omega) (fun e => by cases e; omega))
              have hbel3 : Below w.heap.size w (put4 w2 wr.heap.size (.bool true) (.int .u64 (K : Int)) (.slice none 0 0) (.int .u64 (d : Int))) := below_put4 (hbel.trans (hbb2.mono hsz)) hsz _ _ _ _
              have hs3 : (put4 w2 wr.heap.size (.bool true) (.int .u64 (K : Int)) (.slice none 0 0) (.int .u64 (d : Int))).heap.size = w2.heap.size := by simp [put4]
              have happ := appended_mat A c w.heap.size o K d (put4 w2 wr.heap.size (.bool true) (.int .u64 (K : Int)) (.slice none 0 0) (.int .u64 (d : Int))) HO3.out (by omega) (by omega) (by omega) (by omega) (by omega)
              have Happ := Lib.hid happ
              clear happ hg3 HO HTB
              go_wp2_with fail
              refine (show Calls Tryz.prog 224 #[tokV true K (.slice none 0 0) d, .slice A o.length c] (put4 w2 wr.heap.size (.bool true) (.int .u64 (K : Int)) (.slice none 0 0) (.int .u64 (d : Int))) _ from Happ.out).mono ?_
              rintro e w4 ⟨A2, c2, rfl, hown4, hg4⟩
              have HO4 := Lib.hid hown4
              have hbel34 := hg4.below HO3.out (by omega)
              have HF4 := Lib.hid (((HF.out.below (Below.refl w.heap.size w2)).below ((below_put4 (Below.refl w.heap.size w2) hsz _ _ _ _).trans hbel34)))
              have hbel4 := hbel3.trans hbel34
              clear Happ hown4 hg4 HO3 HF hbel34
              go_wp2
              go_roundw
              case rel => exact ⟨A2, c2, Pm.copyN K d o, (r.drop s1).drop s2, F, _, _, p, k + 1, rfl, rfl, HO4, HF4, by omega, by rw [Hlen.out]; omega, HG4, hbel4, hbel4.size⟩
              case measure => simp [slen]; omega
          · have hG := HG.out
            rw [eg_err2 htk1 hodd htk2 hx] at hG; simp at hG; omega
      · have hG := HG.out
        rw [eg_err1 hne htk1 hx] at hG; simp at hG; omega
end Go.Proofs.YtknmhdkomjjneaaGreatDoor.Cht

/-
  press.Expand and press.Marks.
-/

namespace Go.Proofs.YtknmhdkomjjneaaGreatDoor.Cht
open Go.RowKit

/-- A row of bytes and an error. -/
def RetX (base : Nat) (w : World) (out : List UInt8) (x : Nat) (e : Ending) (w' : World) : Prop :=
  ∃ A c, e = .returned (.tuple #[.slice A out.length c, .int .i64 (x : Int)]) ∧ Own w' 5 base A c out ∧ Below base w w'

set_option maxRecDepth 100000 in
/-- press.Expand -/
theorem expand_c (A : Option Addr) (n c : Nat) (l : List UInt8) (most : Int) (w : World) (hr : Rb w w.heap.size A n c l) (hn : n ≤ 900000) (hm : I64 most) (hsm : ∀ S s, Vm.tk l = (S, s, 0) → (S : Int) ≤ most → S ≤ 2147483647) :
    Calls Tryz.prog 164 #[.slice A n c, .int .i64 most] w (RetX w.heap.size w (Pm.expS l most).1 (Pm.expS l most).2.2.2) := by
  have hsv := surveyed_c A n c w.heap.size l most w hr (Nat.le_refl _) hn hm
  have Hsv := Lib.hid hsv; have Hsm := Lib.hid hsm; have Hm := Lib.hid hm
  have hl := hr.len
  have Hl := Lib.hid hl
  clear hsv hsm hm hr hl
  obtain ⟨X, hX⟩ : ∃ X, X = Pm.expS l most := ⟨_, rfl⟩
  rw [← hX]
  have HX := Lib.hid hX; clear hX
  go_enter Tryz.func164, Tryz.ntmps164
  go_wp2_with fail
  refine Hsv.out.mono ?_
  rintro e w1 ⟨hb1, ⟨S, s, D, out, p, k, htk, hexp, hgo, rfl, hr1, ⟨h3, h4⟩, _, _⟩ | ⟨x, hexp, hx0, hx100, rfl⟩⟩
  · have hS := Hsm.out S s htk h4
    obtain rfl : X = (out, p, k, 0) := HX.out.trans hexp
    have hs1 := hb1.size
    have Hgo := Lib.hid hgo; have Hr1 := Lib.hid hr1; have Htk := Lib.hid htk
    clear hgo hr1 htk hexp HX Hsv Hsm
    have hne : (S : Int) ≤ 2147483647 := by omega
    unfold surV
    obtain ⟨m, hm⟩ : ∃ m, m = n - s := ⟨_, rfl⟩
    have hmn : m ≤ n := by omega
    rw [← hm] at Hr1 ⊢
    clear hm
    go_wp2_with fail
    refine (show Calls Tryz.prog 197 #[surV S (.slice D m (c - s)) p k] _ _ from expanded_c S m (c - s) p k p k D (l.drop s) out _ ((Hr1.out.alloc hs1 _).more (by simp; omega)) (by omega) hS Hgo.out).mono ?_
    rintro e w2 ⟨A2, c2, rfl, hown2, hb2⟩
    have hs2 := hb2.size
    go_wp2
    go_ret2
    refine ⟨A2, c2, rfl, hown2.mono (by simp; omega), (hb1.trans ((Below.refl _ _).alloc hs1 _)).trans (hb2.mono (by simp; omega))⟩
  · obtain rfl : X = ([], 0, 0, x) := HX.out.trans hexp
    have hx0' : ((x : Int) == 0) = false := by simp; omega
    clear hexp HX Hsv Hsm
    unfold surV
    go_wp2
    go_ret2
    exact ⟨none, 0, rfl, Own.nil _ _ _, hb1.trans ((Below.refl _ _).alloc hb1.size _)⟩

end Go.Proofs.YtknmhdkomjjneaaGreatDoor.Cht
