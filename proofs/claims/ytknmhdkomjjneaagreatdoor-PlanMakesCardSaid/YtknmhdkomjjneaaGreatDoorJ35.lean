/-
  Joined: P4 P5 P7 P16 P18 P14 P15.
-/
import Derived.Test.YtknmhdkomjjneaaGreatDoorJ7
import Derived.Test.YtknmhdkomjjneaaGreatDoorJ6
import Derived.Maps.GroupsBeside
import Derived.Test.YtknmhdkomjjneaaGreatDoorJ5
import Derived.Test.YtknmhdkomjjneaaGreatDoorJ2
import Derived.BigQuiet
/-
  The map of places: what it holds once the first m places are noted; press.note.
-/
namespace Go.Proofs.YtknmhdkomjjneaaGreatDoor.Cht
open Go.RowKit Go.Maps Go.ChangeShapes

/-- The places below m at which the four bytes are x. -/
def posn (l : List UInt8) (m x : Nat) : List Nat := (List.range m).filter (fun p => f4 l p == x)
theorem posn_same (l : List UInt8) (m : Nat) : posn l (m + 1) (f4 l m) = posn l m (f4 l m) ++ [m] := by simp [posn, List.range_succ, List.filter_append]
theorem posn_other (l : List UInt8) (m x : Nat) (h : f4 l m ≠ x) : posn l (m + 1) x = posn l m x := by
  have : (f4 l m == x) = false := by simpa using h
  simp [posn, List.range_succ, List.filter_append, this]
def posI (l : List UInt8) (m x : Nat) : List Int := (posn l m x).map fun (p : Nat) => (p : Int)

/-- The map's datum holds the places below m. -/
def Gd (D : DataW Unit) (l : List UInt8) (m : Nat) : Prop :=
  IsMap D ∧ ∀ x : Nat, (D.atKey (.int .u32 (x : Int)) .nil = .nil ∧ posI l m x = []) ∨ D.atKey (.int .u32 (x : Int)) .nil = .slice (lits .i64 (posI l m x)) []
theorem Gd.start (l : List UInt8) : Gd (.map []) l 0 := ⟨isMap_empty, fun _ => .inl ⟨rfl, rfl⟩⟩
theorem lits_inj {q : IntKind} : ∀ {a b : List Int}, (lits q a : List (DataW Unit)) = lits q b → a = b
  | [], [], _ => rfl
  | [], _ :: _, h => by simp [lits] at h
  | _ :: _, [], h => by simp [lits] at h
  | x :: a, y :: b, h => by
    simp only [lits, List.map_cons, List.cons.injEq, DataW.lit.injEq, Lit.int.injEq, true_and] at h
    rw [h.1, lits_inj (q := q) (a := a) (b := b) h.2]
theorem Gd.at_ {D : DataW Unit} {l : List UInt8} {m : Nat} (h : Gd D l m) (x : Nat) {w : World} {base : Nat} {v : Value} {zs : List Int} (hat : D.atKey (.int .u32 (x : Int)) .nil = rowDatum .i64 v zs) (hoi : w.ownsInts base 3 .i64 v zs) : zs = posI l m x := by
  rcases hoi.datum (H := Unit) with ⟨e, rfl⟩ | e
  · rw [e] at hat
    rcases h.2 x with ⟨_, h2⟩ | h2
    · exact h2.symm
    · rw [hat] at h2; cases h2
  · rw [e] at hat
    rcases h.2 x with ⟨h1, _⟩ | h2
    · rw [hat] at h1; cases h1
    · rw [hat] at h2
      simp only [DataW.slice.injEq, and_true] at h2
      exact lits_inj h2
theorem Gd.put {D : DataW Unit} {l : List UInt8} {m : Nat} (h : Gd D l m) {w : World} {base : Nat} {v : Value} {zs : List Int} (hzs : zs = posI l m (f4 l m)) (hoi : w.ownsInts base 3 .i64 v (zs ++ [(m : Int)])) :
    Gd (D.put (.int .u32 (f4 l m : Nat)) (rowDatum .i64 v (zs ++ [(m : Int)]))) l (m + 1) := by
  refine ⟨h.1.put _ _, fun x => ?_⟩
  by_cases hx : x = f4 l m
  · subst hx
    rw [atKey_put_same h.1 (show WideAt.IsKeyLit (.int .u32 _) from trivial), hoi.datum_pos (by simp), hzs]
    refine .inr ?_
    unfold posI
    rw [posn_same, List.map_append]
    rfl
  · rw [atKey_put_other (by intro e; simp at e; omega)]
    have := h.2 x
    unfold posI at this ⊢
    rw [posn_other l m x (fun e => hx e.symm)]
    exact this

/-- Block b is the map of the places below m; no group lies in a block of which No holds. -/
structure Grp (w : World) (b : Nat) (No : Nat → Prop) (l : List UInt8) (m : Nat) (D : DataW Unit) : Prop where
  own : w.ownsGroups Tryz.prog 123 (b + 1) 3 .i64 b m D
  gd : Gd D l m
  sh : w.Shuns b No
  lt : b < w.heap.size
theorem grown_drewN (w : World) (q : Nat) (r : Option Nat) : w.grownBy (w.drewN q) r := ⟨rfl, rfl, rfl, Nat.le_refl _, fun _ _ _ => rfl⟩
theorem none_or (o : Option Nat) : o = none ∨ o ≠ none := by cases o <;> simp
theorem Grp.drewN {w : World} {b : Nat} {No : Nat → Prop} {l : List UInt8} {m : Nat} {D : DataW Unit} (h : Grp w b No l m D) (q : Nat) : Grp (w.drewN q) b No l m D :=
  ⟨h.own.kept (grown_drewN w q none) (by simp) (fun _ _ _ _ _ => none_or _), h.gd, h.sh.kept (grown_drewN w q none) h.lt (by simp), h.lt⟩
theorem Grp.start (w : World) (l : List UInt8) (No : Nat → Prop) : Grp (w.alloc (.map #[] 0)) w.heap.size No l 0 (.map []) :=
  ⟨World.ownsGroups_made _ _ _ _ _, Gd.start l, World.Shuns_made _ _, by simp⟩
/-- Another row of the call's own has grown. -/
theorem Grp.beside {w w' : World} {b : Nat} {l : List UInt8} {m : Nat} {D : DataW Unit} {A A' : Option Addr} (h : Grp w b (fun g => ob A = some g) l m D) (hne : ob A ≠ some b) (hg : Grows w w' A A') : Grp w' b (fun g => ob A' = some g) l m D ∧ ob A' ≠ some b := by
  have hlt := h.lt
  have h1 : some b ≠ ob A := fun e => hne e.symm
  have ho : w'.ownsGroups Tryz.prog 123 (b + 1) 3 .i64 b m D := h.own.kept hg.1 h1 (h.sh.rowsOff fun j hj => hj)
  have hreno : w.Shuns b (fun g => ob A' = some g) := h.sh.reno h.own fun g hg' => by
    rcases hg.2 with e | ⟨g', e, hge⟩
    · exact .inl (e ▸ hg')
    · rw [e] at hg'; cases hg'; exact .inr hge
  refine ⟨⟨ho, h.gd, hreno.kept hg.1 hlt h1, Nat.lt_of_lt_of_le hlt hg.size⟩, fun e => ?_⟩
  rcases hg.2 with e1 | ⟨g', e1, hge⟩
  · exact hne (e1 ▸ e)
  · rw [e1] at e; cases e; omega

end Go.Proofs.YtknmhdkomjjneaaGreatDoor.Cht

/-
  The longest likeness: the document's best, and the search over the places noted.
-/
namespace Go.Proofs.YtknmhdkomjjneaaGreatDoor.Cht
open Go.RowKit Go.Maps Go.ChangeShapes

theorem bestF_next (b : List UInt8) (i k d : Nat) (r : Nat × Nat) : Pm.bestF b i (k + 1) d r = Pm.bestF b i k (d + 1) (if 4 ≤ Pm.like b i d ∧ r.1 < Pm.like b i d then (Pm.like b i d, d) else r) := rfl
theorem bestF_skip (b : List UInt8) (i : Nat) (r : Nat × Nat) : ∀ m k d, m ≤ k → (∀ e, d ≤ e → e < d + m → Pm.like b i e < 4) → Pm.bestF b i k d r = Pm.bestF b i (k - m) (d + m) r
  | 0, _, _, _, _ => rfl
  | m + 1, 0, _, h, _ => by omega
  | m + 1, k + 1, d, h, hl => by
    have h0 := hl d (Nat.le_refl _) (by omega)
    rw [bestF_next, if_neg (by omega), bestF_skip b i r m k (d + 1) (by omega) (fun e h1 h2 => hl e (by omega) (by omega))]
    rw [show k + 1 - (m + 1) = k - m by omega, show d + 1 + m = d + (m + 1) by omega]

theorem posn_sorted (l : List UInt8) (m x : Nat) : (posn l m x).Pairwise (· < ·) := (List.pairwise_lt_range (n := m)).filter _
theorem posn_lt {l : List UInt8} {m x j k p q : Nat} (hj : (posn l m x)[j]? = some p) (hk : (posn l m x)[k]? = some q) (h : j < k) : p < q := by
  obtain ⟨h1, rfl⟩ := List.getElem?_eq_some_iff.1 hj
  obtain ⟨h2, rfl⟩ := List.getElem?_eq_some_iff.1 hk
  exact List.pairwise_iff_getElem.1 (posn_sorted l m x) j k h1 h2 h
theorem posn_mem {l : List UInt8} {m x p : Nat} : p ∈ posn l m x ↔ p < m ∧ f4 l p = x := by simp [posn]
theorem like_four (l : List UInt8) (i e : Nat) (hi : i + 4 ≤ l.length) (he : 1 ≤ e) (hei : e ≤ i) : 4 ≤ Pm.like l i e ↔ f4 l (i - e) = f4 l i := by
  rw [f4_same l (i - e) i (by omega) hi]
  constructor
  · intro h k hk
    have := Pm.like_eq l i e k (by omega)
    rw [this]
    congr 1
    omega
  · intro h
    exact Pm.likeF_ge l e 4 200 i (by omega) hi fun k hk => by rw [show i + k - e = i - e + k by omega]; exact (h k hk).symm

/-- The search so far: the K first places are still to be looked at. -/
structure Look (l : List UInt8) (i K d : Nat) (r : Nat × Nat) : Prop where
  b : Pm.best l i = Pm.bestF l i (min i 4096 + 1 - d) d r
  d1 : 1 ≤ d
  rem : ∀ e, d ≤ e → e ≤ i → 4 ≤ Pm.like l i e → ∃ j, j < K ∧ (posn l i (f4 l i))[j]? = some (i - e)
  lo : ∀ j, j < K → ∀ p, (posn l i (f4 l i))[j]? = some p → p + d ≤ i
  r1 : r.1 ≤ 200
  r2 : r.2 ≤ 4096
theorem Look.start (l : List UInt8) (i : Nat) (hi : i + 4 ≤ l.length) : Look l i (posn l i (f4 l i)).length 1 (0, 0) := by
  refine ⟨by unfold Pm.best; rfl, Nat.le_refl _, fun e h1 h2 h3 => ?_, fun j _ p hp => ?_, by simp, by simp⟩
  · have hm : i - e ∈ posn l i (f4 l i) := posn_mem.2 ⟨by omega, (like_four l i e hi h1 h2).1 h3⟩
    obtain ⟨j, hj⟩ := List.mem_iff_getElem?.1 hm
    exact ⟨j, (List.getElem?_eq_some_iff.1 hj).1, hj⟩
  · have := (posn_mem.1 (List.mem_of_getElem? hp)).1
    omega
theorem Look.none {l : List UInt8} {i d : Nat} {r : Nat × Nat} (h : Look l i 0 d r) : Pm.best l i = r := by
  rw [h.b]
  refine Pm.bestF_stay l i _ d r fun e h1 h2 => ?_
  rcases Nat.lt_or_ge (Pm.like l i e) 4 with h3 | h3
  · exact .inr h3
  · obtain ⟨j, hj, _⟩ := h.rem e h1 (by omega) h3; omega
theorem Look.far {l : List UInt8} {i K d p : Nat} {r : Nat × Nat} (h : Look l i (K + 1) d r) (hp : (posn l i (f4 l i))[K]? = some p) (hf : 4096 < i - p) : Pm.best l i = r := by
  rw [h.b]
  refine Pm.bestF_stay l i _ d r fun e h1 h2 => ?_
  rcases Nat.lt_or_ge (Pm.like l i e) 4 with h3 | h3
  · exact .inr h3
  · obtain ⟨j, hj, hq⟩ := h.rem e h1 (by omega) h3
    rcases Nat.lt_or_ge j K with h4 | h4
    · have := posn_lt hq hp h4; omega
    · obtain rfl : j = K := by omega
      rw [hp] at hq
      injection hq with hq
      omega
theorem Look.step {l : List UInt8} {i K d p : Nat} {r : Nat × Nat} (h : Look l i (K + 1) d r) (hi : i + 4 ≤ l.length) (hp : (posn l i (f4 l i))[K]? = some p) (hf : i - p ≤ 4096) :
    Look l i K (i - p + 1) (if r.1 < Pm.like l i (i - p) then (Pm.like l i (i - p), i - p) else r) := by
  have hlo := h.lo K (by omega) p hp
  have hd1 := h.d1
  have hm := posn_mem.1 (List.mem_of_getElem? hp)
  have h4 : 4 ≤ Pm.like l i (i - p) := (like_four l i (i - p) hi (by omega) (by omega)).2 (by rw [show i - (i - p) = p by omega]; exact hm.2)
  have hle := Pm.like_le l i (i - p)
  have hr1 := h.r1; have hr2 := h.r2
  refine ⟨?_, by omega, fun e h1 h2 h3 => ?_, fun j hj q hq => ?_, ?_, ?_⟩
  · rw [h.b, bestF_skip l i r (i - p - d) _ d (by omega) (fun e h1 h2 => ?_)]
    · rw [show min i 4096 + 1 - d - (i - p - d) = (min i 4096 + 1 - (i - p + 1)) + 1 by omega, show d + (i - p - d) = i - p by omega, bestF_next]
      by_cases hlt : r.1 < Pm.like l i (i - p)
      · rw [if_pos ⟨h4, hlt⟩, if_pos hlt]
      · rw [if_neg (fun q => hlt q.2), if_neg hlt]
    · rcases Nat.lt_or_ge (Pm.like l i e) 4 with h3 | h3
      · exact h3
      · obtain ⟨j, hj, hq⟩ := h.rem e h1 (by omega) h3
        rcases Nat.lt_or_ge j K with h5 | h5
        · have := posn_lt hq hp h5; omega
        · obtain rfl : j = K := by omega
          rw [hp] at hq
          injection hq with hq
          omega
  · obtain ⟨j, hj, hq⟩ := h.rem e (by omega) h2 h3
    refine ⟨j, ?_, hq⟩
    rcases Nat.lt_or_ge j K with h5 | h5
    · exact h5
    · obtain rfl : j = K := by omega
      rw [hp] at hq
      injection hq with hq
      omega
  · have := posn_lt hq hp hj; omega
  · split
    · exact hle
    · exact hr1
  · split
    · exact hf
    · exact hr2
end Go.Proofs.YtknmhdkomjjneaaGreatDoor.Cht

/-
  press.Press comes to the document's tokens.
-/

namespace Go.Proofs.YtknmhdkomjjneaaGreatDoor.Cht
open Go.RowKit Go.Maps Go.ChangeShapes

theorem _root_.Go.Proofs.YtknmhdkomjjneaaGreatDoor.Own.same {w w' : World} {e : TypeId} {base c : Nat} {A : Option Addr} {l : List UInt8} (h : Own w e base A c l) (hs : ∀ g, ob A = some g → w'.heap[g]? = w.heap[g]?) : Own w' e base A c l := by
  unfold Own at h ⊢
  refine ⟨h.1, ?_⟩
  rcases h.2 with hn | ⟨g, cap, cur, hv, hbg, hg, rest⟩
  · exact .inl hn
  · refine .inr ⟨g, cap, cur, hv, hbg, (hs g ?_).trans hg, rest⟩
    injection hv with hA
    rw [hA]
    rfl

end Go.Proofs.YtknmhdkomjjneaaGreatDoor.Cht

/-
  The document's expand, Expand, Marks (threshingref03) come to its words.
-/
namespace Go.Proofs.YtknmhdkomjjneaaGreatDoor.Cht
open Go.RowKit

theorem _root_.Go.Proofs.YtknmhdkomjjneaaGreatDoor.U8.wpAppAtN {P : Program} {t e s : TypeId} (u : U8 P t e s) {w : World} {ops : Array Oper} {rest : List Oper} {o : Oper} {a : Act} {Q : Exit → Act → World → Prop} (hgd : o.guard = none) (x y : Operand)
    (ho : o.op = .call { callee := .builtin .append, args := #[x, y], argTypes := #[t, t] })
    {base c B m d n N : Nat} {A D : Option Addr} {l r : List UInt8} (hn : l.length = n) (hN : (l ++ r).length = N) (hx : a.eval x = .slice A n c) (hy : a.eval y = .slice D m d) (hown : Own w e base A c l) (hr : Rb w B D m d r)
    (hsm : l.length + r.length ≤ 140737488355328) (hbase : base ≤ w.heap.size)
    (h : ∀ A' c' w', Own w' e base A' c' (l ++ r) → Grows w w' A A' → wpList P ops Q rest (a.put o.dst (.slice A' N c')) w') : wpList P ops Q (o :: rest) a w := by
  subst hn hN
  exact u.wpAppAt hgd x y ho hx hy hown hr hsm hbase h

/-- While a match is copied: the row that grows, and the rest, which is a row of its own. -/
def CopRel (W0 : World) (base : Nat) (A : Option Addr) (OUT : List UInt8) (K d olen : Nat) (F : Option Addr) (c2 : Nat) (R2 : List UInt8) (to tj : Value) (W : World) : Prop :=
  ∃ A1 c1 o1 j, to = .slice A1 (o1 : List UInt8).length c1 ∧ tj = .int .u64 ((j : Nat) : Int) ∧ j ≤ K ∧ o1.length = olen + j ∧ Hid (Own W 5 base A1 c1 o1) ∧ Hid (Pm.copyN (K - j) d o1 = OUT) ∧ Hid (Grows W0 W A A1) ∧ base ≤ W.heap.size ∧ Hid (Own W 5 base F c2 R2) ∧ Hid (∀ g, ob A1 = some g → ob F ≠ some g)
theorem prtake_ok (A : Option Addr) (n c : Nat) (l : List UInt8) (w : World) (hr : Rb w w.heap.size A n c l) (hn : n ≤ 1000000) (a s : Nat) (h : Vm.tk l = (a, s, 0)) :
    Calls Tryz.prog 83 #[.slice A n c] w fun e w' => ∃ A1 c1, e = .returned (.tuple #[.int .u64 (a : Int), .slice A1 (l.drop s).length c1, .int .i64 0]) ∧ Own w' 5 w.heap.size A1 c1 (l.drop s) ∧ Below w.heap.size w w' := by
  have h' := rtake_c A n c l w hr hn
  rw [takeS_ok l a s h] at h'
  exact h'
theorem prtake_err (A : Option Addr) (n c : Nat) (l : List UInt8) (w : World) (hr : Rb w w.heap.size A n c l) (hn : n ≤ 1000000) (x : Nat) (h : Vm.tk l = (0, 0, x)) (hx : x = 2 ∨ x = 3) :
    Calls Tryz.prog 83 #[.slice A n c] w (RetT w.heap.size w (0, [], x)) := by
  have h' := rtake_c A n c l w hr hn
  rw [takeS_err l x h hx] at h'
  exact h'

/-- Bytes, two counts, an error. -/
def RetEp (base : Nat) (w : World) (R : List UInt8 × Nat × Nat × Nat) (e : Ending) (w' : World) : Prop :=
  ∃ A c, e = .returned (.tuple #[.slice A R.1.length c, .int .i64 (R.2.1 : Int), .int .i64 (R.2.2.1 : Int), .int .i64 (R.2.2.2 : Int)]) ∧ Own w' 5 base A c R.1 ∧ Below base w w'
theorem retep_err {base : Nat} {w w' : World} {R : List UInt8 × Nat × Nat × Nat} {x : Nat} {z : Int} (h : R = ([], 0, 0, x)) (hz : z = (x : Int)) (hb : Below base w w') : RetEp base w R (.returned (.tuple #[.slice none 0 0, .int .i64 0, .int .i64 0, .int .i64 z])) w' := by
  subst h hz
  exact ⟨none, 0, rfl, Own.nil _ _ _, hb⟩

def RexpRel (base : Nat) (w : World) (S n : Nat) (RES : List UInt8 × Nat × Nat × Nat) (t0 t10 t11 t12 : Value) (wr : World) : Prop :=
  ∃ D m dc r A c out p k, t0 = .slice D m dc ∧ t10 = .slice A (out : List UInt8).length c ∧ t11 = .int .i64 ((p : Nat) : Int) ∧ t12 = .int .i64 ((k : Nat) : Int) ∧
    Hid (Rb wr wr.heap.size D m dc r) ∧ Hid (Own wr 5 base A c out) ∧ out.length ≤ S ∧ p + k + m ≤ n ∧ Hid (Pm.expGo S out r p k = RES) ∧ Below base w wr ∧ base ≤ wr.heap.size

set_option maxRecDepth 100000 in
set_option maxHeartbeats 4000000 in
/-- the document's expand -/
theorem rexpand_c (A0 : Option Addr) (n c0 : Nat) (l : List UInt8) (most : Int) (w : World) (hr : Rb w w.heap.size A0 n c0 l) (hn : n ≤ 900000) (hm : I64 most) (hmost : most ≤ 2000000) :
    Calls Tryz.prog 111 #[.slice A0 n c0, .int .i64 most] w (RetEp w.heap.size w (Pm.expS l most)) := by
  have hl := hr.len
  rcases tk_cases l with ⟨S, s, htk, hS, hs, hs10⟩ | ⟨x, htk, hx⟩
  · by_cases h1 : most < 0 ∨ most < (S : Int)
    · have hres : Pm.expS l most = ([], 0, 0, 5) := by unfold Pm.expS; rw [htk]; dsimp only; rw [if_pos rfl, if_pos h1]
      have Hr := Lib.hid hr; have Htk := Lib.hid htk; have Hl := Lib.hid hl; have Hm := Lib.hid hm; have HS := Lib.hid hS; have Hres := Lib.hid hres; clear hr htk hl hm hS hres
      by_cases h2 : most < 0
      · clear h1
        go_enter Tryz.func111, Tryz.ntmps111
        go_wp2_with fail
        refine (prtake_ok A0 n c0 l _ Hr.out (by omega) S s Htk.out).mono ?_
        rintro e w1 ⟨A1, c1, rfl, hown1, hb1⟩
        clear hown1
        go_wp2
        refine bodyPost_ret (v := .tuple #[.slice none 0 0, .int .i64 0, .int .i64 0, .int .i64 5]) ?_ rfl (retep_err Hres.out rfl hb1)
        simp [results, Tryz.results111, go_sem]
      · have h3 : 0 ≤ most := by omega
        have h4 : most < (S : Int) := by omega
        have hw : IntKind.u64.wrap most = most := by have := Hm.out; unfold I64 at this; rw [IntKind.wrap_u64]; omega
        clear h1 h2
        go_enter Tryz.func111, Tryz.ntmps111
        go_wp2_with fail
        refine (prtake_ok A0 n c0 l _ Hr.out (by omega) S s Htk.out).mono ?_
        rintro e w1 ⟨A1, c1, rfl, hown1, hb1⟩
        clear hown1
        go_wp2
        refine bodyPost_ret (v := .tuple #[.slice none 0 0, .int .i64 0, .int .i64 0, .int .i64 5]) ?_ rfl (retep_err Hres.out rfl hb1)
        simp [results, Tryz.results111, go_sem]
    · have h3 : 0 ≤ most := by omega
      have h4 : (S : Int) ≤ most := by omega
      have hS2 : S ≤ 2000000 := by omega
      have hw : IntKind.u64.wrap most = most := by unfold I64 at hm; rw [IntKind.wrap_u64]; omega
      obtain ⟨RES, hRES⟩ : ∃ RES, RES = Pm.expGo S [] (l.drop s) 0 0 := ⟨_, rfl⟩
      have hres : Pm.expS l most = RES := by unfold Pm.expS; rw [htk]; dsimp only; rw [if_pos rfl, if_neg h1, hRES]
      have hdl : (l.drop s).length = n - s := by rw [List.length_drop, hl]
      have Hr := Lib.hid hr; have Htk := Lib.hid htk; have Hl := Lib.hid hl; have Hres := Lib.hid hres; have HRES := Lib.hid hRES; have Hdl := Lib.hid hdl; clear hr htk hl hm hS hres hRES h1 hdl
      go_enter Tryz.func111, Tryz.ntmps111
      go_wp2_with fail
      refine (prtake_ok A0 n c0 l _ Hr.out (by omega) S s Htk.out).mono ?_
      rintro e w1 ⟨A1, c1, rfl, hown1, hb1⟩
      have hs1 := hb1.size
      rw [Hdl.out]
      have HrD := Lib.hid ((rb_len hown1.rb Hdl.out).more (B' := (w1.alloc (.cells #[] 5)).heap.size) (by simp))
      have HrD1 := Lib.hid (((rb_len hown1.rb Hdl.out).alloc (Nat.le_refl _) (.cells #[] 5)).more (B' := (w1.alloc (.cells #[] 5)).heap.size) (by simp))
      have hb01 : Below w.heap.size w (w1.alloc (.cells #[] 5)) := hb1.alloc hs1 _
      clear hown1 HrD
      obtain ⟨m0, hm0⟩ : ∃ m0, m0 = n - s := ⟨_, rfl⟩
      have hm0n : m0 ≤ n := by omega
      rw [← hm0] at HrD1 ⊢
      clear hm0
      go_wp2
      go_loopw [0, 10, 11, 12] (fun t0 t10 t11 t12 wr => RexpRel w.heap.size w S n RES t0 t10 t11 t12 wr) (fun t0 _ _ _ _ => slen t0)
      case atStart => exact ⟨A1, m0, c1, l.drop s, _, 0, [], 0, 0, rfl, rfl, rfl, rfl, HrD1, Lib.hid ((Own.made0 w1 _).mono hs1), by simp, by omega, HRES.out.symm, hb01, by simp; omega⟩
      case round =>
        obtain ⟨D, m, dc, r, A, c, out, p, k, rfl, rfl, rfl, rfl, HrD, HO, hoS, hpk, HG, hbel, hsz⟩ := hrel
        have hrl := HrD.out.len
        have Hrl := Lib.hid hrl; clear hrl
        obtain ⟨o, ho⟩ : ∃ o, o = out.length := ⟨_, rfl⟩
        rw [← ho] at hoS ⊢
        have Ho := Lib.hid ho; clear ho
        by_cases hmz : m = 0
        · subst hmz
          obtain rfl : r = [] := List.eq_nil_of_length_eq_zero Hrl.out
          by_cases hfew : o < S
          · have hfew' : (o : Int) < (S : Int) := by omega
            go_wp2
            refine bodyPost_ret (v := .tuple #[.slice none 0 0, .int .i64 0, .int .i64 0, .int .i64 3]) ?_ rfl (retep_err (Hres.out.trans (HG.out.symm.trans (eg_nil_few (by rw [← Ho.out]; exact hfew)))) rfl hbel)
            simp [results, Tryz.results111, go_sem]
          · have hfew' : (S : Int) ≤ (o : Int) := by omega
            have hR := Hres.out.trans (HG.out.symm.trans (eg_nil (by rw [← Ho.out]; exact hfew)))
            have HR := Lib.hid hR; clear hR
            go_wp2
            refine bodyPost_ret (v := .tuple #[.slice A o c, .int .i64 (p : Int), .int .i64 (k : Int), .int .i64 0]) ?_ rfl ⟨A, c, ?_, ?_, hbel⟩
            · simp [results, Tryz.results111, go_sem]
            · rw [HR.out]; dsimp only; rw [← Ho.out]; rfl
            · rw [HR.out]; exact HO.out
        · have hmp : 0 < m := by omega
          have hne : r ≠ [] := by intro e; rw [e] at Hrl; have := Hrl.out; simp at this; omega
          rcases tk_cases r with ⟨a, s1, htk1, ha, hs1', _⟩ | ⟨x, htk1, hx⟩
          · have hs1p : 1 ≤ s1 := by have := Pm.tk_pos r (by rw [htk1]); rw [htk1] at this; exact this
            have hs1m : s1 ≤ m := by have := Hrl.out; omega
            have Htk1 := Lib.hid htk1
            clear hne htk1
            by_cases h2 : a % 2 = 0
            · have h2' : (((a : Int) % 2) == 0) = true := by simp; omega
              have H2 := Lib.hid h2; clear h2
              go_wp2_with fail
              refine (prtake_ok D m dc r _ HrD.out (by omega) a s1 Htk1.out).mono ?_
              rintro e w2 ⟨A1, c1, rfl, hown1, hb1⟩
              have hs1z := hb1.size
              have hbel1 := hbel.trans (hb1.mono hsz)
              have HO1 := Lib.hid (HO.out.keep hb1)
              have Hob : Hid (∀ g, ob A = some g → g < wr.heap.size) := Lib.hid (fun g h => (own_ob HO.out g h).2)
              obtain ⟨R, hR⟩ : ∃ R, R = r.drop s1 := ⟨_, rfl⟩
              obtain ⟨mR, hmR⟩ : ∃ mR, mR = m - s1 := ⟨_, rfl⟩
              have hRl : (r.drop s1).length = mR := by rw [List.length_drop, Hrl.out, hmR]
              rw [hRl]
              rw [← hR] at hown1 hRl
              have HRo := Lib.hid hown1; have HR := Lib.hid hR; have HmR := Lib.hid hmR; have HRl := Lib.hid hRl
              have hmRm : mR + 1 ≤ m := by omega
              clear hown1 hb1 hR hmR hRl HO
              by_cases hsh : mR < a / 2 + 1
              · have hsh' : (mR : Int) < (a : Int) / 2 + 1 := by omega
                go_wp2
                refine bodyPost_ret (v := .tuple #[.slice none 0 0, .int .i64 0, .int .i64 0, .int .i64 2]) ?_ rfl (retep_err (Hres.out.trans (HG.out.symm.trans (eg_short Htk1.out H2.out (by rw [List.length_drop, Hrl.out, ← HmR.out]; exact hsh)))) rfl hbel1)
                simp [results, Tryz.results111, go_sem]
              · have hsh' : (a : Int) / 2 + 1 ≤ (mR : Int) := by omega
                obtain ⟨K, hK⟩ : ∃ K, K = a / 2 + 1 := ⟨_, rfl⟩
                have hKz : (a : Int) / 2 + 1 = (K : Int) := by omega
                have hKm : K ≤ mR := by omega
                have hK1 : 1 ≤ K := by omega
                have hgo := fun ho => eg_over (p := p) (k := k) (n := S) (out := out) Htk1.out H2.out (by rw [List.length_drop, Hrl.out, ← HmR.out]; exact hsh) ho
                have hgl := fun ho => eg_lit (p := p) (k := k) (n := S) (out := out) Htk1.out H2.out (by rw [List.length_drop, Hrl.out, ← HmR.out]; exact hsh) ho
                rw [← hK, ← Ho.out] at hgo hgl
                rw [← HR.out] at hgl
                have Hgo := Lib.hid hgo; have Hgl := Lib.hid hgl
                clear hgo hgl hsh
                obtain ⟨E, hE, hrE⟩ := bty.upto_ (rb_len HRo.out.rb HRl.out) (k := K) hKm (K : Int) rfl
                have HE := Lib.hid hrE
                have Hout : Hid (out.length = o) := Ho.out.symm
                have hlr : (R.take K).length = K := by rw [List.length_take, HRl.out]; omega
                have Hlr := Lib.hid hlr
                have ha2 : a ≤ 2000000 := by omega
                have hlen3 : (out ++ R.take K).length = o + K := by rw [List.length_append, Hlr.out, Hout.out]
                have Hlen3 := Lib.hid hlen3
                clear hrE hK hlr hlen3
                go_wp2_with (at_builtin; go_must (refine bty.wpAppAtN rfl (.tmp 60) (.tmp 65) rfl (l := out) (r := R.take K) Hout.out Hlen3.out rfl rfl HO1.out HE.out ?hs1 ?hs2 ?_))
                case hs1 => rw [Hlr.out, Hout.out]; omega
                case hs2 => omega
                intro A3 c3 w3 hown3 hg3
                have hbel3 := hbel1.trans (hg3.below HO1.out (by omega))
                have HRo3 := Lib.hid (Own.same HRo.out fun g hg => hg3.1.block g (own_ob HRo.out g hg).2 (fun e => by
                  have h5 := own_ob HRo.out g hg
                  have h6 := Hob.out g e.symm
                  omega))
                have hs3 := hg3.size
                have HO3 := Lib.hid hown3
                clear hown3 hg3 HO1 HRo
                obtain ⟨F, hF, hrF⟩ := bty.from_ (rb_len HRo3.out.rb HRl.out) (k := K) hKm (K : Int) rfl
                have HF := Lib.hid hrF; clear hrF
                by_cases hov : S < o + K
                · have hov' : (S : Int) < (o : Int) + (K : Int) := by omega
                  go_wp2
                  refine bodyPost_ret (v := .tuple #[.slice none 0 0, .int .i64 0, .int .i64 0, .int .i64 3]) ?_ rfl (retep_err (Hres.out.trans (HG.out.symm.trans (Hgo.out hov))) rfl hbel3)
                  simp [results, Tryz.results111, go_sem]
                · have hov' : (o : Int) + (K : Int) ≤ (S : Int) := by omega
                  have HG4 := Lib.hid ((Hgl.out hov).symm.trans HG.out)
                  go_wp2
                  go_roundw
                  case rel => exact ⟨F, mR - K, c1 - K, R.drop K, A3, c3, out ++ R.take K, p + 1, k, rfl, by rw [Hlen3.out], by go_num, rfl, HF, HO3, by rw [Hlen3.out]; omega, by omega, HG4, hbel3, hbel3.size⟩
                  case measure => simp [slen]; omega
            · have hodd : a % 2 = 1 := by omega
              have h2' : (((a : Int) % 2) == 0) = false := by simp; omega
              have Hodd := Lib.hid hodd; clear h2 hodd
              go_wp2_with fail
              refine (prtake_ok D m dc r _ HrD.out (by omega) a s1 Htk1.out).mono ?_
              rintro e w2 ⟨A1, c1, rfl, hown1, hb1⟩
              have hs1z := hb1.size
              have hbel1 := hbel.trans (hb1.mono hsz)
              have HO1 := Lib.hid (HO.out.keep hb1)
              have Hob : Hid (∀ g, ob A = some g → g < wr.heap.size) := Lib.hid (fun g h => (own_ob HO.out g h).2)
              obtain ⟨R, hR⟩ : ∃ R, R = r.drop s1 := ⟨_, rfl⟩
              obtain ⟨mR, hmR⟩ : ∃ mR, mR = m - s1 := ⟨_, rfl⟩
              have hRl : (r.drop s1).length = mR := by rw [List.length_drop, Hrl.out, hmR]
              rw [hRl]
              rw [← hR] at hown1 hRl
              have HRo := Lib.hid hown1; have HR := Lib.hid hR; have HmR := Lib.hid hmR; have HRl := Lib.hid hRl
              have hmRm : mR + 1 ≤ m := by omega
              clear hown1 hb1 hR hmR hRl HO
              rcases tk_cases R with ⟨d, s2, htk2, hd, hs2, _⟩ | ⟨x, htk2, hx⟩
              · have Htk2 := Lib.hid htk2
                have hs2m : s2 ≤ mR := by have := HRl.out; omega
                clear htk2 hs2
                obtain ⟨K, hK⟩ : ∃ K, K = a / 2 + 4 := ⟨_, rfl⟩
                have hgb := fun hb => eg_bad (p := p) (k := k) (n := S) (out := out) Htk1.out Hodd.out (by rw [← HR.out]; exact Htk2.out) hb
                have hgm := fun hb => eg_mat (p := p) (k := k) (n := S) (out := out) Htk1.out Hodd.out (by rw [← HR.out]; exact Htk2.out) hb
                rw [← hK, ← Ho.out] at hgb hgm
                rw [← HR.out] at hgm
                have Hgb := Lib.hid hgb; have Hgm := Lib.hid hgm; have HK := Lib.hid hK
                have hKz : (a : Int) / 2 + 4 = (K : Int) := by omega
                have HKz := Lib.hid hKz
                clear hgb hgm hK hKz
                go_wp2_with fail
                refine (prtake_ok A1 mR c1 R _ (rb_len HRo.out.rb HRl.out) (by omega) d s2 Htk2.out).mono ?_
                rintro e w3 ⟨A2, c2, rfl, hown2, hb2⟩
                have hs2z := hb2.size
                have hbel2 := hbel1.trans (hb2.mono (by omega))
                have HO2 := Lib.hid (HO1.out.keep hb2)
                obtain ⟨R2, hR2⟩ : ∃ R2, R2 = R.drop s2 := ⟨_, rfl⟩
                obtain ⟨m2, hm2⟩ : ∃ m2, m2 = mR - s2 := ⟨_, rfl⟩
                have hR2l : (R.drop s2).length = m2 := by rw [List.length_drop, HRl.out, hm2]
                rw [hR2l]
                rw [← hR2] at hown2 hR2l
                have HRo2 := Lib.hid hown2; have HR2 := Lib.hid hR2; have HR2l := Lib.hid hR2l
                have hm2m : m2 ≤ mR := by omega
                clear hown2 hb2 hR2 hm2 hR2l HRo
                by_cases b1 : d = 0
                · have b1' : ((d : Int) == 0) = true := by simp; omega
                  have B1 := Lib.hid b1; clear b1
                  go_wp2
                  refine bodyPost_ret (v := .tuple #[.slice none 0 0, .int .i64 0, .int .i64 0, .int .i64 3]) ?_ rfl (retep_err (Hres.out.trans (HG.out.symm.trans (Hgb.out (.inl B1.out)))) rfl hbel2)
                  simp [results, Tryz.results111, go_sem]
                · have b1' : ((d : Int) == 0) = false := by simp; omega
                  have B1 := Lib.hid b1; clear b1
                  by_cases b2 : 4096 < d
                  · have b2' : (4096 : Int) < (d : Int) := by omega
                    go_wp2
                    refine bodyPost_ret (v := .tuple #[.slice none 0 0, .int .i64 0, .int .i64 0, .int .i64 3]) ?_ rfl (retep_err (Hres.out.trans (HG.out.symm.trans (Hgb.out (.inr (.inl b2))))) rfl hbel2)
                    simp [results, Tryz.results111, go_sem]
                  · have b2' : (d : Int) ≤ 4096 := by omega
                    by_cases b3 : o < d
                    · have b3' : (o : Int) < (d : Int) := by omega
                      go_wp2
                      refine bodyPost_ret (v := .tuple #[.slice none 0 0, .int .i64 0, .int .i64 0, .int .i64 3]) ?_ rfl (retep_err (Hres.out.trans (HG.out.symm.trans (Hgb.out (.inr (.inr (.inl b3)))))) rfl hbel2)
                      simp [results, Tryz.results111, go_sem]
                    · have b3' : (d : Int) ≤ (o : Int) := by omega
                      by_cases b4 : S - o < K
                      · have b4' : (S : Int) - (o : Int) < (a : Int) / 2 + 4 := by have := HKz.out; omega
                        go_wp2
                        refine bodyPost_ret (v := .tuple #[.slice none 0 0, .int .i64 0, .int .i64 0, .int .i64 3]) ?_ rfl (retep_err (Hres.out.trans (HG.out.symm.trans (Hgb.out (.inr (.inr (.inr b4)))))) rfl hbel2)
                        simp [results, Tryz.results111, go_sem]
                      · have b4' : (a : Int) / 2 + 4 ≤ (S : Int) - (o : Int) := by have := HKz.out; omega
                        have HG4 := Lib.hid ((Hgm.out (by have := B1.out; omega)).symm.trans HG.out)
                        have hoK : o + K ≤ S := by omega
                        have hd1 : 1 ≤ d := by have := B1.out; omega
                        have hd2 : d ≤ 4096 := by omega
                        have hd3 : d ≤ o := by omega
                        have ha2 : a ≤ 4000000 := by have := HKz.out; omega
                        obtain ⟨OUT, hOUT⟩ : ∃ OUT, OUT = Pm.copyN K d out := ⟨_, rfl⟩
                        rw [← hOUT] at HG4
                        have hOl : OUT.length = o + K := by rw [hOUT, copyN_len, ← Ho.out]
                        have HOUT := Lib.hid hOUT; have HOl := Lib.hid hOl
                        clear hOUT hOl b2 b3 b4
                        have q2 : decide ((4096 : Int) < (d : Int)) = false := by simp; omega
                        have q3 : decide (o < d) = false := by simp; omega
                        have q4 : decide ((o : Int) < (d : Int)) = false := by simp; omega
                        have q5 : decide ((S : Int) - (o : Int) < (a : Int) / 2 + 4) = false := by simp; omega
                        go_wp2
                        have Hd3 := Lib.hid hd3; have HoK := Lib.hid hoK
                        have hd5 : d ≤ 1000000 := by omega
                        clear hd3 hoK hd2 b2' b3' b4'
                        go_loopw [10, 19] (fun to tj W => CopRel w3 w.heap.size A OUT K d o A2 c2 R2 to tj W) (fun _ tj _ => K - (intOf tj).toNat)
                        case atStart => exact ⟨A, c, out, 0, by rw [Ho.out], rfl, by omega, by rw [← Ho.out]; rfl, HO2, Lib.hid (by rw [HOUT.out, Nat.sub_zero]), Lib.hid (Grows.refl _ _), by omega, Lib.hid (HRo2.out.mono (by omega)), Lib.hid (fun q g h => by have h7 := own_ob HRo2.out q h; have h8 := Hob.out q g; omega)⟩
                        case round =>
                          obtain ⟨A3, c3, o1, j, rfl, rfl, hj, hlen, HOw, HC, HGr, hsz3, HF3, HNe⟩ := hrel
                          have hs3z := HGr.out.size
                          have Hlen := Lib.hid hlen; clear hlen
                          by_cases hjK : j < K
                          · have hjK' : (j : Int) < (a : Int) / 2 + 4 := by have := HKz.out; omega
                            have hpos : 0 < o1.length := by have := Hlen.out; have := Hd3.out; omega
                            have hdl : d ≤ o1.length := by have := Hlen.out; have := Hd3.out; omega
                            have hls : o1.length ≤ 2000000 := by have := Hlen.out; have := HoK.out; omega
                            obtain ⟨g, rfl, hgb⟩ := HOw.out.at_base hpos
                            obtain ⟨x, hx⟩ : ∃ x, o1[o1.length - d]? = some x := ⟨_, List.getElem?_eq_getElem (by omega)⟩
                            have hc := HOw.out.cellAt _ x hx
                            have hcopy : Hid (Pm.copyN (K - (j + 1)) d (o1 ++ [x]) = OUT) := by
                              have h1 := HC.out
                              rw [show K - j = (K - (j + 1)) + 1 by omega, Pm.copyN, getD_of' hx] at h1
                              exact h1
                            have Hx := Lib.hid hx; clear hx HC
                            have p1 : (0 : Int) ≤ (o1.length : Int) - (d : Int) := by omega
                            have p2 : (o1.length : Int) - (d : Int) < (o1.length : Int) := by omega
                            have e1 : ((o1.length : Int) - (d : Int)).toNat = o1.length - d := by omega
                            go_wp2_with (at_builtin; go_must (refine bty.wpAppAt rfl (.tmp 114) (.tmp 123) rfl (l := o1) (r := [x]) rfl rfl (HOw.out.alloc _) (Rb.one _ _ x) ?hs1 ?hs2 ?_))
                            case hs1 => simp; omega
                            case hs2 => simp; omega
                            intro A4 c4 w4 hown4 hg4
                            have hg5 := Grows.pre ((Below.refl _ _).alloc (Nat.le_refl _) _) hg4
                            have HO4 := Lib.hid hown4
                            have HF4 := Lib.hid (Own.same HF3.out fun g' hg' => hg5.1.block g' (own_ob HF3.out g' hg').2 (fun e => HNe.out g' e.symm hg'))
                            have HNe4 : Hid (∀ g', ob A4 = some g' → ob A2 ≠ some g') := Lib.hid (fun g' hq hF => by
                              rcases hg5.2 with e | ⟨g2, e, hge⟩
                              · exact HNe.out g' (e ▸ hq) hF
                              · rw [e] at hq; cases hq
                                have := (own_ob HF3.out _ hF).2
                                omega)
                            have HG5 := Lib.hid (HGr.out.trans hg5)
                            have hs5 := hg5.size
                            clear hown4 hg4 hg5 HOw HF3 HNe HGr hc
                            go_wp2
                            go_roundw
                            case rel => exact ⟨A4, c4, o1 ++ [x], j + 1, by simp, by go_num, by omega, by rw [List.length_append, Hlen.out]; simp; omega, HO4, hcopy, HG5, by omega, HF4, HNe4⟩
                            case measure => simp [intOf]; omega
                          · have hjK' : (a : Int) / 2 + 4 ≤ (j : Int) := by have := HKz.out; omega
                            obtain rfl : j = K := by omega
                            have h1 := HC.out
                            rw [Nat.sub_self] at h1
                            have h2 : o1 = OUT := h1
                            subst h2
                            have hbel4 := hbel2.trans (HGr.out.below HO2.out (by omega))
                            have HFr := Lib.hid (rb_len HF3.out.rb HR2l.out)
                            have hoK2 : (o : Int) + (j : Int) ≤ (S : Int) := by have := HoK.out; omega
                            have hol := HOl.out
                            have Hol := Lib.hid hol
                            rw [hol]
                            clear hol
                            go_wp2
                            go_roundw
                            case rel => exact ⟨A2, m2, c2, R2, A3, c3, o1, p, k + 1, rfl, by rw [Hol.out], rfl, by go_num, HFr, HOw, by rw [Hol.out]; exact HoK.out, by omega, by rw [HR2.out]; exact HG4, hbel4, hbel4.size⟩
                            case measure => simp [slen]; omega
              · have hx0 : ((x : Int) == 0) = false := by simp; omega
                have hx1 : 2 ≤ x := by omega
                have Htk2 := Lib.hid htk2; have Hx := Lib.hid hx
                clear htk2 hx
                go_wp2_with fail
                refine (prtake_err A1 mR c1 R _ (rb_len HRo.out.rb HRl.out) (by omega) x Htk2.out Hx.out).mono ?_
                rintro e w3 ⟨A2, c2, rfl, hown2, hb2⟩
                have hbel2 := hbel1.trans (hb2.mono (by omega))
                clear hown2 hb2
                go_wp2
                refine bodyPost_ret (v := .tuple #[.slice none 0 0, .int .i64 0, .int .i64 0, .int .i64 (x : Int)]) ?_ rfl (retep_err (Hres.out.trans (HG.out.symm.trans (eg_err2 Htk1.out Hodd.out (by rw [← HR.out]; exact Htk2.out) Hx.out))) rfl hbel2)
                simp [results, Tryz.results111, go_sem]
          · have hx0 : ((x : Int) == 0) = false := by simp; omega
            have hx1 : 2 ≤ x := by omega
            have Htk1 := Lib.hid htk1; have Hx := Lib.hid hx; have Hne := Lib.hid hne
            clear htk1 hx hne
            go_wp2_with fail
            refine (prtake_err D m dc r _ HrD.out (by omega) x Htk1.out Hx.out).mono ?_
            rintro e w2 ⟨A1, c1, rfl, hown1, hb1⟩
            have hbel1 := hbel.trans (hb1.mono hsz)
            clear hown1 hb1
            go_wp2
            refine bodyPost_ret (v := .tuple #[.slice none 0 0, .int .i64 0, .int .i64 0, .int .i64 (x : Int)]) ?_ rfl (retep_err (Hres.out.trans (HG.out.symm.trans (eg_err1 Hne.out Htk1.out Hx.out))) rfl hbel1)
            simp [results, Tryz.results111, go_sem]

  · have hres : Pm.expS l most = ([], 0, 0, x) := by unfold Pm.expS; rw [htk]; dsimp only; rw [if_neg (by omega)]
    have hx0 : ((x : Int) == 0) = false := by simp; omega
    have Hr := Lib.hid hr; have Htk := Lib.hid htk; have Hx := Lib.hid hx; have Hres := Lib.hid hres; clear hr htk hx hres hl hm
    go_enter Tryz.func111, Tryz.ntmps111
    go_wp2_with fail
    refine (prtake_err A0 n c0 l _ Hr.out (by omega) x Htk.out Hx.out).mono ?_
    rintro e w1 ⟨A1, c1, rfl, hown1, hb1⟩
    clear hown1
    go_wp2
    refine bodyPost_ret (v := .tuple #[.slice none 0 0, .int .i64 0, .int .i64 0, .int .i64 (x : Int)]) ?_ rfl (retep_err Hres.out rfl hb1)
    simp [results, Tryz.results111, go_sem]
end Go.Proofs.YtknmhdkomjjneaaGreatDoor.Cht

/-
  The document's Expand and Marks (threshingref03).
-/

namespace Go.Proofs.YtknmhdkomjjneaaGreatDoor.Cht
open Go.RowKit

/-- Bytes and an error. -/
def RetY (base : Nat) (w : World) (out : List UInt8) (x : Nat) (e : Ending) (w' : World) : Prop :=
  ∃ A c, e = .returned (.tuple #[.slice A out.length c, .int .i64 (x : Int)]) ∧ Own w' 5 base A c out ∧ Below base w w'

set_option maxRecDepth 100000 in
/-- the document's Expand -/
theorem rExpand_c (A0 : Option Addr) (n c0 : Nat) (l : List UInt8) (most : Int) (w : World) (hr : Rb w w.heap.size A0 n c0 l) (hn : n ≤ 900000) (hm : I64 most) (hmost : most ≤ 2000000) :
    Calls Tryz.prog 84 #[.slice A0 n c0, .int .i64 most] w (RetY w.heap.size w (Pm.expS l most).1 (Pm.expS l most).2.2.2) := by
  have h := rexpand_c A0 n c0 l most w hr hn hm hmost
  obtain ⟨X, hX⟩ : ∃ X, X = Pm.expS l most := ⟨_, rfl⟩
  rw [← hX] at h ⊢
  obtain ⟨out, p, k, x⟩ := X
  unfold RetEp at h
  dsimp only at h ⊢
  have H := Lib.hid h
  clear h hX hr hm hmost
  go_enter Tryz.func84, Tryz.ntmps84
  go_wp2_with fail
  refine H.out.mono ?_
  rintro e w1 ⟨A1, c1, rfl, hown1, hb1⟩
  go_wp2
  go_ret2
  exact ⟨A1, c1, rfl, hown1, hb1⟩

end Go.Proofs.YtknmhdkomjjneaaGreatDoor.Cht

/-
  press.expanded, Expand, Marks.
-/

namespace Go.Proofs.YtknmhdkomjjneaaGreatDoor.Cht
open Go.RowKit

theorem make_u64 (w : World) (S : Nat) (hS : S ≤ 2147483647) :
    (Instr.makeSlice 22 (.int .i64 0) (.int .u64 (S : Int))).run Tryz.prog w = .ok (.slice (some ⟨w.heap.size, 0, none⟩) 0 S) (w.alloc (.cells (zrow S) 5)) := by
  obtain ⟨i, hi, hz0, hz1, hz2⟩ := info_parts bty.inf
  have h := run_make (P := Tryz.prog) w 22 5 i (.int .u8 0) bty.sl hi hz0 .i64 .u64 0 (S : Int) (by omega) (by omega) (by rw [hz2]; omega) (by omega)
  simp only [Int.toNat_natCast, Int.toNat_zero, hz1, Nat.mul_one] at h
  rw [h]
  have e1 : madeCells (Value.int IntKind.u8 0).cells S = zrow S := by
    apply Array.toList_inj.1
    have hcells : (Value.int IntKind.u8 0).cells = #[.int .u8 0] := rfl
    rw [hcells, toList_madeCells_one]
    simp [zrow]
  rw [e1]

def ExpdRel (base S : Nat) (w : World) (RES : List UInt8 × Nat × Nat × Nat) (to tr : Value) (wr : World) : Prop :=
  ∃ A c o r D m dc p k, to = .slice A (o : List UInt8).length c ∧ tr = .slice D m dc ∧ Hid (Own wr 5 base A c o) ∧ Hid (Rb wr base D m dc r) ∧ m ≤ 900000 ∧ o.length ≤ S ∧ Hid (Pm.expGo S o r p k = RES) ∧ Below base w wr ∧ base ≤ wr.heap.size

set_option maxRecDepth 100000 in
set_option maxHeartbeats 2000000 in
/-- press.expanded -/
theorem expanded_c (S m dc p k P K' : Nat) (D : Option Addr) (r OUT : List UInt8) (w : World) (hr : Rb w w.heap.size D m dc r) (hm : m ≤ 900000) (hS : S ≤ 2147483647) (hres : Pm.expGo S [] r 0 0 = (OUT, P, K', 0)) :
    Calls Tryz.prog 197 #[surV S (.slice D m dc) p k] w (RetB w.heap.size w OUT) := by
  have hmk := make_u64 (w.alloc (.cells #[.int .u64 (S : Int), .slice D m dc, .int .i64 (p : Int), .int .i64 (k : Int)] 208)) S hS
  have Hr := Lib.hid hr; have Hres := Lib.hid hres; clear hr hres
  unfold surV
  go_enter Tryz.func197, Tryz.ntmps197
  go_wp2
  go_loopw [3, 4] (fun to tr wr => ExpdRel w.heap.size S w (OUT, P, K', 0) to tr wr) (fun _ tr _ => slen tr)
  case atStart =>
    refine ⟨some ⟨w.heap.size + 1, 0, none⟩, S, [], r, D, m, dc, 0, 0, by simp, rfl, Lib.hid ?_, Lib.hid ((Hr.out.alloc (Nat.le_refl _) _).alloc (by simp) _), hm, by simp, Hres, ((Below.refl _ _).alloc (Nat.le_refl _) _).alloc (by simp) _, by simp; omega⟩
    have h := own_zrow ((w.alloc (.cells #[.int .u64 (S : Int), .slice D m dc, .int .i64 (p : Int), .int .i64 (k : Int)] 208)).alloc (.cells (zrow S) 5)) 5 (w.heap.size + 1) 0 S ?_ (Nat.zero_le _) (by simp only [maxLen]; omega)
    · exact h.mono (by omega)
    · have := (heap_alloc_new (w.alloc (.cells #[.int .u64 (S : Int), .slice D m dc, .int .i64 (p : Int), .int .i64 (k : Int)] 208)) (.cells (zrow S) 5))
      simpa using this
  case round =>
    clear hmk
    obtain ⟨A, c, o, r, D, m, dc, p, k, rfl, rfl, HO, HrD, hm, hoS, HG, hbel, hsz⟩ := hrel
    have hrl := HrD.out.len
    have Hrl := Lib.hid hrl; clear hrl
    by_cases hmz : m = 0
    · subst hmz
      obtain rfl : r = [] := List.eq_nil_of_length_eq_zero Hrl.out
      have hG := HG.out
      by_cases hfew : o.length < S
      · rw [eg_nil_few hfew] at hG; simp at hG
      · rw [eg_nil hfew] at hG
        obtain ⟨rfl, _⟩ : o = OUT ∧ _ := Prod.mk.inj hG
        clear hG
        go_wp2
        go_ret
        exact ⟨A, c, rfl, HO.out, hbel⟩
    · have hmp : 0 < m := by omega
      have hne : r ≠ [] := by intro e; rw [e] at Hrl; have := Hrl.out; simp at this; omega
      rcases tk_cases r with ⟨a, s1, htk1, ha, hs1', _⟩ | ⟨x, htk1, hx⟩
      · have hs1p : 1 ≤ s1 := by have := Pm.tk_pos r (by rw [htk1]); rw [htk1] at this; exact this
        have hs1m : s1 ≤ m := by have := Hrl.out; omega
        have hdl : (r.drop s1).length = m - s1 := by rw [List.length_drop, Hrl.out]
        by_cases h2 : a % 2 = 0
        · by_cases hsh : m - s1 < a / 2 + 1
          · have hG := HG.out
            rw [eg_short htk1 h2 (by rw [hdl]; exact hsh)] at hG; simp at hG
          · by_cases hov : S < o.length + (a / 2 + 1)
            · have hG := HG.out
              rw [eg_over htk1 h2 (by rw [hdl]; exact hsh) hov] at hG; simp at hG
            · have hG4 := (eg_lit (p := p) (k := k) (n := S) (out := o) htk1 h2 (by rw [hdl]; exact hsh) hov).symm.trans HG.out
              obtain ⟨K, hK⟩ : ∃ K, K = a / 2 + 1 := ⟨_, rfl⟩
              have hct := takeToken_lit D m dc w.heap.size r a s1 (wr.alloc (.cells #[.bool false, .int .u64 0, .slice none 0 0, .int .u64 0] 230)) (HrD.out.alloc hsz _) (by simp; omega) (by omega) htk1 h2 (by omega)
              rw [← hK] at hG4 hct hsh hov
              have hlen : (o ++ (r.drop s1).take K).length = o.length + K := by rw [List.length_append, List.length_take, hdl]; omega
              have HG4 := Lib.hid hG4; have Hct := Lib.hid hct; have Hlen := Lib.hid hlen; have Hdl := Lib.hid hdl
              have hK1 : 1 ≤ K := by omega
              clear hG4 hct hlen htk1 h2 ha hK hne hdl HG HrD
              go_wp2_with fail
              refine Hct.out.mono ?_
              rintro e w2 ⟨E, F, rfl, hE, hF, hb2⟩
              have HE := Lib.hid hE; have HF := Lib.hid hF; clear hE hF Hct
              have hu : tokV false K (.slice E K (dc - s1)) 0 = .agg #[.bool false, .int .u64 (K : Int), .slice E K (dc - s1), .int .u64 0] := rfl
              rw [hu]
              obtain ⟨htb, hbb2, hs2'⟩ := tokbox _ _ _ _ _ _ _ hb2
              have HTB := Lib.hid htb
              clear htb hb2
              obtain ⟨t0, t1, t2, t3, k0, k1, k2, k3, hlt2⟩ := HTB.out
              have hg3 := grown_put4 w2 wr.heap.size (.bool false) (.int .u64 (K : Int)) (.slice E K (dc - s1)) (.int .u64 0)
              have HO3 : Hid (Own (put4 w2 wr.heap.size (.bool false) (.int .u64 (K : Int)) (.slice E K (dc - s1)) (.int .u64 0)) 5 w.heap.size A c o) := Lib.hid (Own.same (HO.out.keep hbb2) fun g hg => by
                have h1 := own_ob HO.out g hg
                exact hg3.block g (by omega) (fun e => by cases e; omega))
              have hbel3 : Below w.heap.size w (put4 w2 wr.heap.size (.bool false) (.int .u64 (K : Int)) (.slice E K (dc - s1)) (.int .u64 0)) := below_put4 (hbel.trans (hbb2.mono hsz)) hsz _ _ _ _
              have hs3 : (put4 w2 wr.heap.size (.bool false) (.int .u64 (K : Int)) (.slice E K (dc - s1)) (.int .u64 0)).heap.size = w2.heap.size := by simp [put4]
              have happ := appended_lit A c w.heap.size o E K (dc - s1) w.heap.size 0 ((r.drop s1).take K) (put4 w2 wr.heap.size (.bool false) (.int .u64 (K : Int)) (.slice E K (dc - s1)) (.int .u64 0)) HO3.out (by omega) (HE.out.below (below_put4 (Below.refl w.heap.size w2) hsz _ _ _ _)) (by omega) (by rw [List.length_take]; omega)
              have Happ := Lib.hid happ
              clear happ hg3 HO HTB
              go_wp2_with fail
              refine (show Calls Tryz.prog 224 #[tokV false K (.slice E K (dc - s1)) 0, .slice A o.length c] (put4 w2 wr.heap.size (.bool false) (.int .u64 (K : Int)) (.slice E K (dc - s1)) (.int .u64 0)) _ from Happ.out).mono ?_
              rintro e w4 ⟨A2, c2, rfl, hown4, hg4⟩
              have HO4 := Lib.hid hown4
              have hbel34 := hg4.below HO3.out (by omega)
              have HF4 := Lib.hid (((HF.out.below (Below.refl w.heap.size w2)).below ((below_put4 (Below.refl w.heap.size w2) hsz _ _ _ _).trans hbel34)))
              have hbel4 := hbel3.trans hbel34
              clear Happ hown4 hg4 HO3 HF hbel34
              go_wp2
              go_roundw
              case rel => exact ⟨A2, c2, o ++ (r.drop s1).take K, (r.drop s1).drop K, F, _, _, p + 1, k, by simp, rfl, HO4, HF4, by omega, by rw [Hlen.out]; omega, HG4, hbel4, hbel4.size⟩
              case measure => simp [slen]; omega
        · have hodd : a % 2 = 1 := by omega
          rcases tk_cases (r.drop s1) with ⟨d, s2, htk2, hd, hs2, _⟩ | ⟨x, htk2, hx⟩
          · rw [hdl] at hs2
            by_cases hbad : d = 0 ∨ 4096 < d ∨ o.length < d ∨ S - o.length < a / 2 + 4
            · have hG := HG.out
              rw [eg_bad htk1 hodd htk2 hbad] at hG; simp at hG
            · have hG4 := (eg_mat (p := p) (k := k) (n := S) (out := o) htk1 hodd htk2 hbad).symm.trans HG.out
              obtain ⟨K, hK⟩ : ∃ K, K = a / 2 + 4 := ⟨_, rfl⟩
              have hct := takeToken_mat D m dc w.heap.size r a s1 d s2 (wr.alloc (.cells #[.bool false, .int .u64 0, .slice none 0 0, .int .u64 0] 230)) (HrD.out.alloc hsz _) (by simp; omega) (by omega) htk1 ha hodd htk2
              rw [← hK] at hG4 hct hbad
              have hlen : (Pm.copyN K d o).length = o.length + K := copyN_len K d o
              have HG4 := Lib.hid hG4; have Hct := Lib.hid hct; have Hlen := Lib.hid hlen
              have hb1 : 1 ≤ d ∧ d ≤ 4096 ∧ d ≤ o.length ∧ o.length + K ≤ S := by omega
              obtain ⟨hd1, hd2, hd3, hoK⟩ := hb1
              clear hG4 hct hlen htk1 h2 ha hK hne hdl hodd hbad htk2 hd HG HrD
              go_wp2_with fail
              refine Hct.out.mono ?_
              rintro e w2 ⟨F, rfl, hF, hb2⟩
              have HF := Lib.hid hF; clear hF Hct
              have hu : tokV true K (.slice none 0 0) d = .agg #[.bool true, .int .u64 (K : Int), .slice none 0 0, .int .u64 (d : Int)] := rfl
              rw [hu]
              obtain ⟨htb, hbb2, hs2'⟩ := tokbox _ _ _ _ _ _ _ hb2
              have HTB := Lib.hid htb
              clear htb hb2
              obtain ⟨t0, t1, t2, t3, k0, k1, k2, k3, hlt2⟩ := HTB.out
              have hg3 := grown_put4 w2 wr.heap.size (.bool true) (.int .u64 (K : Int)) (.slice none 0 0) (.int .u64 (d : Int))
              have HO3 : Hid (Own (put4 w2 wr.heap.size (.bool true) (.int .u64 (K : Int)) (.slice none 0 0) (.int .u64 (d : Int))) 5 w.heap.size A c o) := Lib.hid (Own.same (HO.out.keep hbb2) fun g hg => by
                have h1 := own_ob HO.out g hg
                exact hg3.block g (by omega) (fun e => by cases e; omega))
              have hbel3 : Below w.heap.size w (put4 w2 wr.heap.size (.bool true) (.int .u64 (K : Int)) (.slice none 0 0) (.int .u64 (d : Int))) := below_put4 (hbel.trans (hbb2.mono hsz)) hsz _ _ _ _
              have hs3 : (put4 w2 wr.heap.size (.bool true) (.int .u64 (K : Int)) (.slice none 0 0) (.int .u64 (d : Int))).heap.size = w2.heap.size := by simp [put4]
              have happ := appended_mat A c w.heap.size o K d (put4 w2 wr.heap.size (.bool true) (.int .u64 (K : Int)) (.slice none 0 0) (.int .u64 (d : Int))) HO3.out (by omega) (by omega) (by omega) (by omega) (by omega)
              have Happ := Lib.hid happ
              clear happ hg3 HO HTB
              go_wp2_with fail
              refine (show Calls Tryz.prog 224 #[tokV true K (.slice none 0 0) d, .slice A o.length c] (put4 w2 wr.heap.size (.bool true) (.int .u64 (K : Int)) (.slice none 0 0) (.int .u64 (d : Int))) _ from Happ.out).mono ?_
              rintro e w4 ⟨A2, c2, rfl, hown4, hg4⟩
              have HO4 := Lib.hid hown4
              have hbel34 := hg4.below HO3.out (by omega)
              have HF4 := Lib.hid (((HF.out.below (Below.refl w.heap.size w2)).below ((below_put4 (Below.refl w.heap.size w2) hsz _ _ _ _).trans hbel34)))
              have hbel4 := hbel3.trans hbel34
              clear Happ hown4 hg4 HO3 HF hbel34
              go_wp2
              go_roundw
              case rel => exact ⟨A2, c2, Pm.copyN K d o, (r.drop s1).drop s2, F, _, _, p, k + 1, rfl, rfl, HO4, HF4, by omega, by rw [Hlen.out]; omega, HG4, hbel4, hbel4.size⟩
              case measure => simp [slen]; omega
          · have hG := HG.out
            rw [eg_err2 htk1 hodd htk2 hx] at hG; simp at hG; omega
      · have hG := HG.out
        rw [eg_err1 hne htk1 hx] at hG; simp at hG; omega
end Go.Proofs.YtknmhdkomjjneaaGreatDoor.Cht

/-
  press.Expand and press.Marks.
-/

namespace Go.Proofs.YtknmhdkomjjneaaGreatDoor.Cht
open Go.RowKit

/-- A row of bytes and an error. -/
def RetX (base : Nat) (w : World) (out : List UInt8) (x : Nat) (e : Ending) (w' : World) : Prop :=
  ∃ A c, e = .returned (.tuple #[.slice A out.length c, .int .i64 (x : Int)]) ∧ Own w' 5 base A c out ∧ Below base w w'

set_option maxRecDepth 100000 in
/-- press.Expand -/
theorem expand_c (A : Option Addr) (n c : Nat) (l : List UInt8) (most : Int) (w : World) (hr : Rb w w.heap.size A n c l) (hn : n ≤ 900000) (hm : I64 most) (hsm : ∀ S s, Vm.tk l = (S, s, 0) → (S : Int) ≤ most → S ≤ 2147483647) :
    Calls Tryz.prog 164 #[.slice A n c, .int .i64 most] w (RetX w.heap.size w (Pm.expS l most).1 (Pm.expS l most).2.2.2) := by
  have hsv := surveyed_c A n c w.heap.size l most w hr (Nat.le_refl _) hn hm
  have Hsv := Lib.hid hsv; have Hsm := Lib.hid hsm; have Hm := Lib.hid hm
  have hl := hr.len
  have Hl := Lib.hid hl
  clear hsv hsm hm hr hl
  obtain ⟨X, hX⟩ : ∃ X, X = Pm.expS l most := ⟨_, rfl⟩
  rw [← hX]
  have HX := Lib.hid hX; clear hX
  go_enter Tryz.func164, Tryz.ntmps164
  go_wp2_with fail
  refine Hsv.out.mono ?_
  rintro e w1 ⟨hb1, ⟨S, s, D, out, p, k, htk, hexp, hgo, rfl, hr1, ⟨h3, h4⟩, _, _⟩ | ⟨x, hexp, hx0, hx100, rfl⟩⟩
  · have hS := Hsm.out S s htk h4
    obtain rfl : X = (out, p, k, 0) := HX.out.trans hexp
    have hs1 := hb1.size
    have Hgo := Lib.hid hgo; have Hr1 := Lib.hid hr1; have Htk := Lib.hid htk
    clear hgo hr1 htk hexp HX Hsv Hsm
    have hne : (S : Int) ≤ 2147483647 := by omega
    unfold surV
    obtain ⟨m, hm⟩ : ∃ m, m = n - s := ⟨_, rfl⟩
    have hmn : m ≤ n := by omega
    rw [← hm] at Hr1 ⊢
    clear hm
    go_wp2_with fail
    refine (show Calls Tryz.prog 197 #[surV S (.slice D m (c - s)) p k] _ _ from expanded_c S m (c - s) p k p k D (l.drop s) out _ ((Hr1.out.alloc hs1 _).more (by simp; omega)) (by omega) hS Hgo.out).mono ?_
    rintro e w2 ⟨A2, c2, rfl, hown2, hb2⟩
    have hs2 := hb2.size
    go_wp2
    go_ret2
    refine ⟨A2, c2, rfl, hown2.mono (by simp; omega), (hb1.trans ((Below.refl _ _).alloc hs1 _)).trans (hb2.mono (by simp; omega))⟩
  · obtain rfl : X = ([], 0, 0, x) := HX.out.trans hexp
    have hx0' : ((x : Int) == 0) = false := by simp; omega
    clear hexp HX Hsv Hsm
    unfold surV
    go_wp2
    go_ret2
    exact ⟨none, 0, rfl, Own.nil _ _ _, hb1.trans ((Below.refl _ _).alloc hb1.size _)⟩

end Go.Proofs.YtknmhdkomjjneaaGreatDoor.Cht
