/-
  What Do rests on: a row of flags, copy of values into an array, whatever operation its method does.
-/
import Derived.Test.YtkkjgiejnblopaaDoorPH
import Derived.Test.YtkkjgiejnblopaaDoorVD
import Derived.Shelf.Abstract
namespace Go.Proofs.YtkkjgiejnblopaaDoor
open Go.RowKit Vl

/-- A row of flags in a block of the call's own, which may be written on. -/
structure Br (w : World) (g : Nat) (l : List Bool) : Prop where
  lt : g < w.heap.size
  at_ : ∀ (j : Nat) (x : Bool), l[j]? = some x → w.cell? ⟨g, j, none⟩ = some (.bool x)
  fr : ∀ j, j < l.length → w.frozen? ⟨g, j, none⟩ = false
theorem Br.set {w : World} {g : Nat} {l : List Bool} (h : Br w g l) {k : Nat} (hk : k < l.length) (x : Bool) : Br (w.setCell ⟨g, k, none⟩ (.bool x)) g (l.set k x) := by
  refine ⟨by simpa using h.lt, fun j y hy => ?_, fun j hj => ?_⟩
  · by_cases hjk : j = k
    · subst hjk
      rw [List.getElem?_set_self hk] at hy
      injection hy with hy
      subst hy
      exact World.cell?_setCell_same _ _ _ (h.at_ j _ (List.getElem?_eq_getElem hk))
    · rw [List.getElem?_set_ne (Ne.symm hjk)] at hy
      rw [World.cell?_setCell_other _ _ _ _ (by simp only [ne_eq, Addr.mk.injEq, true_and, and_true]; omega)]
      exact h.at_ j y hy
  · rw [World.frozen?_setCell]
    rw [List.length_set] at hj
    exact h.fr j hj
theorem Br.below {w w' : World} {g B : Nat} {l : List Bool} (h : Br w g l) (hb : Below B w w') (hg : g < B) : Br w' g l := by
  have hq := hb.block g hg
  have c : ∀ k, w'.cell? ⟨g, k, none⟩ = w.cell? ⟨g, k, none⟩ := fun k => by unfold World.cell?; rw [hq]
  have f : ∀ k, w'.frozen? ⟨g, k, none⟩ = w.frozen? ⟨g, k, none⟩ := fun k => by unfold World.frozen?; rw [hq]
  exact ⟨Nat.lt_of_lt_of_le h.lt hb.size, fun j x hx => (c j).trans (h.at_ j x hx), fun j hj => (f j).trans (h.fr j hj)⟩
theorem Br.rc {w : World} {g n c : Nat} {l : List Bool} (h : Br w g l) (hn : l.length = n) (h1 : n ≤ c) (h2 : c ≤ maxLen) : Rc 1 w w.heap.size (some ⟨g, 0, none⟩) n c (lvb l) :=
  ⟨by unfold lvb; rw [List.length_map, hn, Nat.mul_one], h1, h2, fun _ => ⟨g, 0, rfl, h.lt, fun j v hv => by
    rw [Nat.zero_add]
    unfold lvb at hv
    rw [List.getElem?_map] at hv
    obtain ⟨x, hx, rfl⟩ := Option.map_eq_some_iff.1 hv
    exact h.at_ j x hx⟩⟩
theorem make_bools (w : World) (m : Nat) (hm : m ≤ 1000000) :
    (Instr.makeSlice 23 (.int .i64 (m : Int)) (.int .i64 (m : Int))).run Tryd.prog w = .ok (.slice (some ⟨w.heap.size, 0, none⟩) m m) (w.alloc (.cells (Array.replicate m (.bool false)) 4)) := by
  obtain ⟨i, hi, hz0, hz1, hz2⟩ := info_parts bsty.inf
  have h := run_make (P := Tryd.prog) w 23 4 i (.bool false) bsty.sl hi hz0 .i64 .i64 (m : Int) (m : Int) (by omega) (by omega) (by rw [hz2]; omega) (by omega)
  simp only [Int.toNat_natCast, hz1, Nat.mul_one] at h
  rw [h]
  have e1 : madeCells (Value.bool false).cells m = Array.replicate m (.bool false) := by
    apply Array.toList_inj.1
    rw [show (Value.bool false).cells = #[Value.bool false] from rfl, toList_madeCells_one]
    simp
  rw [e1]
theorem bools_made (w : World) (m : Nat) : Br (w.alloc (.cells (Array.replicate m (.bool false)) 4)) w.heap.size (List.replicate m false) := by
  refine ⟨by simp, fun j x hx => ?_, fun j hj => by simp⟩
  rw [List.getElem?_replicate] at hx
  split at hx
  · injection hx with hx
    subst hx
    simp [*]
  · cases hx

/-- 'copy(a[:], l)' of at most three values of three cells into a block that was just made. -/
theorem run_copy3 (w0 : World) (ty T : TypeId) (cur : Array Value) (n c b2 o2 : Nat) (cs : List Value)
    (hn : n ≤ 3) (hcs : cs.length = n * 3) (hcur : cur.size = 9) (hsrc : ∀ j v, cs[j]? = some v → (w0.alloc (.cells cur T)).cell? ⟨b2, o2 + j, none⟩ = some v) (h1 : ∀ v ∈ cs, v.oneCell' = true)
    (row : Array Value) (hrow : (cs ++ cur.toList.drop cs.length).toArray = row) :
    (Builtin.copy_ #[22, 22] ty #[.slice (some ⟨w0.heap.size, 0, none⟩) 3 3, .slice (some ⟨b2, o2, none⟩) n c]).run Tryd.prog (w0.alloc (.cells cur T)) = .ok (goInt n) (w0.alloc (.cells row T)) := by
  have hs : (Tryd.prog.info? 27).map (·.size) = some 3 := by kernel_rfl
  have hl := run_loadCells_list (P := Tryd.prog) (w0.alloc (.cells cur T)) ⟨b2, o2, none⟩ cs (fun j v hv => by
    have e : (⟨b2, o2, none⟩ : Addr).add j = ⟨b2, o2 + j, none⟩ := by unfold Addr.add; split <;> simp_all
    rw [e]; exact hsrc j v hv)
  have hst := run_storeCells_at Tryd.prog w0.heap.size 0 T cs 0 cur (w0.alloc (.cells cur T)) (heap_alloc_last w0 _) (by simp; omega) h1
  have hw : (w0.alloc (.cells cur T)).setRow w0.heap.size (cur.toList.take (0 + 0) ++ cs ++ cur.toList.drop (0 + 0 + cs.length)).toArray = w0.alloc (.cells row T) := by
    rw [World.setRow_alloc_new]
    congr 2
    rw [← hrow]
    simp
  rw [hw] at hst
  cases hq : Tryd.prog.info? 27 with
  | none => simp [hq] at hs
  | some i =>
    have hi : i.size = 3 := by simpa [hq] using hs
    have hmin : Nat.min n 3 = n := Nat.min_eq_left hn
    simp [Builtin.copy_, run_underlying Tryd.underlying22, Builtin.lenOf, Builtin.firstCells, sizeOf, typeInfo, hq, hi, hmin, ← hcs, hl, hst]

theorem fn_enter (m : Nat) (h1 : 4 ≤ m) (h2 : m ≤ 21) : ∀ args w, (callFunc (kf m) args).run Tryd.prog w = .ok (.enter (kf m) args) w := by
  rcases op_cases h1 h2 with rfl | rfl | rfl | rfl | rfl | rfl | rfl | rfl | rfl | rfl | rfl | rfl | rfl | rfl | rfl | rfl | rfl | rfl
  · exact enters_of Tryd.func31 (by kernel_rfl) rfl
  · exact enters_of Tryd.func32 (by kernel_rfl) rfl
  · exact enters_of Tryd.func33 (by kernel_rfl) rfl
  · exact enters_of Tryd.func34 (by kernel_rfl) rfl
  · exact enters_of Tryd.func35 (by kernel_rfl) rfl
  · exact enters_of Tryd.func36 (by kernel_rfl) rfl
  · exact enters_of Tryd.func37 (by kernel_rfl) rfl
  · exact enters_of Tryd.func38 (by kernel_rfl) rfl
  · exact enters_of Tryd.func39 (by kernel_rfl) rfl
  · exact enters_of Tryd.func40 (by kernel_rfl) rfl
  · exact enters_of Tryd.func41 (by kernel_rfl) rfl
  · exact enters_of Tryd.func42 (by kernel_rfl) rfl
  · exact enters_of Tryd.func43 (by kernel_rfl) rfl
  · exact enters_of Tryd.func44 (by kernel_rfl) rfl
  · exact enters_of Tryd.func45 (by kernel_rfl) rfl
  · exact enters_of Tryd.func46 (by kernel_rfl) rfl
  · exact enters_of Tryd.func47 (by kernel_rfl) rfl
  · exact enters_of Tryd.func48 (by kernel_rfl) rfl

/-- What operation m comes to over three values. -/
def opV (m : Nat) (a b c : V) : V := if (m : Int) ≤ 8 ∨ 14 ≤ (m : Int) ∧ (m : Int) ≤ 17 then rek m a b c else tex m a b c
theorem meth_c (m : Nat) (h1 : 4 ≤ m) (h2 : m ≤ 21) (a b c : V) (ha : isV a = true) (hb : isV b = true) (ia : I a.n) (ib : I b.n) (w : World) (hg : Gl w) :
    Calls Tryd.prog (kf m) #[ar9 a b c] w (RetV w (vv (opV m a b c))) := by
  have la := isV_len ha
  have lb := isV_len hb
  have sa : a.s.length ≤ 1000000 := by omega
  rcases op_cases h1 h2 with rfl | rfl | rfl | rfl | rfl | rfl | rfl | rfl | rfl | rfl | rfl | rfl | rfl | rfl | rfl | rfl | rfl | rfl
  · exact p_add a b c w
  · exact p_sub a b c w
  · exact p_mul a b c w
  · exact p_div a b c ia w
  · exact p_mod a b c ib w
  · exact p_join a b c (by omega) w
  · exact p_length a b c w
  · exact p_slice a b c sa w
  · exact p_upper a b c sa w
  · exact p_lower a b c sa w
  · exact p_eq a b c ha hb w
  · exact p_less a b c ha hb w
  · exact p_not a b c w
  · exact p_choose a b c w
  · exact p_num a b c sa w
  · exact p_text a b c ia w hg
  · exact p_hash a b c sa w
  · exact p_find a b c sa w hg
end Go.Proofs.YtkkjgiejnblopaaDoor
