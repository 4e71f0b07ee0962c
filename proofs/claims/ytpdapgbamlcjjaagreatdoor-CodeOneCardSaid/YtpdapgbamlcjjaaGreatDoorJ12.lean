/-
  Joined: Rl.
-/
import Derived.Test.YtpdapgbamlcjjaaGreatDoorJ6
import Derived.Test.YtpdapgbamlcjjaaGreatDoorJ5
import Derived.Laws.CopyOwn
import Derived.Deep.DeepCutAuto
/-
  A row of bytes under way: what stands, and zeros behind it.
-/
namespace Go.Proofs.YtpdapgbamlcjjaaGreatDoor
open Go.RowKit

/-- A row under way: P stands, the rest is 0. -/
def RowZ (P : List UInt8) (T : Nat) : List Value := bvs P ++ List.replicate (T - P.length) (Value.int .u8 0)
theorem rowZ_len (P : List UInt8) (T : Nat) (h : P.length ≤ T) : (RowZ P T).length = T := by simp [RowZ, bvs_length]; omega
theorem rowZ_splice (P Q : List UInt8) (T : Nat) (h : P.length + Q.length ≤ T) : splice (RowZ P T) P.length (bvs Q) = RowZ (P ++ Q) T := by
  have e1 : (RowZ P T).take P.length = bvs P := by unfold RowZ; rw [List.take_left' (bvs_length P)]
  have e2 : (RowZ P T).drop (P.length + (bvs Q).length) = List.replicate (T - (P ++ Q).length) (Value.int .u8 0) := by
    unfold RowZ
    rw [bvs_length, List.drop_append, bvs_length, List.drop_of_length_le (by rw [bvs_length]; omega), List.nil_append, List.drop_replicate, List.length_append]
    congr 1
    omega
  unfold splice
  rw [e1, e2]
  unfold RowZ
  rw [bvs_append, List.append_assoc]
theorem rowZ_made (T : Nat) : (zrow T) = (RowZ [] T).toArray := by simp [zrow, RowZ, bvs]
theorem rowZ_full (P : List UInt8) : RowZ P P.length = bvs P := by simp [RowZ]
theorem own_rowZ {w : World} {e : TypeId} {g base : Nat} {P : List UInt8} (h : w.heap[g]? = some (.cells (RowZ P P.length).toArray e (0, 0))) (hb : base ≤ g) (hl : P.length ≤ 3000000) : Own w e base (some ⟨g, 0, none⟩) P.length P := by
  rw [rowZ_full] at h
  unfold Own
  exact ⟨by rw [bvs_length]; omega, .inr ⟨g, P.length, _, rfl, hb, h, Nat.le_refl _, by simp only [maxLen]; omega, by simp [bvs_length], by simp; exact List.take_of_length_le (by rw [bvs_length]; exact Nat.le_refl _)⟩⟩
section
variable {P : Program} {t e s : TypeId}
/-- 't[W:]' of a row of the call's own. -/
theorem U8.fromRow (u : U8 P t e s) (g T k : Nat) (hk : k ≤ T) :
    ∃ D, (∀ W kd, (Instr.slice t (.slice (some ⟨g, 0, none⟩) T T) (some (.int kd (k : Int))) none none).run P W = .ok (.slice D (T - k) (T - k)) W) ∧ (k < T → D = some ⟨g, k, none⟩) := by
  refine ⟨if T = k then some ⟨g, 0, none⟩ else (some (⟨g, 0, none⟩ : Addr)).map (·.add k), fun W kd => ?_, fun h => ?_⟩
  · rw [run_slice_l W t _ _ _ u.sl' kd (k : Int) (by omega) (by omega), u.sz]
    simp [Result.andThen, sliced]
  · rw [if_neg (by omega)]
    by_cases h0 : k = 0
    · subst h0; simp [Addr.add]
    · simp [Addr.add, h0]
theorem U8.stepCopyTo (u : U8 P t e s) {ops : Array Oper} {o : Oper} {a : Act} {w : World} {K : Act → World → Prop} {Qx : Exit → Act → World → Prop} {E : Prop} (hgd : o.guard = none) (x y : Operand)
    (ho : o.op = .call { callee := .builtin .copy, args := #[x, y], argTypes := #[t, t] }) (g T q d B2 z zc : Nat) (Dd Ds : Option Addr) (L M : List UInt8)
    (hx : a.eval x = .slice Dd z zc) (hz : z + L.length = T) (hy : a.eval y = .slice Ds q d) (hg : w.heap[g]? = some (.cells (RowZ L T).toArray e (0, 0))) (hr : Rb w B2 Ds q d M) (hfit : L.length + q ≤ T) (hD : L.length < T → Dd = some ⟨g, L.length, none⟩)
    (B : Nat) (w0 : World) (hb : Below B w0 w) (hBg : B ≤ g)
    (h : ∀ w', Hid (w'.heap[g]? = some (.cells (RowZ (L ++ M) T).toArray e (0, 0))) → Below B w0 w' → K (a.put o.dst (goInt q)) w') :
    if Region.wanted o (yielded ops a.tmps) = true then Oper.wp P o a w K Qx else E := by
  obtain ⟨h1, h2, h3, h4⟩ := hr
  obtain ⟨i, hi, hz0, hz1, hz2⟩ := info_parts u.inf
  have hq : (bvs M).length = q := by rw [bvs_length, h1]
  refine step_copy_splice hgd x y t t ho e u.sl (by rw [hi]; simp [hz1]) Dd Ds z zc q d hx hy g L.length (RowZ L T) e hg (bvs M) (by rw [hq]; exact (Nat.min_eq_left (by omega)).symm) ?_ (by rw [hq, rowZ_len L T (by omega)]; omega) (bvs_one M) B w0 hb hBg fun w' hw' hb' => ?_
  · intro hp
    rw [hq] at hp
    obtain ⟨b, off, rfl, _, hcell⟩ := h4 hp
    refine ⟨hD (by omega), _, rfl, fun j v hj => ?_⟩
    obtain ⟨c, hc, rfl⟩ := bvs_get M j v hj
    have := hcell j c hc
    by_cases hj0 : j = 0
    · subst hj0; simpa [Addr.add] using this
    · simpa [Addr.add, hj0] using this
  · rw [hq]
    refine h w' ?_ hb'
    have hw2 := hw'.out
    rw [rowZ_splice L M T (by omega)] at hw2
    exact Lib.hid hw2
theorem opCopyTo (u : U8 P t e s) {o : Oper} {a : Act} {w : World} {K : Act → World → Prop} {Qx : Exit → Act → World → Prop} (hgd : o.guard = none) (x y : Operand)
    (ho : o.op = .call { callee := .builtin .copy, args := #[x, y], argTypes := #[t, t] }) (g T q d B2 z zc : Nat) (Dd Ds : Option Addr) (L M : List UInt8)
    (hx : a.eval x = .slice Dd z zc) (hz : z + L.length = T) (hy : a.eval y = .slice Ds q d) (hg : w.heap[g]? = some (.cells (RowZ L T).toArray e (0, 0))) (hr : Rb w B2 Ds q d M) (hfit : L.length + q ≤ T) (hD : L.length < T → Dd = some ⟨g, L.length, none⟩)
    (B : Nat) (w0 : World) (hb : Below B w0 w) (hBg : B ≤ g)
    (h : ∀ w', Hid (w'.heap[g]? = some (.cells (RowZ (L ++ M) T).toArray e (0, 0))) → Below B w0 w' → K (a.put o.dst (goInt q)) w') : Oper.wp P o a w K Qx := by
  have := u.stepCopyTo (ops := #[]) (Qx := Qx) (E := True) hgd x y ho g T q d B2 z zc Dd Ds L M hx hz hy hg hr hfit hD B w0 hb hBg h
  rw [if_pos (by simp [Region.wanted, hgd])] at this
  exact this
theorem U8.wpCopyTo (u : U8 P t e s) {ops : Array Oper} {rest : List Oper} {o : Oper} {a : Act} {w : World} {Qx : Exit → Act → World → Prop} (hgd : o.guard = none) (x y : Operand)
    (ho : o.op = .call { callee := .builtin .copy, args := #[x, y], argTypes := #[t, t] }) (g T q d B2 z zc : Nat) (Dd Ds : Option Addr) (L M : List UInt8)
    (hx : a.eval x = .slice Dd z zc) (hz : z + L.length = T) (hy : a.eval y = .slice Ds q d) (hg : w.heap[g]? = some (.cells (RowZ L T).toArray e (0, 0))) (hr : Rb w B2 Ds q d M) (hfit : L.length + q ≤ T) (hD : L.length < T → Dd = some ⟨g, L.length, none⟩)
    (B : Nat) (w0 : World) (hb : Below B w0 w) (hBg : B ≤ g)
    (h : ∀ w', Hid (w'.heap[g]? = some (.cells (RowZ (L ++ M) T).toArray e (0, 0))) → Below B w0 w' → wpList P ops Qx rest (a.put o.dst (goInt q)) w') : wpList P ops Qx (o :: rest) a w :=
  wpList_plain hgd fun _ hK => by
    have := u.stepCopyTo (ops := ops) (Qx := Qx) (E := True) hgd x y ho g T q d B2 z zc Dd Ds L M hx hz hy hg hr hfit hD B w0 hb hBg (fun w' h1 h2 => hK _ _ (h w' h1 h2))
    rw [if_pos (by simp [Region.wanted, hgd])] at this
    exact this
end

theorem rowZ_cells {w : World} {e : TypeId} {g T : Nat} {L : List UInt8} (h : w.heap[g]? = some (.cells (RowZ L T).toArray e (0, 0))) (hL : L.length < T) :
    w.cell? ⟨g, L.length, none⟩ = some (.int .u8 0) ∧ (∀ k, w.frozen? ⟨g, k, none⟩ = false) ∧ g < w.heap.size := by
  refine ⟨?_, fun k => ?_, ?_⟩
  · simp only [World.cell?, h]
    have : (RowZ L T)[L.length]? = some (.int .u8 0) := by
      unfold RowZ
      rw [List.getElem?_append_right (by rw [bvs_length]; exact Nat.le_refl _), bvs_length, Nat.sub_self, List.getElem?_replicate, if_pos (by omega)]
    simp [this]
  · simp [World.frozen?, h]
  · exact (Array.getElem?_eq_some_iff.1 h).1
theorem rowZ_put {w : World} {e : TypeId} {g T : Nat} {L : List UInt8} (x : UInt8) (h : w.heap[g]? = some (.cells (RowZ L T).toArray e (0, 0))) (hL : L.length < T) :
    (w.setCell ⟨g, L.length, none⟩ (.int .u8 (x.toNat : Int))).heap[g]? = some (.cells (RowZ (L ++ [x]) T).toArray e (0, 0)) := by
  show (w.heap.modify g _)[g]? = _
  rw [Array.getElem?_modify, if_pos rfl, h]
  simp only [Option.map_some]
  congr 2
  have hs := rowZ_splice L [x] T (by simp; omega)
  rw [← hs]
  apply Array.toList_inj.1
  simp only [Option.isSome_none, Bool.false_eq_true, if_false, splice]
  simp only [Array.toList_setIfInBounds, bvs, List.map_cons, List.map_nil, List.length_singleton]
  rw [List.set_eq_take_append_cons_drop, if_pos (by rw [rowZ_len L T (by omega)]; exact hL)]
  simp
end Go.Proofs.YtpdapgbamlcjjaaGreatDoor
