/-
  Joined: SqS5 SqS6 SqS9 SqUa.
-/
import Derived.Test.YtknmhdkomjjneaaGreatDoorJW18
import Derived.Test.YtknmhdkomjjneaaGreatDoorJW19
import Derived.Test.YtknmhdkomjjneaaGreatDoorJW20
import Derived.Shelf.Bytes.SlCountOne
import Derived.Laws.Externs
import Derived.Deep.DeepCutAuto
import Derived.Test.YtknmhdkomjjneaaGreatDoorJW10
import Derived.Test.YtknmhdkomjjneaaGreatDoorJW6
import Derived.Test.YtknmhdkomjjneaaGreatDoorJW8
import Derived.IntWalk
/-
  bytes.Count at a byte 255, bytes.ReplaceAll of it by two bytes, seq's Escape: what each call returns and leaves.
-/
namespace Go.Proofs.YtknmhdkomjjneaaGreatDoor.Sq
open Go.RowKit
attribute [local irreducible] wpT

def RowZ (P : List UInt8) (T : Nat) : List Value := bvs P ++ List.replicate (T - P.length) (Value.int .u8 0)
theorem rowZ_len (P : List UInt8) (T : Nat) (h : P.length ≤ T) : (RowZ P T).length = T := by simp [RowZ, bvs_length]; omega
theorem rowZ_splice (P Q : List UInt8) (T : Nat) (h : P.length + Q.length ≤ T) : splice (RowZ P T) P.length (bvs Q) = RowZ (P ++ Q) T := by
  have e1 : (RowZ P T).take P.length = bvs P := by unfold RowZ; rw [List.take_left' (bvs_length P)]
  have e2 : (RowZ P T).drop (P.length + (bvs Q).length) = List.replicate (T - (P ++ Q).length) (Value.int .u8 0) := by
    unfold RowZ
    rw [bvs_length, List.drop_append, bvs_length, List.drop_of_length_le (by rw [bvs_length]; omega), List.nil_append, List.drop_replicate, List.length_append]
    congr 1
    omega
  unfold splice
  rw [e1, e2]
  unfold RowZ
  rw [bvs_append, List.append_assoc]
theorem rowZ_made (T : Nat) : (zrow T) = (RowZ [] T).toArray := by simp [zrow, RowZ, bvs]
theorem rowZ_full (P : List UInt8) : RowZ P P.length = bvs P := by simp [RowZ]
theorem own_rowZ {w : World} {e : TypeId} {g base : Nat} {P : List UInt8} (h : w.heap[g]? = some (.cells (RowZ P P.length).toArray e (0, 0))) (hb : base ≤ g) (hl : P.length ≤ 3000000) : Own w e base (some ⟨g, 0, none⟩) P.length P := by
  rw [rowZ_full] at h
  unfold Own
  exact ⟨by rw [bvs_length]; omega, .inr ⟨g, P.length, _, rfl, hb, h, Nat.le_refl _, by simp only [maxLen]; omega, by simp [bvs_length], by simp; exact List.take_of_length_le (by rw [bvs_length]; exact Nat.le_refl _)⟩⟩
section
variable {P : Program} {t e s : TypeId}
theorem _root_.Go.Proofs.YtknmhdkomjjneaaGreatDoor.U8.fromRow (u : U8 P t e s) (g T k : Nat) (hk : k ≤ T) :
    ∃ D, (∀ W kd, (Instr.slice t (.slice (some ⟨g, 0, none⟩) T T) (some (.int kd (k : Int))) none none).run P W = .ok (.slice D (T - k) (T - k)) W) ∧ (k < T → D = some ⟨g, k, none⟩) := by
  refine ⟨if T = k then some ⟨g, 0, none⟩ else (some (⟨g, 0, none⟩ : Addr)).map (·.add k), fun W kd => ?_, fun h => ?_⟩
  · rw [run_slice_l W t _ _ _ u.sl' kd (k : Int) (by omega) (by omega), u.sz]
    simp [Result.andThen, sliced]
  · rw [if_neg (by omega)]
    by_cases h0 : k = 0
    · subst h0; simp [Addr.add]
    · simp [Addr.add, h0]
theorem _root_.Go.Proofs.YtknmhdkomjjneaaGreatDoor.U8.stepCopyTo (u : U8 P t e s) {ops : Array Oper} {o : Oper} {a : Act} {w : World} {K : Act → World → Prop} {Qx : Exit → Act → World → Prop} {E : Prop} (hgd : o.guard = none) (x y : Operand)
    (ho : o.op = .call { callee := .builtin .copy, args := #[x, y], argTypes := #[t, t] }) (g T q d B2 z zc : Nat) (Dd Ds : Option Addr) (L M : List UInt8)
    (hx : a.eval x = .slice Dd z zc) (hz : z + L.length = T) (hy : a.eval y = .slice Ds q d) (hg : w.heap[g]? = some (.cells (RowZ L T).toArray e (0, 0))) (hr : Rb w B2 Ds q d M) (hfit : L.length + q ≤ T) (hD : L.length < T → Dd = some ⟨g, L.length, none⟩)
    (B : Nat) (w0 : World) (hb : Below B w0 w) (hBg : B ≤ g)
    (h : ∀ w', Hid (w'.heap[g]? = some (.cells (RowZ (L ++ M) T).toArray e (0, 0))) → Below B w0 w' → K (a.put o.dst (goInt q)) w') :
    if Region.wanted o (yielded ops a.tmps) = true then Oper.wp P o a w K Qx else E := by
  obtain ⟨h1, h2, h3, h4⟩ := hr
  obtain ⟨i, hi, hz0, hz1, hz2⟩ := info_parts u.inf
  have hq : (bvs M).length = q := by rw [bvs_length, h1]
  refine step_copy_splice hgd x y t t ho e u.sl (by rw [hi]; simp [hz1]) Dd Ds z zc q d hx hy g L.length (RowZ L T) e hg (bvs M) (by rw [hq]; exact (Nat.min_eq_left (by omega)).symm) ?_ (by rw [hq, rowZ_len L T (by omega)]; omega) (bvs_one M) B w0 hb hBg fun w' hw' hb' => ?_
  · intro hp
    rw [hq] at hp
    obtain ⟨b, off, rfl, _, hcell⟩ := h4 hp
    refine ⟨hD (by omega), _, rfl, fun j v hj => ?_⟩
    obtain ⟨c, hc, rfl⟩ := bvs_get M j v hj
    have := hcell j c hc
    by_cases hj0 : j = 0
    · subst hj0; simpa [Addr.add] using this
    · simpa [Addr.add, hj0] using this
  · rw [hq]
    refine h w' ?_ hb'
    have hw2 := hw'.out
    rw [rowZ_splice L M T (by omega)] at hw2
    exact Lib.hid hw2
theorem opCopyTo (u : U8 P t e s) {o : Oper} {a : Act} {w : World} {K : Act → World → Prop} {Qx : Exit → Act → World → Prop} (hgd : o.guard = none) (x y : Operand)
    (ho : o.op = .call { callee := .builtin .copy, args := #[x, y], argTypes := #[t, t] }) (g T q d B2 z zc : Nat) (Dd Ds : Option Addr) (L M : List UInt8)
    (hx : a.eval x = .slice Dd z zc) (hz : z + L.length = T) (hy : a.eval y = .slice Ds q d) (hg : w.heap[g]? = some (.cells (RowZ L T).toArray e (0, 0))) (hr : Rb w B2 Ds q d M) (hfit : L.length + q ≤ T) (hD : L.length < T → Dd = some ⟨g, L.length, none⟩)
    (B : Nat) (w0 : World) (hb : Below B w0 w) (hBg : B ≤ g)
    (h : ∀ w', Hid (w'.heap[g]? = some (.cells (RowZ (L ++ M) T).toArray e (0, 0))) → Below B w0 w' → K (a.put o.dst (goInt q)) w') : Oper.wp P o a w K Qx := by
  have := u.stepCopyTo (ops := #[]) (Qx := Qx) (E := True) hgd x y ho g T q d B2 z zc Dd Ds L M hx hz hy hg hr hfit hD B w0 hb hBg h
  rw [if_pos (by simp [Region.wanted, hgd])] at this
  exact this
theorem _root_.Go.Proofs.YtknmhdkomjjneaaGreatDoor.U8.wpCopyTo (u : U8 P t e s) {ops : Array Oper} {rest : List Oper} {o : Oper} {a : Act} {w : World} {Qx : Exit → Act → World → Prop} (hgd : o.guard = none) (x y : Operand)
    (ho : o.op = .call { callee := .builtin .copy, args := #[x, y], argTypes := #[t, t] }) (g T q d B2 z zc : Nat) (Dd Ds : Option Addr) (L M : List UInt8)
    (hx : a.eval x = .slice Dd z zc) (hz : z + L.length = T) (hy : a.eval y = .slice Ds q d) (hg : w.heap[g]? = some (.cells (RowZ L T).toArray e (0, 0))) (hr : Rb w B2 Ds q d M) (hfit : L.length + q ≤ T) (hD : L.length < T → Dd = some ⟨g, L.length, none⟩)
    (B : Nat) (w0 : World) (hb : Below B w0 w) (hBg : B ≤ g)
    (h : ∀ w', Hid (w'.heap[g]? = some (.cells (RowZ (L ++ M) T).toArray e (0, 0))) → Below B w0 w' → wpList P ops Qx rest (a.put o.dst (goInt q)) w') : wpList P ops Qx (o :: rest) a w :=
  wpList_plain hgd fun _ hK => by
    have := u.stepCopyTo (ops := ops) (Qx := Qx) (E := True) hgd x y ho g T q d B2 z zc Dd Ds L M hx hz hy hg hr hfit hD B w0 hb hBg (fun w' h1 h2 => hK _ _ (h w' h1 h2))
    rw [if_pos (by simp [Region.wanted, hgd])] at this
    exact this
end

set_option maxHeartbeats 1000000 in
set_option maxRecDepth 100000 in
theorem count_c (A : Option Addr) (n c B g : Nat) (l : List UInt8) (w : World) (hr : Rb w B A n c l) (hs : w.cell? ⟨g, 0, none⟩ = some (.int .u8 255)) :
    Calls Tryz.prog 122 #[.slice A n c, .slice (some ⟨g, 0, none⟩) 1 1] w fun e w' => e = .returned (.int .i64 ((l.count 255 : Nat) : Int)) ∧ w = w' := by
  have hl := hr.len
  have hrun : (Extern.BytealgCount.count #[.slice A n c, .int .u8 255]).run Tryz.prog w = .ok (.int .i64 ((l.count 255 : Nat) : Int)) w := by
    cases A with
    | none =>
      have h0 : n = 0 := by
        rcases Nat.eq_zero_or_pos n with h | h
        · exact h
        · obtain ⟨b, off, e, _⟩ := hr.2.2.2 h; cases e
      subst h0
      obtain rfl : l = [] := List.eq_nil_of_length_eq_zero hl
      exact Lib.run_countNil w 0 c 255
    | some a =>
      have h := Lib.run_countAt (P := Tryz.prog) w a n c (l.map fun x => (x.toNat : Int)) (by simpa using hl) (fun i hi => by
        obtain ⟨b', o', x, e, _, hx, hg⟩ := hr.at_ hi
        injection e with e
        subst e
        rw [List.getD_eq_getElem?_getD, List.getElem?_map, hg.1, add_plain]
        exact hx) 255
      rw [bytesOf_map] at h
      exact h
  have H := Lib.hid hrun; clear hrun hr hl
  go_enter Tryz.func122, Tryz.ntmps122
  go_wp2_with fail
  rw [run_callFunc_extern Tryz.func147 (by kernel_rfl) (by kernel_rfl) (by kernel_rfl) (e := Extern.BytealgCount.count) (by kernel_rfl), H.out]
  simp only [Result.andThen]
  rw [Oper.upon_value]
  go_wp2
  go_ret
  exact ⟨rfl, rfl⟩

theorem count_part : ∀ (D : List UInt8), 0 < D.count 255 → ∃ p r, D = p ++ 255 :: r ∧ 255 ∉ p
  | [], h => by simp at h
  | x :: D, h => by
    by_cases hx : x = 255
    · exact ⟨[], D, by simp [hx], by simp⟩
    · rw [List.count_cons_of_ne hx] at h
      obtain ⟨p, r, rfl, h2⟩ := count_part D h
      exact ⟨x :: p, r, rfl, by simp [h2, Ne.symm hx]⟩
theorem esc_self : ∀ p : List UInt8, 255 ∉ p → Sm.esc p = p
  | [], _ => rfl
  | x :: p, h => by
    simp at h
    rw [Sm.esc_no _ (Ne.symm h.1), esc_self p h.2]
theorem index_255 : ∀ (p r : List UInt8), 255 ∉ p → Lib.index (p ++ 255 :: r) [255] = (p.length : Int)
  | [], r, _ => by rw [List.nil_append, Lib.index]; simp [List.isPrefixOf]
  | x :: p, r, h => by
    simp at h
    have ih := index_255 p r h.2
    rw [List.cons_append, Lib.index, ih, if_neg (by simp [List.isPrefixOf, h.1]), if_neg (by simp)]
    simp
def RepRel (base g n m T : Nat) (w : World) (l : List UInt8) (o st i : Value) (wr : World) : Prop :=
  ∃ L : List UInt8, ∃ a k : Nat, o = .int .i64 (L.length : Int) ∧ st = .int .i64 (a : Int) ∧ i = .int .i64 (k : Int) ∧ a ≤ n ∧ k ≤ m ∧ Hid (Sm.esc l = L ++ Sm.esc (l.drop a)) ∧ Hid ((l.drop a).count 255 = m - k) ∧ Hid (wr.heap[g]? = some (.cells (RowZ L T).toArray 5 (0, 0))) ∧ Below base w wr

set_option maxHeartbeats 2000000 in
set_option maxRecDepth 100000 in
theorem replace_c (A : Option Addr) (n c g1 g2 : Nat) (l : List UInt8) (w : World) (hr : Rb w w.heap.size A n c l) (hn : n ≤ 1000000) (h1 : Rb w w.heap.size (some ⟨g1, 0, none⟩) 1 1 [255]) (h2 : Rb w w.heap.size (some ⟨g2, 0, none⟩) 2 2 [255, 0]) (hx : Mx w) :
    Calls Tryz.prog 219 #[.slice A n c, .slice (some ⟨g1, 0, none⟩) 1 1, .slice (some ⟨g2, 0, none⟩) 2 2, .int .i64 (-1)] w (RetB w.heap.size w (Sm.esc l)) := by
  have hl := hr.len
  obtain ⟨X, hX⟩ : ∃ X, X = Sm.esc l := ⟨_, rfl⟩
  obtain ⟨m, hm⟩ : ∃ m, m = l.count 255 := ⟨_, rfl⟩
  have hml : m ≤ n := by rw [hm, ← hl]; exact List.count_le_length
  have hXl : X.length = n + m := by rw [hX, Sm.esc_count, hl, hm]
  have hc1 : w.cell? ⟨g1, 0, none⟩ = some (.int .u8 255) := by
    obtain ⟨b, off, x, e, _, hc, hx, _⟩ := h1.at_ (k := 0) (by omega)
    injection e with e
    injection e with e1 e2
    subst e1 e2
    simp at hx
    subst hx
    exact hc
  have hcnt := count_c A n c _ g1 l w hr hc1
  rw [← hm] at hcnt
  rw [← hX]
  have HX := Lib.hid hX; have Hm := Lib.hid hm; have Hr := Lib.hid hr; have Hl := Lib.hid hl; have Hcnt := Lib.hid hcnt; have H1 := Lib.hid h1; have H2 := Lib.hid h2; have Hx := Lib.hid hx; have HXl := Lib.hid hXl; clear hX hm hr hl hcnt h1 h2 hx hc1 hXl
  by_cases h0 : m = 0
  · subst h0
    have hself : X = l := by
      rw [HX.out]
      refine esc_self l fun h => ?_
      have := List.count_pos_iff.2 h
      have := Hm.out
      omega
    rw [hself]
    have Hself := Lib.hid hself; clear hself
    go_enter Tryz.func219, Tryz.ntmps219
    go_wp2_with fail
    refine Hcnt.out.mono ?_
    rintro e w' ⟨rfl, rfl⟩
    go_wp2_with (at_builtin; refine wpList_plain rfl fun _ hK => ?_; refine bty.opApp (Operand.const (Value.slice none 0 0)) (.tmp 24) rfl (l := []) (r := l) (n := 0) rfl rfl rfl (Own.nil w 5 w.heap.size) Hr.out ?hs1 (Nat.le_refl _) ?_)
    case hs1 => rw [Hl.out]; simp; omega
    intro A2 c2 w2 hown2 hb2
    refine hK _ _ ?_
    go_wp2
    go_ret
    exact ⟨A2, c2, rfl, hown2, hb2⟩
  · obtain ⟨T, hT⟩ : ∃ T, T = n + m := ⟨_, rfl⟩
    have hmk := bty.make w T ((n : Int) + (m : Int)) ((n : Int) + (m : Int)) T (by omega) (by omega) (Nat.le_refl _) (by omega)
    rw [rowZ_made] at hmk
    obtain ⟨w1, hw1⟩ : ∃ w1, w1 = w.alloc (.cells (RowZ [] T).toArray 5) := ⟨_, rfl⟩
    rw [← hw1] at hmk
    have hg1 : w1.heap[w.heap.size]? = some (.cells (RowZ [] T).toArray 5 (0, 0)) := by rw [hw1]; exact heap_alloc_new w _
    have hb1 : Below w.heap.size w w1 := by rw [hw1]; exact (Below.refl _ _).alloc (Nat.le_refl _) _
    have Hg1 := Lib.hid hg1; have HT := Lib.hid hT; have hTb : T ≤ 2000000 := (by omega); clear hg1 hw1 hT
    have hm0 : ((m : Int) == 0) = false := by simp; omega
    go_enter Tryz.func219, Tryz.ntmps219
    go_wp2_with fail
    refine Hcnt.out.mono ?_
    rintro e w' ⟨rfl, rfl⟩
    go_wp2
    go_loopw [11, 12, 49] (fun o st i wr => RepRel w.heap.size w.heap.size n m T w l o st i wr) (fun _ _ i _ => m - (intOf i).toNat)
    case atStart => exact ⟨[], 0, 0, rfl, rfl, rfl, Nat.zero_le _, Nat.zero_le _, Lib.hid (by simp), Lib.hid (by have := Hm.out; simp; omega), Hg1, hb1⟩
    case round =>
      obtain ⟨L, a, k, rfl, rfl, rfl, ha, hk, HL, HC, HG, hbel⟩ := hrel
      have z1 := hbel.size
      have hl2 := congrArg List.length HL.out
      rw [List.length_append, Sm.esc_count (l.drop a), HC.out, List.length_drop, ← HX.out, HXl.out, Hl.out] at hl2
      by_cases hlt : k < m
      · obtain ⟨p, r, hpr, hp⟩ := count_part (l.drop a) (by rw [HC.out]; omega)
        have hpl := congrArg List.length hpr
        rw [List.length_drop, Hl.out, List.length_append, List.length_cons] at hpl
        obtain ⟨j, hj⟩ : ∃ j, j = a + p.length := ⟨_, rfl⟩
        have hjn : j + 1 ≤ n := by omega
        have hdr : l.drop (j + 1) = r := by
          rw [show j + 1 = a + (p.length + 1) by omega, ← List.drop_drop, hpr, List.drop_append, List.drop_of_length_le (by omega)]
          simp
        have hmidl : (l.take j).drop a = p := by
          rw [List.drop_take, hpr, show j - a = p.length by omega, List.take_left' rfl]
        have hidx : Lib.index (l.drop a) [255] = ((p.length : Nat) : Int) := by rw [hpr]; exact index_255 p r hp
        obtain ⟨q, hq⟩ : ∃ q, q = p.length := ⟨_, rfl⟩
        rw [← hq] at hidx hj hpl
        have hr1 := (Hr.out.below hbel).more z1
        obtain ⟨D, hD, hrD⟩ := bty.from_ hr1 ha (a : Int) rfl
        have hcall := index_c D (n - a) (c - a) _ _ g1 1 1 (l.drop a) [255] wr hrD (by omega) (.inr (by omega)) (Nat.le_refl _) (H1.out.below hbel) (Hx.out.below hbel Hx.out.2)
        rw [hidx] at hcall
        have hLe : Sm.esc l = (L ++ p) ++ [255, 0] ++ Sm.esc (l.drop (j + 1)) := by
          rw [HL.out, hdr, hpr, Sm.esc_app, Sm.esc_ff, esc_self p hp]
          simp
        have hCe : (l.drop (j + 1)).count 255 = m - (k + 1) := by
          have := HC.out
          rw [hpr, List.count_append, List.count_cons_self, List.count_eq_zero.2 hp] at this
          rw [hdr]
          omega
        have Hcall := Lib.hid hcall; have HLe := Lib.hid hLe; have HCe := Lib.hid hCe; have Hq := Lib.hid hq; have Hmid := Lib.hid hmidl; have hLT : L.length + q + 2 ≤ T := by (have := HT.out; omega)
        clear hcall hLe hCe hq hpr hpl hidx hdr hmidl hp hr1 hrD hl2
        obtain ⟨W, hW⟩ : ∃ W, W = L.length := ⟨_, rfl⟩
        go_wp2_with fail
        refine Hcall.out.mono ?_
        rintro e w2 ⟨rfl, hb2⟩
        have hb02 := hbel.trans (hb2.mono z1)
        have z2 := hb02.size
        have hg2 : w2.heap[w.heap.size]? = some (.cells (RowZ L T).toArray 5 (0, 0)) := (hb2.block w.heap.size (Array.getElem?_eq_some_iff.1 HG.out).1).trans HG.out
        obtain ⟨Dt, hDt, hDtp⟩ := bty.fromRow (P := Tryz.prog) w.heap.size T L.length (by omega)
        obtain ⟨Dm, hDm, hrDm⟩ := bty.mid_ (Hr.out.below hb02) (i := a) (k := j) (by omega) (by omega) (a : Int) ((a : Int) + (q : Int)) rfl (by omega) q (by omega)
        rw [Hmid.out] at hrDm
        have Hr2 := Lib.hid hrDm; have Hg2 := Lib.hid hg2; have Hb02 := Lib.hid hb02; have HDt := Lib.hid hDtp; clear hrDm hg2 hb02 hDtp Hcall hb2
        go_upto_region 15 with fail
        refine wp_region_schedT [(false, 0), (false, 1), (false, 2), (false, 3), (false, 4), (false, 5), (false, 6), (false, 7), (true, 8), (false, 9), (false, 10)] (by kernel_rfl) (by kernel_rfl) (by kernel_rfl) (by kernel_rfl) (fun _ _ d _ _ h => by cases d <;> exact h) ?_
        refine wpT_read (o := { dst := some 58, op := Go.Op.move (Go.Operand.tmp 11), type := 3, pos := "bytes.go:1183", after := #[], guard := none }) (v := .int .i64 ((L.length : Int))) rfl (by rfl) ?_ ?_
        · intro w' _; go_simp
        try simp only [Act.put, List.setIfInBounds_toArray, List.set_cons_zero, List.set_cons_succ]
        refine wpT_read (o := { dst := some 59, op := Go.Op.move (Go.Operand.tmp 10), type := 22, pos := "bytes.go:1183", after := #[], guard := none }) (v := .slice (some ⟨w.heap.size, 0, none⟩) T T) rfl (by rfl) ?_ ?_
        · intro w' _; go_simp
        try simp only [Act.put, List.setIfInBounds_toArray, List.set_cons_zero, List.set_cons_succ]
        refine wpT_read (o := { dst := some 60, op := Go.Op.move (Go.Operand.tmp 11), type := 3, pos := "bytes.go:1183", after := #[], guard := none }) (v := .int .i64 ((L.length : Int))) rfl (by rfl) ?_ ?_
        · intro w' _; go_simp
        try simp only [Act.put, List.setIfInBounds_toArray, List.set_cons_zero, List.set_cons_succ]
        refine wpT_read (o := { dst := some 61, op := Go.Op.slice 22 (Go.Operand.tmp 59) (some (Go.Operand.tmp 60)) none none, type := 22, pos := "bytes.go:1183", after := #[{ on := 1, ground := Go.Ground.data }, { on := 2, ground := Go.Ground.data }], guard := none }) (v := .slice Dt (T - L.length) (T - L.length)) rfl (by rfl) ?_ ?_
        · intro w' _; go_simp
        try simp only [Act.put, List.setIfInBounds_toArray, List.set_cons_zero, List.set_cons_succ]
        refine wpT_read (o := { dst := some 62, op := Go.Op.move (Go.Operand.tmp 0), type := 22, pos := "bytes.go:1183", after := #[], guard := none }) (v := .slice A n c) rfl (by rfl) ?_ ?_
        · intro w' _; go_simp
        try simp only [Act.put, List.setIfInBounds_toArray, List.set_cons_zero, List.set_cons_succ]
        refine wpT_read (o := { dst := some 63, op := Go.Op.move (Go.Operand.tmp 12), type := 3, pos := "bytes.go:1183", after := #[], guard := none }) (v := .int .i64 ((a : Int))) rfl (by rfl) ?_ ?_
        · intro w' _; go_simp
        try simp only [Act.put, List.setIfInBounds_toArray, List.set_cons_zero, List.set_cons_succ]
        refine wpT_read (o := { dst := some 64, op := Go.Op.move (Go.Operand.tmp 13), type := 3, pos := "bytes.go:1183", after := #[], guard := none }) (v := .int .i64 ((a : Int) + (q : Int))) rfl (by rfl) ?_ ?_
        · intro w' _; go_simp
        try simp only [Act.put, List.setIfInBounds_toArray, List.set_cons_zero, List.set_cons_succ]
        refine wpT_read (o := { dst := some 65, op := Go.Op.slice 22 (Go.Operand.tmp 62) (some (Go.Operand.tmp 63)) (some (Go.Operand.tmp 64)) none, type := 22, pos := "bytes.go:1183", after := #[{ on := 4, ground := Go.Ground.data }, { on := 5, ground := Go.Ground.data }, { on := 6, ground := Go.Ground.data }], guard := none }) (v := .slice Dm q (c - a)) rfl (by rfl) ?_ ?_
        · intro w' _; go_simp
        try simp only [Act.put, List.setIfInBounds_toArray, List.set_cons_zero, List.set_cons_succ]
        refine wpT_call (o := { dst := some 66, op := Go.Op.call { callee := Go.Callee.builtin Go.Builtin.copy, args := #[Go.Operand.tmp 61, Go.Operand.tmp 65], argTypes := #[22, 22] }, type := 3, pos := "bytes.go:1183", after := #[{ on := 3, ground := Go.Ground.data }, { on := 7, ground := Go.Ground.data }], guard := none }) rfl (by rfl) (fun K hK => ?_)
        refine opCopyTo bty rfl (.tmp 61) (.tmp 65) rfl w.heap.size T q (c - a) w.heap.size (T - L.length) (T - L.length) Dt Dm L p rfl (by omega) rfl Hg2.out (Hr2.out.drewN 1) (by omega) HDt.out w.heap.size w (below_drewN Hb02.out 1) (Nat.le_refl _) ?_
        intro w3 hg3 hb3
        refine hK.out _ _ trivial ?_
        clear hK K
        try simp only [Act.put, List.setIfInBounds_toArray, List.set_cons_zero, List.set_cons_succ]
        refine wpT_read (o := { dst := some 67, op := Go.Op.binOp Go.BinOp.add 3 (Go.Operand.tmp 58) (Go.Operand.tmp 66) 3, type := 3, pos := "bytes.go:1183", after := #[{ on := 0, ground := Go.Ground.data }, { on := 8, ground := Go.Ground.data }], guard := none }) (v := .int .i64 ((L.length : Int) + (q : Int))) rfl (by rfl) ?_ ?_
        · intro w' _; go_simp; rw [IntKind.wrap_i64]; omega
        try simp only [Act.put, List.setIfInBounds_toArray, List.set_cons_zero, List.set_cons_succ]
        refine wpT_read (o := { dst := some 11, op := Go.Op.assign (Go.Operand.tmp 67), type := 3, pos := "bytes.go:1183", after := #[{ on := 9, ground := Go.Ground.data }, { on := 8, ground := Go.Ground.chain }, { on := 0, ground := Go.Ground.phase }, { on := 1, ground := Go.Ground.phase }, { on := 2, ground := Go.Ground.phase }, { on := 3, ground := Go.Ground.phase }, { on := 4, ground := Go.Ground.phase }, { on := 5, ground := Go.Ground.phase }, { on := 6, ground := Go.Ground.phase }, { on := 7, ground := Go.Ground.phase }, { on := 8, ground := Go.Ground.phase }, { on := 9, ground := Go.Ground.phase }], guard := none }) (v := .int .i64 ((L.length : Int) + (q : Int))) rfl (by rfl) ?_ ?_
        · intro w' _; go_simp
        try simp only [Act.put, List.setIfInBounds_toArray, List.set_cons_zero, List.set_cons_succ]
        refine wpT_done ?_
        have hLp : (L ++ p).length = L.length + q := by rw [List.length_append, Hq.out]
        have hz3 := hb3.size
        obtain ⟨L2, hL2⟩ : ∃ L2, L2 = L ++ p := ⟨_, rfl⟩
        have hL2l : L2.length = L.length + q := by rw [hL2]; exact hLp
        rw [← hL2] at hg3
        have HL2 := Lib.hid hL2
        obtain ⟨De, hDe, hDep⟩ := bty.fromRow (P := Tryz.prog) w.heap.size T (L.length + q) (by omega)
        have hDe' : ∀ W kd, (Instr.slice 22 (.slice (some ⟨w.heap.size, 0, none⟩) T T) (some (.int kd ((L.length : Int) + (q : Int)))) none none).run Tryz.prog W = .ok (.slice De (T - (L.length + q)) (T - (L.length + q))) W := fun W kd => by have := hDe W kd; rwa [show ((L.length + q : Nat) : Int) = (L.length : Int) + (q : Int) by omega] at this
        rw [← hL2l] at hDep
        have HDe := Lib.hid hDep; have HL2l := Lib.hid hL2l; have Hb3 := Lib.hid hb3
        clear hDe hDep hL2l hLp hL2 Hg2 Hr2 Hb02 HDt hDt hDm hb3
        go_wp2_with (with_reducible refine bty.wpCopyTo rfl (.tmp 71) (.tmp 72) rfl w.heap.size T 2 2 w.heap.size (T - (L.length + q)) (T - (L.length + q)) De (some ⟨g2, 0, none⟩) L2 [255, 0] rfl ?k1 rfl hg3.out (H2.out.below Hb3.out) ?k2 HDe.out w.heap.size w Hb3.out (Nat.le_refl _) ?_)
        case k1 => have := HL2l.out; omega
        case k2 => have := HL2l.out; omega
        intro w4 hg4 hb4
        go_wp2
        go_roundw
        case rel => exact ⟨L2 ++ [255, 0], j + 1, k + 1, by have := HL2l.out; simp; omega, by go_num, by go_num, by omega, by omega, Lib.hid (by rw [HLe.out, HL2.out]), HCe, hg4, hb4⟩
        case measure => simp [intOf]; omega
      · have hkm : k = m := by omega
        subst hkm
        have hnoc : 255 ∉ l.drop a := fun h => by
          have h1 := List.count_pos_iff.2 h
          have h2 := HC.out
          omega
        have hLe : X = L ++ l.drop a := by rw [HX.out, HL.out, esc_self _ hnoc]
        have hLT : L.length + (n - a) = T := by have := HT.out; omega
        obtain ⟨Dt, hDt, hDtp⟩ := bty.fromRow (P := Tryz.prog) w.heap.size T L.length (by omega)
        have hr1 := (Hr.out.below hbel).more z1
        obtain ⟨Dm, hDm, hrDm⟩ := bty.from_ (Hr.out.below hbel) ha (a : Int) rfl
        have Hr2 := Lib.hid hrDm; have HDt := Lib.hid hDtp; have HLe := Lib.hid hLe; have HLT := Lib.hid hLT; clear hrDm hDtp hLe hnoc hl2 hr1 hLT
        go_upto_region 28 with fail
        refine wp_region_schedT [(false, 0), (false, 1), (false, 2), (false, 3), (false, 4), (false, 5), (false, 6), (true, 7), (false, 8), (false, 9)] (by kernel_rfl) (by kernel_rfl) (by kernel_rfl) (by kernel_rfl) (fun _ _ d _ _ h => by cases d <;> exact h) ?_
        refine wpT_read (o := { dst := some 120, op := Go.Op.move (Go.Operand.tmp 11), type := 3, pos := "bytes.go:1197", after := #[], guard := none }) (v := .int .i64 ((L.length : Int))) rfl (by rfl) ?_ ?_
        · intro w' _; go_simp
        try simp only [Act.put, List.setIfInBounds_toArray, List.set_cons_zero, List.set_cons_succ]
        refine wpT_read (o := { dst := some 121, op := Go.Op.move (Go.Operand.tmp 10), type := 22, pos := "bytes.go:1197", after := #[], guard := none }) (v := .slice (some ⟨w.heap.size, 0, none⟩) T T) rfl (by rfl) ?_ ?_
        · intro w' _; go_simp
        try simp only [Act.put, List.setIfInBounds_toArray, List.set_cons_zero, List.set_cons_succ]
        refine wpT_read (o := { dst := some 122, op := Go.Op.move (Go.Operand.tmp 11), type := 3, pos := "bytes.go:1197", after := #[], guard := none }) (v := .int .i64 ((L.length : Int))) rfl (by rfl) ?_ ?_
        · intro w' _; go_simp
        try simp only [Act.put, List.setIfInBounds_toArray, List.set_cons_zero, List.set_cons_succ]
        refine wpT_read (o := { dst := some 123, op := Go.Op.slice 22 (Go.Operand.tmp 121) (some (Go.Operand.tmp 122)) none none, type := 22, pos := "bytes.go:1197", after := #[{ on := 1, ground := Go.Ground.data }, { on := 2, ground := Go.Ground.data }], guard := none }) (v := .slice Dt (T - L.length) (T - L.length)) rfl (by rfl) ?_ ?_
        · intro w' _; go_simp
        try simp only [Act.put, List.setIfInBounds_toArray, List.set_cons_zero, List.set_cons_succ]
        refine wpT_read (o := { dst := some 124, op := Go.Op.move (Go.Operand.tmp 0), type := 22, pos := "bytes.go:1197", after := #[], guard := none }) (v := .slice A n c) rfl (by rfl) ?_ ?_
        · intro w' _; go_simp
        try simp only [Act.put, List.setIfInBounds_toArray, List.set_cons_zero, List.set_cons_succ]
        refine wpT_read (o := { dst := some 125, op := Go.Op.move (Go.Operand.tmp 12), type := 3, pos := "bytes.go:1197", after := #[], guard := none }) (v := .int .i64 ((a : Int))) rfl (by rfl) ?_ ?_
        · intro w' _; go_simp
        try simp only [Act.put, List.setIfInBounds_toArray, List.set_cons_zero, List.set_cons_succ]
        refine wpT_read (o := { dst := some 126, op := Go.Op.slice 22 (Go.Operand.tmp 124) (some (Go.Operand.tmp 125)) none none, type := 22, pos := "bytes.go:1197", after := #[{ on := 4, ground := Go.Ground.data }, { on := 5, ground := Go.Ground.data }], guard := none }) (v := .slice Dm (n - a) (c - a)) rfl (by rfl) ?_ ?_
        · intro w' _; go_simp
        try simp only [Act.put, List.setIfInBounds_toArray, List.set_cons_zero, List.set_cons_succ]
        refine wpT_call (o := { dst := some 127, op := Go.Op.call { callee := Go.Callee.builtin Go.Builtin.copy, args := #[Go.Operand.tmp 123, Go.Operand.tmp 126], argTypes := #[22, 22] }, type := 3, pos := "bytes.go:1197", after := #[{ on := 3, ground := Go.Ground.data }, { on := 6, ground := Go.Ground.data }], guard := none }) rfl (by rfl) (fun K hK => ?_)
        refine opCopyTo bty rfl (.tmp 123) (.tmp 126) rfl w.heap.size T (n - a) (c - a) w.heap.size (T - L.length) (T - L.length) Dt Dm L (l.drop a) rfl (by have := HLT.out; omega) rfl HG.out (Hr2.out.drewN 1) (by have := HLT.out; omega) HDt.out w.heap.size w (below_drewN hbel 1) (Nat.le_refl _) ?_
        intro w3 hg3 hb3
        refine hK.out _ _ trivial ?_
        clear hK K
        try simp only [Act.put, List.setIfInBounds_toArray, List.set_cons_zero, List.set_cons_succ]
        refine wpT_read (o := { dst := some 128, op := Go.Op.binOp Go.BinOp.add 3 (Go.Operand.tmp 120) (Go.Operand.tmp 127) 3, type := 3, pos := "bytes.go:1197", after := #[{ on := 0, ground := Go.Ground.data }, { on := 7, ground := Go.Ground.data }], guard := none }) (v := .int .i64 ((T : Int))) rfl (by rfl) ?_ ?_
        · intro w' _; go_simp; rw [IntKind.wrap_i64]; have := HLT.out; omega
        try simp only [Act.put, List.setIfInBounds_toArray, List.set_cons_zero, List.set_cons_succ]
        refine wpT_read (o := { dst := some 11, op := Go.Op.assign (Go.Operand.tmp 128), type := 3, pos := "bytes.go:1197", after := #[{ on := 8, ground := Go.Ground.data }, { on := 7, ground := Go.Ground.chain }, { on := 0, ground := Go.Ground.phase }, { on := 1, ground := Go.Ground.phase }, { on := 2, ground := Go.Ground.phase }, { on := 3, ground := Go.Ground.phase }, { on := 4, ground := Go.Ground.phase }, { on := 5, ground := Go.Ground.phase }, { on := 6, ground := Go.Ground.phase }, { on := 7, ground := Go.Ground.phase }, { on := 8, ground := Go.Ground.phase }], guard := none }) (v := .int .i64 ((T : Int))) rfl (by rfl) ?_ ?_
        · intro w' _; go_simp
        try simp only [Act.put, List.setIfInBounds_toArray, List.set_cons_zero, List.set_cons_succ]
        refine wpT_done ?_
        have hfull : (L ++ l.drop a) = X := HLe.out.symm
        have hXT : X.length = T := by have := HXl.out; have := HT.out; omega
        rw [hfull, ← hXT] at hg3
        have hown := own_rowZ hg3.out (Nat.le_refl w.heap.size) (by omega)
        rw [← hXT]
        clear hfull hg3 hXT hbel
        go_wp2
        go_ret
        exact ⟨_, _, rfl, hown, hb3⟩
end Go.Proofs.YtknmhdkomjjneaaGreatDoor.Sq

/-
  bytes.ReplaceAll, seq's Escape; bytes.HasPrefix, CutPrefix, Equal: what each call returns.
-/

namespace Go.Proofs.YtknmhdkomjjneaaGreatDoor.Sq
open Go.RowKit

set_option maxRecDepth 100000 in
theorem replAll_c (A : Option Addr) (n c g1 g2 : Nat) (l : List UInt8) (w : World) (hr : Rb w w.heap.size A n c l) (hn : n ≤ 1000000) (h1 : Rb w w.heap.size (some ⟨g1, 0, none⟩) 1 1 [255]) (h2 : Rb w w.heap.size (some ⟨g2, 0, none⟩) 2 2 [255, 0]) (hx : Mx w) :
    Calls Tryz.prog 192 #[.slice A n c, .slice (some ⟨g1, 0, none⟩) 1 1, .slice (some ⟨g2, 0, none⟩) 2 2] w (RetB w.heap.size w (Sm.esc l)) := by
  have H := Lib.hid (replace_c A n c g1 g2 l w hr hn h1 h2 hx); clear hr h1 h2 hx
  go_enter Tryz.func192, Tryz.ntmps192
  go_wp2_with fail
  refine H.out.mono ?_
  rintro e w' ⟨A', c', rfl, ho, hb⟩
  go_wp2
  go_ret
  exact ⟨A', c', rfl, ho, hb⟩

set_option maxRecDepth 100000 in
theorem esc_c (A : Option Addr) (n c : Nat) (l : List UInt8) (w : World) (hr : Rb w w.heap.size A n c l) (hn : n ≤ 1000000) (hx : Mx w) :
    Calls Tryz.prog 159 #[.slice A n c] w (RetB w.heap.size w (Sm.esc l)) := by
  obtain ⟨w1, hw1⟩ : ∃ w1, w1 = w.alloc (.cells #[.int .u8 255] 5) := ⟨_, rfl⟩
  obtain ⟨w2, hw2⟩ : ∃ w2, w2 = w1.alloc (.cells #[.int .u8 255, .int .u8 0] 5) := ⟨_, rfl⟩
  have z1 : w1.heap.size = w.heap.size + 1 := by rw [hw1]; simp
  have z2 : w2.heap.size = w.heap.size + 2 := by rw [hw2]; simp [z1]
  have b1 : Below w.heap.size w w1 := by rw [hw1]; exact (Below.refl _ _).alloc (Nat.le_refl _) _
  have b12 : Below w1.heap.size w1 w2 := by rw [hw2]; exact (Below.refl _ _).alloc (Nat.le_refl _) _
  have b2 : Below w.heap.size w w2 := b1.trans (b12.mono b1.size)
  have r1 : Rb w1 w1.heap.size (some ⟨w.heap.size, 0, none⟩) 1 1 [255] := by rw [hw1]; exact (Rb.lit w _ _ _ _ 1 rfl rfl (by omega)).more (by simp)
  have r2 : Rb w2 w2.heap.size (some ⟨w1.heap.size, 0, none⟩) 2 2 [255, 0] := by rw [hw2]; exact (Rb.lit w1 _ _ _ _ 2 rfl rfl (by omega)).more (by simp)
  have H := replAll_c A n c w.heap.size w1.heap.size l w2 ((hr.below b2).more b2.size) hn ((r1.below b12).more b12.size) r2 (hx.below' b2)
  rw [z1] at H
  have H2 : Calls Tryz.prog 192 #[.slice A n c, .slice (some ⟨w.heap.size, 0, none⟩) 1 1, .slice (some ⟨w.heap.size + 1, 0, none⟩) 2 2] w2 (RetB w.heap.size w (Sm.esc l)) :=
    H.mono fun e w' ⟨A', c', he, ho, hb⟩ => ⟨A', c', he, ho.mono b2.size, b2.trans (hb.mono b2.size)⟩
  rw [hw2, hw1] at H2
  have HH := Lib.hid H2
  clear H H2 r1 r2 b2 b12 b1 z2 z1 hw2 hw1 hr hx w2 w1
  go_enter Tryz.func159, Tryz.ntmps159
  go_wp2_with fail
  refine HH.out.mono ?_
  rintro e w' ⟨A', c', rfl, ho, hb⟩
  go_wp2
  go_ret
  exact ⟨A', c', rfl, ho, hb⟩

set_option maxRecDepth 100000 in
theorem equal_c (A D : Option Addr) (n c m d B B' : Nat) (l r : List UInt8) (w : World) (h1 : Rb w B A n c l) (h2 : Rb w B' D m d r) (o : Bool) (ho : o = (l == r)) :
    Calls Tryz.prog 149 #[.slice A n c, .slice D m d] w fun e w' => e = .returned (.bool o) ∧ w = w' := by
  have cv1 := bty.conv h1
  have cv2 := bty.conv h2
  clear h1 h2
  by_cases h : l = r
  · subst h
    obtain rfl : o = true := by rw [ho]; simp
    clear ho
    go_enter Tryz.func149, Tryz.ntmps149
    go_wp2
    go_ret
    exact ⟨rfl, rfl⟩
  · obtain rfl : o = false := by rw [ho]; simpa using h
    clear ho
    go_enter Tryz.func149, Tryz.ntmps149
    go_wp2
    go_ret
    exact ⟨by first | rfl | simp [h], rfl⟩


set_option maxRecDepth 100000 in
theorem hasp_c (A D : Option Addr) (n c k d B B' : Nat) (l r : List UInt8) (w : World) (h1 : Rb w B A n c l) (h2 : Rb w B' D k d r) (o : Bool) (ho : o = decide (l.take k = r)) :
    Calls Tryz.prog 123 #[.slice A n c, .slice D k d] w fun e w' => e = .returned (.bool o) ∧ w = w' := by
  have hl := h1.len
  have hr := h2.len
  by_cases h : k ≤ n
  · obtain ⟨E, hE, hrE⟩ := bty.upto_ h1 h (k : Int) rfl
    have he := equal_c E D k c k d B B' (l.take k) r w hrE h2 o (by rw [ho, Bool.eq_iff_iff]; simp)
    have H := Lib.hid he
    have hle : (k : Int) ≤ (n : Int) := by omega
    clear he hrE h1 h2 ho hl hr
    go_enter Tryz.func123, Tryz.ntmps123
    go_wp2_with fail
    refine H.out.mono ?_
    rintro e w' ⟨rfl, rfl⟩
    go_wp2
    go_ret
    exact ⟨rfl, rfl⟩
  · obtain rfl : o = false := by
      rw [ho]
      refine decide_eq_false fun e => ?_
      have := congrArg List.length e
      rw [List.length_take] at this
      omega
    have hle : ¬ (k : Int) ≤ (n : Int) := by omega
    clear ho h1 h2 hl hr
    go_enter Tryz.func123, Tryz.ntmps123
    go_wp2
    go_ret
    exact ⟨rfl, rfl⟩

set_option maxRecDepth 100000 in
theorem cutp_yes (A D : Option Addr) (n c k d B B' : Nat) (l r : List UInt8) (w : World) (h1 : Rb w B A n c l) (h2 : Rb w B' D k d r) (ho : l.take k = r) :
    Calls Tryz.prog 153 #[.slice A n c, .slice D k d] w fun e w' => (∃ E, e = .returned (.tuple #[.slice E (n - k) (c - k), .bool true]) ∧ Rb w B E (n - k) (c - k) (l.drop k)) ∧ w = w' := by
  have hl := h1.len
  have hr := h2.len
  have hk : k ≤ n := by
    have := congrArg List.length ho
    rw [List.length_take] at this
    omega
  obtain ⟨E, hE, hrE⟩ := bty.from_ h1 hk (k : Int) rfl
  have H := Lib.hid (hasp_c A D n c k d B B' l r w h1 h2 true (by rw [ho]; simp))
  have HrE := Lib.hid hrE
  clear h1 h2 ho hl hr hrE
  go_enter Tryz.func153, Tryz.ntmps153
  go_wp2_with fail
  refine H.out.mono ?_
  rintro e w' ⟨rfl, rfl⟩
  go_wp2
  go_ret2
  exact ⟨⟨E, rfl, HrE.out⟩, rfl⟩
set_option maxRecDepth 100000 in
theorem cutp_no (A D : Option Addr) (n c k d B B' : Nat) (l r : List UInt8) (w : World) (h1 : Rb w B A n c l) (h2 : Rb w B' D k d r) (ho : l.take k ≠ r) :
    Calls Tryz.prog 153 #[.slice A n c, .slice D k d] w fun e w' => e = .returned (.tuple #[.slice A n c, .bool false]) ∧ w = w' := by
  have H := Lib.hid (hasp_c A D n c k d B B' l r w h1 h2 false (by simp [ho]))
  clear h1 h2 ho
  go_enter Tryz.func153, Tryz.ntmps153
  go_wp2_with fail
  refine H.out.mono ?_
  rintro e w' ⟨rfl, rfl⟩
  go_wp2
  go_ret2
  exact ⟨rfl, rfl⟩
end Go.Proofs.YtknmhdkomjjneaaGreatDoor.Sq

/-
  seq's takeContents: what the call returns and leaves.
-/
namespace Go.Proofs.YtknmhdkomjjneaaGreatDoor.Sq
open Go.RowKit

set_option maxRecDepth 100000 in
set_option maxHeartbeats 1000000 in
theorem takeCount_yes (A : Option Addr) (n c B : Nat) (l : List UInt8) (w : World) (hr : Rb w B A n c l) (hB : B ≤ w.heap.size) (hn : n ≤ 1000000) (a s : Nat) (ht : Vm.tk l = (a, s, 0)) (ha1 : 1 ≤ a) (ha : a ≤ 100) :
    Calls Tryz.prog 188 #[.slice A n c] w fun e w' => ∃ E d, e = .returned (.tuple #[.int .i64 (a : Int), .slice E (l.drop s).length d, .bool true]) ∧ Rb w' B E (l.drop s).length d (l.drop s) ∧ Below w.heap.size w w' := by
  have hl := hr.len
  obtain ⟨h, hmin, hh⟩ : ∃ h : Nat, min (n : Int) 10 = (h : Int) ∧ (h = 10 ∨ h = l.length) := by
    by_cases hc : n ≤ 10
    · exact ⟨n, by omega, .inr (by omega)⟩
    · exact ⟨10, by omega, .inl rfl⟩
  have hhn : h ≤ n := by omega
  have hs0 := Vm.tk_size l
  rw [ht] at hs0
  dsimp only at hs0
  have htk : Vm.tk (l.take h) = (a, s, 0) := by
    rcases hh with rfl | rfl
    · exact Sm.tk_take l 10 (Nat.le_refl _) a s ht
    · rw [List.take_of_length_le (Nat.le_refl _)]; exact ht
  obtain ⟨D, hD, hrD⟩ := bty.upto_ hr (k := h) hhn (min (n : Int) 10) hmin
  have hDl := hrD.len
  have hrD' := hrD.more hB
  have hsn : s ≤ n := by omega
  obtain ⟨E, hE, hrE⟩ := bty.from_ hr (k := s) hsn (s : Int) rfl
  have ct := take_c D h c (l.take h)
  have c1 : ∀ W, Rb W W.heap.size D h c (l.take h) → Calls Tryz.prog 206 #[.slice D h c] W (RetT W.heap.size W (a, (l.take h).drop s, 0)) := fun W hW => by
    have := ct W hW (by omega)
    rwa [takeS_ok _ a s htk] at this
  have hlen : ((l.take h).drop s).length = h - s := by rw [List.length_drop, hDl]
  have hdl : (l.drop s).length = n - s := by rw [List.length_drop, hl]
  have hsh : s ≤ h := by have := Vm.tk_size (l.take h); rw [htk, hDl] at this; exact this.1
  have e1 : IntKind.i64.wrap ((h : Int) - ((h - s : Nat) : Int)) = (s : Int) := by rw [IntWalk.i64_in _ (by omega)]; omega
  have e2 : ((h : Int) - ((h - s : Nat) : Int)) = (s : Int) := by omega
  have e3 : decide ((a : Int) < 1) = false := decide_eq_false (by omega)
  have e4 : decide ((a : Int) > 100) = false := decide_eq_false (by omega)
  have HrD := Lib.hid hrD'; have C1 := Lib.hid c1; have Hl := Lib.hid hlen; have HrE := Lib.hid hrE; have Hdl := Lib.hid hdl
  clear hr hrD hrD' c1 ct ht htk hrE hlen hl hDl hh hmin hdl hs0
  go_enter Tryz.func188, Tryz.ntmps188
  go_wp2_with fail
  refine (C1.out _ HrD.out).mono ?_
  rw [show (RetT w.heap.size w (a, (l.take h).drop s, 0)) = fun e w' => ∃ A c, e = .returned (.tuple #[.int .u64 (a : Int), .slice A (h - s) c, .int .i64 0]) ∧ Own w' 5 w.heap.size A c ((l.take h).drop s) ∧ Below w.heap.size w w' by unfold RetT; rw [Hl.out]; rfl]
  rintro e w1 ⟨A1, c1, rfl, hown1, hb1⟩
  clear hown1
  go_wp2_with fail
  go_quiet (fail)
  go_wp2
  go_ret3
  refine ⟨E, c - s, ?_, ?_, below_drewN hb1 _⟩
  · rw [Hdl.out]; rfl
  · rw [Hdl.out]
    exact (HrE.out.keep fun p hp => hb1.cell (by omega)).drewN _

set_option maxRecDepth 100000 in
set_option maxHeartbeats 1000000 in
theorem takeCount_no (A : Option Addr) (n c B : Nat) (l : List UInt8) (w : World) (hr : Rb w B A n c l) (hB : B ≤ w.heap.size) (hn : n ≤ 1000000) (hno : ∀ a s, Vm.tk l = (a, s, 0) → ¬ (1 ≤ a ∧ a ≤ 100)) :
    Calls Tryz.prog 188 #[.slice A n c] w fun e w' => e = .returned (.tuple #[.int .i64 0, .slice none 0 0, .bool false]) ∧ Below w.heap.size w w' := by
  have hl := hr.len
  obtain ⟨h, hmin, hh⟩ : ∃ h : Nat, min (n : Int) 10 = (h : Int) ∧ (h = 10 ∨ h = l.length) := by
    by_cases hc : n ≤ 10
    · exact ⟨n, by omega, .inr (by omega)⟩
    · exact ⟨10, by omega, .inl rfl⟩
  have hhn : h ≤ n := by omega
  obtain ⟨D, hD, hrD⟩ := bty.upto_ hr (k := h) hhn (min (n : Int) 10) hmin
  have hrD' := hrD.more hB
  have ct := take_c D h c (l.take h)
  rcases tk_cases (l.take h) with ⟨a, s, ht, ha, hs, hs10⟩ | ⟨x, ht, hx⟩
  · have ht2 : Vm.tk l = (a, s, 0) := by
      have := Sm.tk_app _ (l.drop h) a s ht
      rwa [List.take_append_drop] at this
    have hn2 := hno a s ht2
    have c1 : ∀ W, Rb W W.heap.size D h c (l.take h) → Calls Tryz.prog 206 #[.slice D h c] W fun e w' => ∃ A m c, e = .returned (.tuple #[.int .u64 (a : Int), .slice A m c, .int .i64 0]) ∧ Below W.heap.size W w' := fun W hW => by
      have := ct W hW (by omega)
      rw [takeS_ok _ a s ht] at this
      exact this.mono fun e w' ⟨A, c, he, ho, hb⟩ => ⟨A, _, c, he, hb⟩
    have HrD := Lib.hid hrD'; have C1 := Lib.hid c1
    clear hr hrD hrD' c1 ct ht hl hh hmin hno ht2
    by_cases h1 : a < 1
    · have e3 : ((a : Int) < 1) := by omega
      clear hn2
      go_enter Tryz.func188, Tryz.ntmps188
      go_wp2_with fail
      refine (C1.out _ HrD.out).mono ?_
      rintro e w1 ⟨A1, m1, c1, rfl, hb1⟩
      go_wp2
      go_ret3
      exact ⟨rfl, hb1⟩
    · have e3 : ¬ ((a : Int) < 1) := by omega
      have e4 : (100 : Int) < (a : Int) := by omega
      clear hn2
      go_enter Tryz.func188, Tryz.ntmps188
      go_wp2_with fail
      refine (C1.out _ HrD.out).mono ?_
      rintro e w1 ⟨A1, m1, c1, rfl, hb1⟩
      go_wp2
      go_ret3
      exact ⟨rfl, hb1⟩
  · have c1 : ∀ W, Rb W W.heap.size D h c (l.take h) → Calls Tryz.prog 206 #[.slice D h c] W (RetT W.heap.size W (0, [], x)) := fun W hW => by
      have := ct W hW (by omega)
      rwa [takeS_err _ x ht hx] at this
    have HrD := Lib.hid hrD'; have C1 := Lib.hid c1
    have hx1 : 2 ≤ x := by omega
    clear hr hrD hrD' c1 ct ht hl hh hmin hx hno
    go_enter Tryz.func188, Tryz.ntmps188
    go_wp2_with fail
    refine (C1.out _ HrD.out).mono ?_
    rintro e w1 ⟨A1, c1, rfl, hown1, hb1⟩
    go_wp2
    go_ret3
    exact ⟨rfl, hb1⟩
end Go.Proofs.YtknmhdkomjjneaaGreatDoor.Sq

namespace Go.Proofs.YtknmhdkomjjneaaGreatDoor.Sq
open Go.RowKit

theorem sty : Sl Tryz.prog 78 9 (.string ⟨#[]⟩) 1 16 := ⟨Tryz.underlying78, by kernel_rfl, rfl, by omega⟩
def srow (n : Nat) : Array Value := (List.replicate n (Value.string ⟨#[]⟩)).toArray
theorem make_rec (w : World) (n : Nat) (L : Int) (hL : L = (n : Int)) (hn : n ≤ 1000) :
    (Instr.makeSlice 78 (.int .i64 L) (.int .i64 L)).run Tryz.prog w = .ok (.slice (some ⟨w.heap.size, 0, none⟩) n n) (w.alloc (.cells (srow n) 9)) := by
  subst hL
  obtain ⟨i, hi, hz0, hz1, hz2⟩ := info_parts sty.inf
  have h := run_make (P := Tryz.prog) w 78 9 i (.string ⟨#[]⟩) Tryz.underlying78 hi hz0 .i64 .i64 (n : Int) (n : Int) (by omega) (by omega) (by rw [hz2]; omega) (by omega)
  simp only [Int.toNat_natCast, hz1, Nat.mul_one] at h
  rw [h]
  have e1 : madeCells (Value.string ⟨#[]⟩).cells n = srow n := by
    apply Array.toList_inj.1
    have hcells : (Value.string ⟨#[]⟩).cells = #[.string ⟨#[]⟩] := rfl
    rw [hcells, toList_madeCells_one]
    simp [srow]
  rw [e1]
theorem lvs_set (done : List (List UInt8)) (S : List UInt8) (j : Nat) : (lvs (done ++ List.replicate (j + 1) [])).set done.length (.string ⟨S.toArray⟩) = lvs ((done ++ [S]) ++ List.replicate j []) := by
  simp [lvs, List.replicate_succ]
theorem lvs_old (done : List (List UInt8)) (j : Nat) : (lvs (done ++ List.replicate (j + 1) []))[done.length]? = some (.string ⟨#[]⟩) := by
  simp [lvs, List.replicate_succ]

set_option maxRecDepth 100000 in
set_option maxHeartbeats 1000000 in
theorem tframe_head (D : Option Addr) (h c : Nat) (l : List UInt8) (w : World) (hr : Rb w w.heap.size D h c (l.take h)) (hh : h = 1010 ∨ h = l.length) (hn : h ≤ 1000000) :
    Calls Tryz.prog 218 #[.slice D h c, .int .i64 1000] w fun e w' => Below w.heap.size w w' ∧ match Sm.ok3 (frameS l 1000) with
      | some (t, s) => ∃ A c, e = .returned (.tuple #[.string ⟨t.toArray⟩, .slice A (h - s) c, .int .i64 0]) ∧ s ≤ h ∧ s ≤ l.length
      | none => ∃ A x c, e = .returned (.tuple #[.string ⟨#[]⟩, .slice A 0 c, .int .i64 x]) ∧ x ≠ 0 := by
  have hf := takeFrame_c D h c (l.take h) 1000 w hr hn (by unfold I64; omega)
  have hhl : h ≤ l.length := by have := hr.len; rw [List.length_take] at this; omega
  have hlen : (l.take h).length = h := by rw [List.length_take]; omega
  have hcut : (frameS (l.take h) 1000).2.2 = 0 ↔ (frameS l 1000).2.2 = 0 := by
    rcases hh with rfl | rfl
    · exact Sm.frameS_cut l 1010 (Nat.le_refl _)
    · rw [List.take_of_length_le (Nat.le_refl _)]
  rcases frameS_cases (l.take h) 1000 with ⟨t, s, h1, hs, ht⟩ | ⟨x, h1, hx⟩
  · have h2 : frameS l 1000 = (t, s, 0) := by
      have := Sm.frameS_app (l.drop h) h1
      rwa [List.take_append_drop] at this
    rw [tframeS_ok _ _ t s h1] at hf
    rw [hlen] at hs
    rw [Sm.ok3_some.2 h2]
    refine hf.mono fun e w' ⟨A, c, he, _, hb⟩ => ⟨hb, A, c, ?_, hs, by omega⟩
    rw [he]
    dsimp only
    rw [List.length_drop, hlen]
    rfl
  · have h2 : Sm.ok3 (frameS l 1000) = none := by
      unfold Sm.ok3
      rw [if_neg (fun e => ?_)]
      have := hcut.2 e
      rw [h1] at this
      dsimp only at this
      omega
    rw [tframeS_err _ _ x h1 hx] at hf
    rw [h2]
    exact hf.mono fun e w' ⟨A, c, he, _, hb⟩ => ⟨hb, A, _, c, he, by dsimp only; omega⟩

def St (l : List UInt8) (k : Nat) (done : List (List UInt8)) (D : List UInt8) : Prop :=
  (k = 0 ∧ done = [] ∧ D = l) ∨ (k = 1 ∧ ∃ t s, frameS l 1000 = (t, s, 0) ∧ done = [t] ∧ D = l.drop s) ∨ (k = 2 ∧ ∃ s, Sm.rec1 l = some (done, s) ∧ D = l.drop s)
theorem St.next {l D : List UInt8} {k s : Nat} {done : List (List UInt8)} {t : List UInt8} (h : St l k done D) (hk : k < 2) (hf : Sm.ok3 (frameS D 1000) = some (t, s)) : St l (k + 1) (done ++ [t]) (D.drop s) := by
  rcases h with ⟨rfl, rfl, rfl⟩ | ⟨rfl, u, m, h1, rfl, rfl⟩ | ⟨rfl, _⟩
  · exact .inr (.inl ⟨rfl, t, s, Sm.ok3_some.1 hf, rfl, rfl⟩)
  · refine .inr (.inr ⟨rfl, m + s, ?_, by rw [List.drop_drop]⟩)
    unfold Sm.rec1
    rw [Sm.ok3_some.2 h1]
    dsimp only [Option.bind_some]
    rw [hf]
    rfl
  · omega
theorem St.none_ {l D : List UInt8} {k : Nat} {done : List (List UInt8)} (h : St l k done D) (hk : k < 2) (hf : Sm.ok3 (frameS D 1000) = none) : Sm.rec1 l = none := by
  rcases h with ⟨rfl, rfl, rfl⟩ | ⟨rfl, u, m, h1, rfl, rfl⟩ | ⟨rfl, _⟩
  · unfold Sm.rec1; rw [hf]; rfl
  · unfold Sm.rec1
    rw [Sm.ok3_some.2 h1]
    dsimp only [Option.bind_some]
    rw [hf]
    rfl
  · omega
theorem St.end_ {l D : List UInt8} {done : List (List UInt8)} (h : St l 2 done D) : ∃ s, Sm.rec1 l = some (done, s) ∧ D = l.drop s := by
  rcases h with ⟨h, _⟩ | ⟨h, _⟩ | ⟨_, h⟩
  · omega
  · omega
  · exact h

def RetTr (B : Nat) (w : World) (l : List UInt8) (t : Option (Sm.R × Nat)) (e : Ending) (w' : World) : Prop :=
  Below w.heap.size w w' ∧ match t with
  | some (r, s) => ∃ A c E d, e = .returned (.tuple #[.slice A 2 c, .slice E (l.drop s).length d, .bool true]) ∧ Oc 1 w' 9 w.heap.size A 2 c (lvs r) ∧ Rb w' B E (l.drop s).length d (l.drop s)
  | none => e = .returned (.tuple #[.slice none 0 0, .slice none 0 0, .bool false])
def TrRel (B base : Nat) (w : World) (l : List UInt8) (r i : Value) (wr : World) : Prop :=
  ∃ E d D done, ∃ k : Nat, r = .slice E D.length d ∧ i = .int .i64 (k : Int) ∧ k ≤ 2 ∧ done.length = k ∧ Rb wr B E D.length d D ∧ D.length ≤ 1000000 ∧
    Oc 1 wr 9 base (some ⟨base, 0, none⟩) 2 2 (lvs (done ++ List.replicate (2 - k) [])) ∧ St l k done D ∧ Below base w wr

set_option maxRecDepth 100000 in
set_option maxHeartbeats 2000000 in
theorem takeRecord_c (A : Option Addr) (n c B : Nat) (l : List UInt8) (w : World) (hr : Rb w B A n c l) (hB : B ≤ w.heap.size) (hn : n ≤ 1000000) :
    Calls Tryz.prog 189 #[.slice A n c] w (RetTr B w l (Sm.rec1 l)) := by
  have hl := hr.len
  have hmk := make_rec w 2 2 rfl (by omega)
  obtain ⟨w1, hw1⟩ : ∃ w1, w1 = w.alloc (.cells (srow 2) 9) := ⟨_, rfl⟩
  rw [← hw1] at hmk
  have b1 : Below w.heap.size w w1 := by rw [hw1]; exact (Below.refl _ _).alloc (Nat.le_refl _) _
  have hrow0 : Oc 1 w1 9 w.heap.size (some ⟨w.heap.size, 0, none⟩) 2 2 (lvs ([] ++ List.replicate (2 - 0) [])) := by
    have h := Oc.lit (z := 1) w 9 (srow 2) 2 (by simp [srow]) (by simp [maxLen])
    have e : (srow 2).toList = lvs ([] ++ List.replicate (2 - 0) []) := by simp [srow, lvs]
    rw [e, ← hw1] at h
    exact h
  have hr1 : Rb w1 B A n c l := by rw [hw1]; exact hr.alloc hB _
  obtain ⟨U, hU⟩ : ∃ U, U = Sm.rec1 l := ⟨_, rfl⟩
  rw [← hU]
  have HU := Lib.hid hU; have Hr1 := Lib.hid hr1; have Hrow0 := Lib.hid hrow0; clear hU hr hr1 hrow0 hw1
  go_enter Tryz.func189, Tryz.ntmps189
  go_wp2
  go_loopw [0, 14] (fun r i wr => TrRel B w.heap.size w l r i wr) (fun _ i _ => 2 - (intOf i).toNat)
  case atStart => exact ⟨A, c, l, [], 0, by rw [hl], rfl, by omega, rfl, by rw [hl]; exact Hr1.out, by omega, Hrow0.out, .inl ⟨rfl, rfl, rfl⟩, b1⟩
  case round =>
    obtain ⟨E3, d3, D, done, k, rfl, rfl, hk, hdk, hr3, hDl, hrow, hst, hbel3⟩ := hrel
    have z3 := hbel3.size
    clear hmk
    by_cases hlt : k < 2
    · obtain ⟨h, hmin, hh⟩ : ∃ h : Nat, min (D.length : Int) 1010 = (h : Int) ∧ (h = 1010 ∨ h = D.length) := by
        by_cases hc : D.length ≤ 1010
        · exact ⟨D.length, by omega, .inr rfl⟩
        · exact ⟨1010, by omega, .inl rfl⟩
      have hhn : h ≤ D.length := by omega
      obtain ⟨F, hF, hrF⟩ := bty.upto_ hr3 (k := h) hhn (min (D.length : Int) 1010) hmin
      have hcall := tframe_head F h d3 D wr (hrF.more (by omega)) hh (by omega)
      obtain ⟨j, hj⟩ : ∃ j, 2 - k = j + 1 := ⟨2 - k - 1, by omega⟩
      rcases hok : Sm.ok3 (frameS D 1000) with _ | ⟨t, s⟩
      · rw [hok] at hcall
        obtain rfl : U = none := by rw [HU.out]; exact hst.none_ hlt hok
        have Hcall := Lib.hid hcall; clear hcall hst hok hrF hr3 hrow hdk HU hmin hh
        go_wp2_with fail
        refine Hcall.out.mono ?_
        rintro e w4 ⟨hb4, A4, x, c4, rfl, hx⟩
        have hx1 : (x != 0) = true := by simp [hx]
        have hx2 : (x == 0) = false := by simp [hx]
        have b4 := hbel3.trans (hb4.mono z3)
        go_wp2
        go_ret3
        exact ⟨b4, rfl⟩
      · rw [hok] at hcall
        have Hst := Lib.hid (hst.next hlt hok)
        have hsD : s ≤ D.length := by
          have := Sm.frameS_inv (Sm.ok3_some.1 hok)
          obtain ⟨a, q, _, _, _, g4, _, g6, _⟩ := this
          omega
        obtain ⟨G, hG, hrG⟩ := bty.from_ hr3 (k := s) hsD (s : Int) rfl
        have hdl : (D.drop s).length = D.length - s := List.length_drop ..
        rw [← hdl] at hrG
        have Hcall := Lib.hid hcall; have HrG := Lib.hid hrG; have Hrow := Lib.hid hrow; have Hdk := Lib.hid hdk; have Hj := Lib.hid hj; have Hdl := Lib.hid hdl; clear hcall hst hok hrF hr3 hrow hdk hj hmin hh hrG hdl
        go_wp2_with fail
        refine Hcall.out.mono ?_
        rintro e w4 ⟨hb4, A4, c4, rfl, hsh, _⟩
        have hrow4 := Oc.keep Hrow.out hb4
        have hcA : w4.cell? ⟨w.heap.size, k, none⟩ = some (.string ⟨#[]⟩) := by
          rw [World.ownsRow.cellAt hrow4 k (by omega), Hj.out, ← Hdk.out]
          exact lvs_old done j
        have hfA := World.ownsRow.frozenAt hrow4 k
        have hrow5 : Oc 1 (w4.setCell ⟨w.heap.size, k, none⟩ (.string ⟨t.toArray⟩)) 9 w.heap.size (some ⟨w.heap.size, 0, none⟩) 2 2 (lvs ((done ++ [t]) ++ List.replicate (2 - (k + 1)) [])) := by
          have h5 := (World.ownsRow.stored hrow4 k (.string ⟨t.toArray⟩)).1
          have e : (lvs (done ++ List.replicate (2 - k) [])).set k (.string ⟨t.toArray⟩) = lvs ((done ++ [t]) ++ List.replicate (2 - (k + 1)) []) := by
            rw [show 2 - (k + 1) = j by have := Hj.out; omega, Hj.out, ← Hdk.out]
            exact lvs_set done t j
          rw [e] at h5
          exact h5
        have e2 : ((h : Int) - ((h - s : Nat) : Int)) = (s : Int) := by omega
        have b4 : Below w.heap.size w w4 := hbel3.trans (hb4.mono z3)
        have hr4 := HrG.out.below (hb4.mono (by omega))
        have hr5 := hr4.setCell (p := ⟨w.heap.size, k, none⟩) (by show B ≤ w.heap.size; omega) (.string ⟨t.toArray⟩)
        have Hr5 := Lib.hid hr5; have Hrow5 := Lib.hid hrow5; clear hrow4 hr4 hr5 hrow5
        go_wp2
        go_roundw
        case rel => exact ⟨G, d3 - s, D.drop s, done ++ [t], k + 1, by rw [Hdl.out], by go_num, by omega, by rw [List.length_append, Hdk.out]; rfl, Hr5.out, by have := Hdl.out; omega, Hrow5.out, Hst.out, b4.setCell (by simp) _⟩
        case measure => simp [intOf]; omega
    · have hk2 : k = 2 := by omega
      subst hk2
      obtain ⟨s, hs, rfl⟩ := hst.end_
      obtain rfl : U = some (done, s) := by rw [HU.out, hs]
      rw [Nat.sub_self, List.replicate_zero, List.append_nil] at hrow
      have Hrow := Lib.hid hrow; have Hr3 := Lib.hid hr3; clear hst hrow hr3 hs HU hdk
      go_wp2
      go_ret3
      exact ⟨hbel3, _, _, E3, d3, rfl, Hrow.out, Hr3.out⟩
end Go.Proofs.YtknmhdkomjjneaaGreatDoor.Sq

namespace Go.Proofs.YtknmhdkomjjneaaGreatDoor.Sq
open Go.RowKit

def rrow (n : Nat) : Array Value := (List.replicate n (Value.slice none 0 0)).toArray
theorem make_recs (w : World) (n : Nat) (L : Int) (hL : L = (n : Int)) (hn : n ≤ 1000) :
    (Instr.makeSlice 55 (.int .i64 L) (.int .i64 L)).run Tryz.prog w = .ok (.slice (some ⟨w.heap.size, 0, none⟩) n n) (w.alloc (.cells (rrow n) 78)) := by
  subst hL
  obtain ⟨i, hi, hz0, hz1, hz2⟩ := info_parts rty.inf
  have h := run_make (P := Tryz.prog) w 55 78 i (.slice none 0 0) Tryz.underlying55 hi hz0 .i64 .i64 (n : Int) (n : Int) (by omega) (by omega) (by rw [hz2]; omega) (by omega)
  simp only [Int.toNat_natCast, hz1, Nat.mul_one] at h
  rw [h]
  have e1 : madeCells (Value.slice none 0 0).cells n = rrow n := by
    apply Array.toList_inj.1
    have hcells : (Value.slice none 0 0).cells = #[.slice none 0 0] := rfl
    rw [hcells, toList_madeCells_one]
    simp [rrow]
  rw [e1]
theorem rec_sf {w' : World} {base g : Nat} {e : TypeId} {A D : Option Addr} {n c : Nat} {r : List (List UInt8)} (hD : Oc 1 w' e g D n c (lvs r)) (hg : base ≤ g) (hA : ∀ k, ob A = some k → k < g) : RrS w' (Sf base w' A) (.slice D n c) r :=
  ⟨D, n, c, rfl, hD.rcS.keep (stays_weak fun b hb => ⟨Nat.le_trans hg hb.1, hb.2, fun e => by have := hA b e.symm; have := hb.1; omega⟩)⟩
theorem sf_set {w : World} {base g k : Nat} (v : Value) : Stays w (w.setCell ⟨g, k, none⟩ v) (Sf base w (some ⟨g, 0, none⟩)) (Sf base (w.setCell ⟨g, k, none⟩ v) (some ⟨g, 0, none⟩)) :=
  ⟨fun b ⟨h1, h2, h3⟩ => ⟨h1, by simpa using h2, h3⟩, fun p ⟨_, _, h3⟩ => World.cell?_setCell_other w _ _ v (fun e => by subst e; exact h3 rfl)⟩

def Dn (m : Nat) (T : List UInt8) (k : Nat) (done : List Sm.R) (D : List UInt8) : Prop := Sm.recN m T = (Sm.recN (m - k) D).map fun q => (done ++ q.1, q.2)
theorem Dn.start (m : Nat) (T : List UInt8) : Dn m T 0 [] T := by
  unfold Dn
  rw [Nat.sub_zero]
  cases Sm.recN m T <;> rfl
theorem Dn.next {m k s : Nat} {T D : List UInt8} {done : List Sm.R} {r : Sm.R} (h : Dn m T k done D) (hk : k < m) (hr : Sm.rec1 D = some (r, s)) : Dn m T (k + 1) (done ++ [r]) (D.drop s) := by
  unfold Dn at h ⊢
  obtain ⟨j, hj⟩ : ∃ j, m - k = j + 1 := ⟨m - k - 1, by omega⟩
  rw [h, hj, show m - (k + 1) = j by omega, Sm.recN, hr]
  dsimp only [Option.bind_some]
  cases Sm.recN j (D.drop s) <;> simp
theorem Dn.none_ {m k : Nat} {T D : List UInt8} {done : List Sm.R} (h : Dn m T k done D) (hk : k < m) (hr : Sm.rec1 D = none) : Sm.recN m T = none := by
  unfold Dn at h
  obtain ⟨j, hj⟩ : ∃ j, m - k = j + 1 := ⟨m - k - 1, by omega⟩
  rw [h, hj, Sm.recN, hr]
  rfl
theorem Dn.end_ {m : Nat} {T D : List UInt8} {done : List Sm.R} (h : Dn m T m done D) : Sm.recN m T = some (done, D) := by
  unfold Dn at h
  rw [h, Nat.sub_self, Sm.recN]
  simp
theorem cont_none {l : List UInt8} {a s : Nat} (h : Vm.tk l = (a, s, 0)) (hr : Sm.recN a (l.drop s) = none) : Sm.cont l = none := by
  unfold Sm.cont
  rw [Sm.ok3_some.2 h]
  dsimp only [Option.bind_some]
  split
  · rw [hr]; rfl
  · rfl
theorem cont_left {l D : List UInt8} {a s : Nat} {rs : List Sm.R} (h : Vm.tk l = (a, s, 0)) (hr : Sm.recN a (l.drop s) = some (rs, D)) (hD : D ≠ []) : Sm.cont l = none := by
  unfold Sm.cont
  rw [Sm.ok3_some.2 h]
  dsimp only [Option.bind_some]
  split
  · rw [hr]
    dsimp only [Option.bind_some]
    rw [if_neg hD]
  · rfl
theorem cont_count {l : List UInt8} (hno : ∀ a s, Vm.tk l = (a, s, 0) → ¬ (1 ≤ a ∧ a ≤ 100)) : Sm.cont l = none := by
  rcases h : Sm.cont l with _ | rs
  · rfl
  · obtain ⟨n, s, h1, h2, h3, _⟩ := Sm.cont_inv h
    exact absurd ⟨h2, h3⟩ (hno n s h1)

def RetRc (w : World) (t : Option (List Sm.R)) (e : Ending) (w' : World) : Prop :=
  Below w.heap.size w w' ∧ ∃ A k c o, e = .returned (.tuple #[.slice A k c, .bool o]) ∧ match t with
  | some rs => o = true ∧ k = rs.length ∧ RLS w' (Fr w.heap.size w') A k c rs
  | none => o = false
def TcRel (B base g m : Nat) (w : World) (T : List UInt8) (r i : Value) (wr : World) : Prop :=
  ∃ E d D vs done, ∃ k : Nat, r = .slice E D.length d ∧ i = .int .i64 (k : Int) ∧ k ≤ m ∧ done.length = k ∧ Rb wr B E D.length d D ∧ D.length ≤ 1000000 ∧
    Oc 1 wr 78 base (some ⟨g, 0, none⟩) m m vs ∧ RrsS wr (Sf base wr (some ⟨g, 0, none⟩)) (vs.take k) done ∧ Dn m T k done D ∧ Below base w wr

set_option maxRecDepth 100000 in
set_option maxHeartbeats 2000000 in
theorem takeContents_c (A : Option Addr) (n c B : Nat) (l : List UInt8) (w : World) (hr : Rb w B A n c l) (hB : B ≤ w.heap.size) (hn : n ≤ 1000000) :
    Calls Tryz.prog 156 #[.slice A n c] w (RetRc w (Sm.cont l)) := by
  have hl := hr.len
  obtain ⟨U, hU⟩ : ∃ U, U = Sm.cont l := ⟨_, rfl⟩
  rw [← hU]
  by_cases hyes : ∃ a s, Vm.tk l = (a, s, 0) ∧ 1 ≤ a ∧ a ≤ 100
  · obtain ⟨m, s, ht, ha1, ha⟩ := hyes
    have hcall := takeCount_yes A n c B l w hr hB hn m s ht ha1 ha
    obtain ⟨T, hT⟩ : ∃ T, T = l.drop s := ⟨_, rfl⟩
    rw [← hT] at hcall
    have hTl : T.length ≤ 1000000 := by rw [hT, List.length_drop]; omega
    have hmk := fun w => make_recs w m (m : Int) rfl (by omega)
    have HU := Lib.hid hU; have Hcall := Lib.hid hcall; have Ht := Lib.hid ht; have HT := Lib.hid hT; clear hU hcall hr hl ht hT
    go_enter Tryz.func156, Tryz.ntmps156
    go_wp2_with fail
    refine Hcall.out.mono ?_
    rintro e w1 ⟨E, d, rfl, hrE, hb1⟩
    have z1 := hb1.size
    obtain ⟨w2, hw2⟩ : ∃ w2, w2 = w1.alloc (.cells (rrow m) 78) := ⟨_, rfl⟩
    have hmk2 := hmk w1
    rw [← hw2] at hmk2
    have b12 : Below w1.heap.size w1 w2 := by rw [hw2]; exact (Below.refl _ _).alloc (Nat.le_refl _) _
    have hrow0 : Oc 1 w2 78 w.heap.size (some ⟨w1.heap.size, 0, none⟩) m m (rrow m).toList := by
      have h := Oc.lit (z := 1) w1 78 (rrow m) m (by simp [rrow]) (by simp [maxLen]; omega)
      rw [← hw2] at h
      exact h.mono z1
    have hr2 := hrE.below (b12.mono (by omega))
    have b2 := hb1.trans (b12.mono z1)
    have z12 : w1.heap.size < w2.heap.size := by rw [hw2]; simp
    have Hr2 := Lib.hid hr2; have Hrow0 := Lib.hid hrow0; clear hr2 hrow0 hrE hw2 hmk b12 hb1
    go_wp2
    go_loopw [5, 21] (fun r i wr => TcRel B w.heap.size w1.heap.size m w T r i wr) (fun _ i _ => m - (intOf i).toNat)
    case atStart => exact ⟨E, d, T, _, [], 0, rfl, rfl, Nat.zero_le _, rfl, Hr2.out, hTl, Hrow0.out, RrsS.nil, Dn.start m T, b2⟩
    case round =>
      obtain ⟨E3, d3, D, vs, done, k, rfl, rfl, hk, hdk, hr3, hDl, hrow, hrs, hst, hbel3⟩ := hrel
      have z3 := hbel3.size
      clear hmk2
      by_cases hlt : k < m
      · have hcall := takeRecord_c E3 D.length d3 B D wr hr3 (by omega) hDl
        have hg := (oc_ob hrow w1.heap.size rfl).2
        have hvl := hrow.1
        rw [Nat.mul_one] at hvl
        rcases hrec : Sm.rec1 D with _ | ⟨r, s3⟩
        · rw [hrec] at hcall
          obtain rfl : U = none := by rw [HU.out]; exact cont_none Ht.out (by rw [← HT.out]; exact hst.none_ hlt hrec)
          have Hcall3 := Lib.hid hcall; have Hrow := Lib.hid hrow; clear hcall hst hrec hr3 hrow hrs hdk HU
          go_wp2_with fail
          refine Hcall3.out.mono ?_
          rintro e w4 ⟨hb4, rfl⟩
          have hrow4 := Hrow.out.keep hb4
          have hcA : w4.cell? ⟨w1.heap.size, k, none⟩ = some vs[k] := by
            rw [World.ownsRow.cellAt hrow4 k (by omega)]
            exact List.getElem?_eq_getElem (by omega)
          have hfA := World.ownsRow.frozenAt hrow4 k
          have b4 := (hbel3.trans (hb4.mono z3)).setCell (p := ⟨w1.heap.size, k, none⟩) (by show w.heap.size ≤ w1.heap.size; omega) (.slice none 0 0)
          clear hrow4
          go_wp2
          go_ret2
          exact ⟨b4, none, 0, 0, false, rfl, rfl⟩
        · rw [hrec] at hcall
          have Hst := Lib.hid (hst.next hlt hrec)
          have hsl : (D.drop s3).length ≤ 1000000 := by rw [List.length_drop]; omega
          have Hcall3 := Lib.hid hcall; have Hrow := Lib.hid hrow; have Hrs := Lib.hid hrs; have Hdk := Lib.hid hdk; have Hvl := Lib.hid hvl
          clear hcall hst hrec hr3 hrow hrs hdk hvl
          go_wp2_with fail
          refine Hcall3.out.mono ?_
          rintro e w4 ⟨hb4, A4, c4, E4, d4, rfl, hown4, hr4⟩
          have hrow4 := Hrow.out.keep hb4
          have hcA : w4.cell? ⟨w1.heap.size, k, none⟩ = some (vs[k]'(by have := Hvl.out; omega)) := by
            rw [World.ownsRow.cellAt hrow4 k (by omega)]
            exact List.getElem?_eq_getElem (by have := Hvl.out; omega)
          have hfA := World.ownsRow.frozenAt hrow4 k
          have hrow5 : Oc 1 (w4.setCell ⟨w1.heap.size, k, none⟩ (.slice A4 2 c4)) 78 w.heap.size (some ⟨w1.heap.size, 0, none⟩) m m (vs.set k (.slice A4 2 c4)) := (World.ownsRow.stored hrow4 k (.slice A4 2 c4)).1
          have hrs4 := (Hrs.out.keep (sf_below hb4)).snoc (rec_sf hown4 z3 (fun q hq => by cases hq; exact hg))
          have hrs5 := hrs4.keep (sf_set (k := k) (.slice A4 2 c4))
          have etk : (vs.set k (.slice A4 2 c4)).take (k + 1) = vs.take k ++ [.slice A4 2 c4] := by
            rw [List.take_add_one, List.getElem?_set_self (by have := Hvl.out; omega), List.take_set_of_le (Nat.le_refl _)]
            rfl
          rw [← etk] at hrs5
          have hr5 := hr4.setCell (p := ⟨w1.heap.size, k, none⟩) (by show B ≤ w1.heap.size; omega) (.slice A4 2 c4)
          have b4 := (hbel3.trans (hb4.mono z3)).setCell (p := ⟨w1.heap.size, k, none⟩) (by show w.heap.size ≤ w1.heap.size; omega) (.slice A4 2 c4)
          have Hrow5 := Lib.hid hrow5; have Hrs5 := Lib.hid hrs5; have Hr5 := Lib.hid hr5
          clear hrow4 hrow5 hrs4 hrs5 hr4 hr5 hown4 etk
          go_wp2
          go_roundw
          case rel => exact ⟨E4, d4, D.drop s3, _, done ++ [r], k + 1, by rw [List.length_drop], by go_num, by omega, by rw [List.length_append, Hdk.out]; rfl, Hr5.out, hsl, Hrow5.out, Hrs5.out, Hst.out, b4⟩
          case measure => simp [intOf]; omega
      · have hkm : k = m := by omega
        subst hkm
        have he := hst.end_
        rw [HT.out] at he
        by_cases hD : D = []
        · subst hD
          have hUs : U = some done := by rw [HU.out]; exact Sm.cont_mk Ht.out ha1 ha he
          have hvl := hrow.1
          rw [Nat.mul_one] at hvl
          rw [List.take_of_length_le (by omega)] at hrs
          have hrls : RLS wr (Fr w.heap.size wr) (some ⟨w1.heap.size, 0, none⟩) k k done := ⟨vs, hrow.rcS, hrs.keep (stays_weak fun b hb => sf_fr b hb)⟩
          subst hUs
          have Hrls := Lib.hid hrls; have Hdk := Lib.hid hdk; clear hst hrow hrs hr3 he hvl hrls HU hdk
          go_wp2
          go_ret2
          exact ⟨hbel3, _, _, _, true, rfl, rfl, Hdk.out.symm, Hrls.out⟩
        · obtain rfl : U = none := by rw [HU.out]; exact cont_left Ht.out he hD
          have hp : 0 < D.length := List.length_pos_iff.2 hD
          have hp2 : ((D.length : Int) == 0) = false := by simp; omega
          clear hst hrow hrs hr3 he HU hD hdk
          go_wp2
          go_ret2
          exact ⟨hbel3, _, _, _, false, by first | rfl | (rw [hp2]), rfl⟩
  · have hno : ∀ a s, Vm.tk l = (a, s, 0) → ¬ (1 ≤ a ∧ a ≤ 100) := fun a s h1 h2 => hyes ⟨a, s, h1, h2.1, h2.2⟩
    obtain rfl : U = none := by rw [hU]; exact cont_count hno
    have Hcall := Lib.hid (takeCount_no A n c B l w hr hB hn hno)
    clear hr hl hU hyes hno
    go_enter Tryz.func156, Tryz.ntmps156
    go_wp2_with fail
    refine Hcall.out.mono ?_
    rintro e w1 ⟨rfl, hb1⟩
    go_wp2
    go_ret2
    exact ⟨hb1, none, 0, 0, false, rfl, rfl⟩
end Go.Proofs.YtknmhdkomjjneaaGreatDoor.Sq

/-
  seq's records: what the call returns and leaves.
-/

namespace Go.Proofs.YtknmhdkomjjneaaGreatDoor.Sq
open Go.RowKit

theorem blk_no {x : List UInt8} (h : x.take 2 ≠ [255, 83]) : Sm.blk x = none := by unfold Sm.blk; rw [if_neg h]
theorem blk_yes {x : List UInt8} (h : x.take 2 = [255, 83]) : Sm.blk x = (Sm.une (x.drop 2)).bind fun s => (Sm.opn s).bind Sm.cont := by unfold Sm.blk; rw [if_pos h]
theorem openS_cases (l : List UInt8) : (∃ c, Sm.opn l = some c ∧ Cm.openS Cm.tab l = (c, 0) ∧ c.length ≤ l.length) ∨ (∃ x, Sm.opn l = none ∧ Cm.openS Cm.tab l = ([], x) ∧ x ≠ 0) := by
  rcases h : Sm.opn l with _ | c
  · refine .inr ?_
    have h0 : (Cm.openS Cm.tab l).2 ≠ 0 := fun e => by unfold Sm.opn at h; rw [if_pos e] at h; cases h
    by_cases h4 : l.length < 4
    · exact ⟨2, rfl, openS_short Cm.tab l Cm.tab_len h4, by omega⟩
    · by_cases h3 : l.drop (l.length - 4) = Cm.four (Cm.sum Cm.tab (l.take (l.length - 4)))
      · rw [openS_ok Cm.tab l Cm.tab_len h4 h3] at h0; exact absurd rfl h0
      · exact ⟨4, rfl, openS_no Cm.tab l Cm.tab_len h4 h3, by omega⟩
  · have h1 := Sm.opn_take h
    exact .inl ⟨c, rfl, Sm.opn_some h, by rw [h1.2, List.length_take]; omega⟩

set_option maxRecDepth 100000 in
set_option maxHeartbeats 2000000 in
theorem records_c (At : Option Addr) (ct : Nat) (A : Option Addr) (n c : Nat) (x : List UInt8) (w : World) (ht : Rn w w.heap.size At 256 ct Cm.tab) (hr : Rb w w.heap.size A n c x) (hn : n ≤ 900000) :
    Calls Tryz.prog 126 #[.slice At 256 ct, .slice A n c] w (RetRc w (Sm.blk x)) := by
  have hl := hr.len
  obtain ⟨U, hU⟩ : ∃ U, U = Sm.blk x := ⟨_, rfl⟩
  rw [← hU]
  obtain ⟨w1, hw1⟩ : ∃ w1, w1 = w.alloc (.cells #[.int .u8 255, .int .u8 83] 5 (2, 3)) := ⟨_, rfl⟩
  have hb1 : Below w.heap.size w w1 := by rw [hw1]; exact (Below.refl _ _).alloc (Nat.le_refl _) _
  have z1 := hb1.size
  have hlit : Rb w1 (w.heap.size + 1) (some ⟨w.heap.size, 0, none⟩) 2 2 [255, 83] := by rw [hw1]; exact Rb.lit w _ _ _ _ 2 rfl rfl (by omega)
  have hcv : (convert 22 22 (.slice (some ⟨w.heap.size, 0, none⟩) 2 2)).run Tryz.prog (w.alloc (.cells #[.int .u8 255, .int .u8 83] 5)) = .ok (.slice (some ⟨w.heap.size, 0, none⟩) 2 2) w1 := by
    rw [hw1]; exact Lib.run_convert_bytes_const (P := Tryz.prog) w 22 5 #[.int .u8 255, .int .u8 83] 2 2 Tryz.underlying22 Tryz.underlying5
  have hr1 := hr.below hb1
  have ht1 := ht.below hb1
  by_cases hm : x.take 2 = [255, 83]
  · have hcut := cutp_yes A (some ⟨w.heap.size, 0, none⟩) n c 2 2 _ _ x [255, 83] w1 hr1 hlit hm
    rw [blk_yes hm] at hU
    have hdl : (x.drop 2).length = n - 2 := by rw [List.length_drop, hl]
    obtain ⟨X, hX⟩ : ∃ X, X = x.drop 2 := ⟨_, rfl⟩
    rw [← hX] at hcut hU hdl
    have Hcut := Lib.hid hcut; have HU := Lib.hid hU; have Hdl := Lib.hid hdl; have Ht1 := Lib.hid ht1; have Hb1 := Lib.hid hb1
    clear hcut hU hdl hr ht hlit hr1 ht1 hw1 hX hm hl hb1
    rcases hune : Sm.une X with _ | u
    · obtain rfl : U = none := by rw [HU.out, hune]; rfl
      clear HU
      go_enter Tryz.func126, Tryz.ntmps126
      go_wp2_with fail
      refine Hcut.out.mono ?_
      rintro e w2 ⟨⟨E, rfl, hrE⟩, rfl⟩
      have HrE := Lib.hid hrE; clear hrE
      go_wp2_with fail
      refine (unesc_c E (n - 2) (c - 2) X _ (HrE.out.more z1) (by omega)).mono ?_
      rw [unS_none hune]
      rintro e w2 ⟨A2, c2, rfl, ho2, hb2⟩
      have bz := Hb1.out.trans (hb2.mono z1)
      go_wp2
      go_ret2
      exact ⟨bz, none, 0, 0, false, rfl, rfl⟩
    · have hul : u.length ≤ X.length := Sm.une_len _ X u (Nat.le_refl _) hune
      have hul2 : u.length ≤ 900000 := by have := Hdl.out; omega
      rcases openS_cases u with ⟨y, ho, hop, hyl⟩ | ⟨y, ho, hop, hy⟩
      · have hUc : U = Sm.cont y := by rw [HU.out, hune]; dsimp only [Option.bind_some]; rw [ho]; rfl
        have HUc := Lib.hid hUc
        clear HU hUc
        go_enter Tryz.func126, Tryz.ntmps126
        go_wp2_with fail
        refine Hcut.out.mono ?_
        rintro e w2 ⟨⟨E, rfl, hrE⟩, rfl⟩
        have HrE := Lib.hid hrE; clear hrE
        go_wp2_with fail
        refine (unesc_c E (n - 2) (c - 2) X _ (HrE.out.more z1) (by omega)).mono ?_
        rw [unS_some hune]
        rintro e w2 ⟨A2, c2, rfl, ho2, hb2⟩
        have z2 := hb2.size
        have Hb2 := Lib.hid (Hb1.out.trans (hb2.mono z1))
        have hop2 := open_c At 256 ct Cm.tab A2 u.length c2 u w2 ((Ht1.out.below (hb2.mono z1)).more (by omega)) (by omega) ho2.rb (by omega)
        rw [hop] at hop2
        have Hop2 := Lib.hid hop2; clear hop2 ho2 hb2
        go_wp2_with fail
        refine Hop2.out.mono ?_
        rintro e w3 ⟨A3, c3, rfl, ho3, hb3⟩
        have z3 := hb3.size
        have Hb3 := Lib.hid (Hb2.out.trans (hb3.mono (by omega)))
        have htc := takeContents_c A3 y.length c3 _ y w3 ho3.rb (Nat.le_refl _) (by omega)
        rw [← HUc.out] at htc
        have Htc := Lib.hid htc; clear htc ho3 hb3
        go_wp2_with fail
        refine Htc.out.mono ?_
        rintro e w4 ⟨hb4, A4, k4, c4, o4, rfl, hm4⟩
        have z4 := hb4.size
        have bz := Hb3.out.trans (hb4.mono (by omega))
        have Hm4 := Lib.hid hm4; clear hm4
        go_wp2
        go_ret2
        refine ⟨bz, A4, k4, c4, o4, rfl, ?_⟩
        have hm := Hm4.out
        rcases U with _ | rs
        · exact hm
        · exact ⟨hm.1, hm.2.1, hm.2.2.keep (stays_weak fun b hb => ⟨Nat.le_trans (by omega) hb.1, hb.2⟩)⟩
      · obtain rfl : U = none := by rw [HU.out, hune]; dsimp only [Option.bind_some]; rw [ho]; rfl
        clear HU
        have hy2 : ((y : Int) == 0) = false := by simp [hy]
        have hy3 : ((y : Int) != 0) = true := by simp [hy]
        go_enter Tryz.func126, Tryz.ntmps126
        go_wp2_with fail
        refine Hcut.out.mono ?_
        rintro e w2 ⟨⟨E, rfl, hrE⟩, rfl⟩
        have HrE := Lib.hid hrE; clear hrE
        go_wp2_with fail
        refine (unesc_c E (n - 2) (c - 2) X _ (HrE.out.more z1) (by omega)).mono ?_
        rw [unS_some hune]
        rintro e w2 ⟨A2, c2, rfl, ho2, hb2⟩
        have z2 := hb2.size
        have Hb2 := Lib.hid (Hb1.out.trans (hb2.mono z1))
        have hop2 := open_c At 256 ct Cm.tab A2 u.length c2 u w2 ((Ht1.out.below (hb2.mono z1)).more (by omega)) (by omega) ho2.rb (by omega)
        rw [hop] at hop2
        have Hop2 := Lib.hid hop2; clear hop2 ho2 hb2
        go_wp2_with fail
        refine Hop2.out.mono ?_
        rintro e w3 ⟨A3, c3, rfl, ho3, hb3⟩
        have z3 := hb3.size
        have bz := Hb2.out.trans (hb3.mono (by omega))
        go_wp2
        go_ret2
        exact ⟨bz, none, 0, 0, false, rfl, rfl⟩
  · obtain rfl : U = none := by rw [hU, blk_no hm]
    have Hcut := Lib.hid (cutp_no A (some ⟨w.heap.size, 0, none⟩) n c 2 2 _ _ x [255, 83] w1 hr1 hlit hm)
    clear hr ht hlit hr1 ht1 hw1 hm hl hU
    go_enter Tryz.func126, Tryz.ntmps126
    go_wp2_with fail
    refine Hcut.out.mono ?_
    rintro e w2 ⟨rfl, rfl⟩
    go_wp2
    go_ret2
    exact ⟨hb1, none, 0, 0, false, rfl, rfl⟩
end Go.Proofs.YtknmhdkomjjneaaGreatDoor.Sq
