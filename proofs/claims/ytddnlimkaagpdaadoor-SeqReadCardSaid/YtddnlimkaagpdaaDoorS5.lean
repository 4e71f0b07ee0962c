/-
  bytes.Count at a byte 255, bytes.ReplaceAll of it by two bytes, seq's Escape: what each call returns and leaves.
-/
import Derived.Test.YtddnlimkaagpdaaDoorS3
import Derived.Test.YtddnlimkaagpdaaDoorS4
import Derived.Shelf.Bytes.SlCountOne
import Derived.Laws.Externs
import Derived.Deep.DeepCutAuto
import Derived.Test.YtddnlimkaagpdaaDoorRt
namespace Go.Proofs.YtddnlimkaagpdaaDoor
open Go.RowKit
attribute [local irreducible] wpT

/-- A row under way: P stands, the rest is 0. -/
def RowZ (P : List UInt8) (T : Nat) : List Value := bvs P ++ List.replicate (T - P.length) (Value.int .u8 0)
theorem rowZ_len (P : List UInt8) (T : Nat) (h : P.length ≤ T) : (RowZ P T).length = T := by simp [RowZ, bvs_length]; omega
theorem rowZ_splice (P Q : List UInt8) (T : Nat) (h : P.length + Q.length ≤ T) : splice (RowZ P T) P.length (bvs Q) = RowZ (P ++ Q) T := by
  have e1 : (RowZ P T).take P.length = bvs P := by unfold RowZ; rw [List.take_left' (bvs_length P)]
  have e2 : (RowZ P T).drop (P.length + (bvs Q).length) = List.replicate (T - (P ++ Q).length) (Value.int .u8 0) := by
    unfold RowZ
    rw [bvs_length, List.drop_append, bvs_length, List.drop_of_length_le (by rw [bvs_length]; omega), List.nil_append, List.drop_replicate, List.length_append]
    congr 1
    omega
  unfold splice
  rw [e1, e2]
  unfold RowZ
  rw [bvs_append, List.append_assoc]
theorem rowZ_made (T : Nat) : (zrow T) = (RowZ [] T).toArray := by simp [zrow, RowZ, bvs]
theorem rowZ_full (P : List UInt8) : RowZ P P.length = bvs P := by simp [RowZ]
theorem own_rowZ {w : World} {e : TypeId} {g base : Nat} {P : List UInt8} (h : w.heap[g]? = some (.cells (RowZ P P.length).toArray e (0, 0))) (hb : base ≤ g) (hl : P.length ≤ 3000000) : Own w e base (some ⟨g, 0, none⟩) P.length P := by
  rw [rowZ_full] at h
  unfold Own
  exact ⟨by rw [bvs_length]; omega, .inr ⟨g, P.length, _, rfl, hb, h, Nat.le_refl _, by simp only [maxLen]; omega, by simp [bvs_length], by simp; exact List.take_of_length_le (by rw [bvs_length]; exact Nat.le_refl _)⟩⟩
section
variable {P : Program} {t e s : TypeId}
/-- 't[W:]' of a row of the call's own. -/
theorem U8.fromRow (u : U8 P t e s) (g T k : Nat) (hk : k ≤ T) :
    ∃ D, (∀ W kd, (Instr.slice t (.slice (some ⟨g, 0, none⟩) T T) (some (.int kd (k : Int))) none none).run P W = .ok (.slice D (T - k) (T - k)) W) ∧ (k < T → D = some ⟨g, k, none⟩) := by
  refine ⟨if T = k then some ⟨g, 0, none⟩ else (some (⟨g, 0, none⟩ : Addr)).map (·.add k), fun W kd => ?_, fun h => ?_⟩
  · rw [run_slice_l W t _ _ _ u.sl' kd (k : Int) (by omega) (by omega), u.sz]
    simp [Result.andThen, sliced]
  · rw [if_neg (by omega)]
    by_cases h0 : k = 0
    · subst h0; simp [Addr.add]
    · simp [Addr.add, h0]
theorem U8.stepCopyTo (u : U8 P t e s) {ops : Array Oper} {o : Oper} {a : Act} {w : World} {K : Act → World → Prop} {Qx : Exit → Act → World → Prop} {E : Prop} (hgd : o.guard = none) (x y : Operand)
    (ho : o.op = .call { callee := .builtin .copy, args := #[x, y], argTypes := #[t, t] }) (g T q d B2 z zc : Nat) (Dd Ds : Option Addr) (L M : List UInt8)
    (hx : a.eval x = .slice Dd z zc) (hz : z + L.length = T) (hy : a.eval y = .slice Ds q d) (hg : w.heap[g]? = some (.cells (RowZ L T).toArray e (0, 0))) (hr : Rb w B2 Ds q d M) (hfit : L.length + q ≤ T) (hD : L.length < T → Dd = some ⟨g, L.length, none⟩)
    (B : Nat) (w0 : World) (hb : Below B w0 w) (hBg : B ≤ g)
    (h : ∀ w', Hid (w'.heap[g]? = some (.cells (RowZ (L ++ M) T).toArray e (0, 0))) → Below B w0 w' → K (a.put o.dst (goInt q)) w') :
    if Region.wanted o (yielded ops a.tmps) = true then Oper.wp P o a w K Qx else E := by
  obtain ⟨h1, h2, h3, h4⟩ := hr
  obtain ⟨i, hi, hz0, hz1, hz2⟩ := info_parts u.inf
  have hq : (bvs M).length = q := by rw [bvs_length, h1]
  refine step_copy_splice hgd x y t t ho e u.sl (by rw [hi]; simp [hz1]) Dd Ds z zc q d hx hy g L.length (RowZ L T) e hg (bvs M) (by rw [hq]; exact (Nat.min_eq_left (by omega)).symm) ?_ (by rw [hq, rowZ_len L T (by omega)]; omega) (bvs_one M) B w0 hb hBg fun w' hw' hb' => ?_
  · intro hp
    rw [hq] at hp
    obtain ⟨b, off, rfl, _, hcell⟩ := h4 hp
    refine ⟨hD (by omega), _, rfl, fun j v hj => ?_⟩
    obtain ⟨c, hc, rfl⟩ := bvs_get M j v hj
    have := hcell j c hc
    by_cases hj0 : j = 0
    · subst hj0; simpa [Addr.add] using this
    · simpa [Addr.add, hj0] using this
  · rw [hq]
    refine h w' ?_ hb'
    have hw2 := hw'.out
    rw [rowZ_splice L M T (by omega)] at hw2
    exact Lib.hid hw2
theorem opCopyTo (u : U8 P t e s) {o : Oper} {a : Act} {w : World} {K : Act → World → Prop} {Qx : Exit → Act → World → Prop} (hgd : o.guard = none) (x y : Operand)
    (ho : o.op = .call { callee := .builtin .copy, args := #[x, y], argTypes := #[t, t] }) (g T q d B2 z zc : Nat) (Dd Ds : Option Addr) (L M : List UInt8)
    (hx : a.eval x = .slice Dd z zc) (hz : z + L.length = T) (hy : a.eval y = .slice Ds q d) (hg : w.heap[g]? = some (.cells (RowZ L T).toArray e (0, 0))) (hr : Rb w B2 Ds q d M) (hfit : L.length + q ≤ T) (hD : L.length < T → Dd = some ⟨g, L.length, none⟩)
    (B : Nat) (w0 : World) (hb : Below B w0 w) (hBg : B ≤ g)
    (h : ∀ w', Hid (w'.heap[g]? = some (.cells (RowZ (L ++ M) T).toArray e (0, 0))) → Below B w0 w' → K (a.put o.dst (goInt q)) w') : Oper.wp P o a w K Qx := by
  have := u.stepCopyTo (ops := #[]) (Qx := Qx) (E := True) hgd x y ho g T q d B2 z zc Dd Ds L M hx hz hy hg hr hfit hD B w0 hb hBg h
  rw [if_pos (by simp [Region.wanted, hgd])] at this
  exact this
theorem U8.wpCopyTo (u : U8 P t e s) {ops : Array Oper} {rest : List Oper} {o : Oper} {a : Act} {w : World} {Qx : Exit → Act → World → Prop} (hgd : o.guard = none) (x y : Operand)
    (ho : o.op = .call { callee := .builtin .copy, args := #[x, y], argTypes := #[t, t] }) (g T q d B2 z zc : Nat) (Dd Ds : Option Addr) (L M : List UInt8)
    (hx : a.eval x = .slice Dd z zc) (hz : z + L.length = T) (hy : a.eval y = .slice Ds q d) (hg : w.heap[g]? = some (.cells (RowZ L T).toArray e (0, 0))) (hr : Rb w B2 Ds q d M) (hfit : L.length + q ≤ T) (hD : L.length < T → Dd = some ⟨g, L.length, none⟩)
    (B : Nat) (w0 : World) (hb : Below B w0 w) (hBg : B ≤ g)
    (h : ∀ w', Hid (w'.heap[g]? = some (.cells (RowZ (L ++ M) T).toArray e (0, 0))) → Below B w0 w' → wpList P ops Qx rest (a.put o.dst (goInt q)) w') : wpList P ops Qx (o :: rest) a w :=
  wpList_plain hgd fun _ hK => by
    have := u.stepCopyTo (ops := ops) (Qx := Qx) (E := True) hgd x y ho g T q d B2 z zc Dd Ds L M hx hz hy hg hr hfit hD B w0 hb hBg (fun w' h1 h2 => hK _ _ (h w' h1 h2))
    rw [if_pos (by simp [Region.wanted, hgd])] at this
    exact this
end

set_option maxHeartbeats 1000000 in
set_option maxRecDepth 100000 in
/-- bytes.Count at a byte 255 -/
theorem count_c (A : Option Addr) (n c B g : Nat) (l : List UInt8) (w : World) (hr : Rb w B A n c l) (hs : w.cell? ⟨g, 0, none⟩ = some (.int .u8 255)) :
    Calls Tryd.prog 75 #[.slice A n c, .slice (some ⟨g, 0, none⟩) 1 1] w fun e w' => e = .returned (.int .i64 ((l.count 255 : Nat) : Int)) ∧ w = w' := by
  have hl := hr.len
  have hrun : (Extern.BytealgCount.count #[.slice A n c, .int .u8 255]).run Tryd.prog w = .ok (.int .i64 ((l.count 255 : Nat) : Int)) w := by
    cases A with
    | none =>
      have h0 : n = 0 := by
        rcases Nat.eq_zero_or_pos n with h | h
        · exact h
        · obtain ⟨b, off, e, _⟩ := hr.2.2.2 h; cases e
      subst h0
      obtain rfl : l = [] := List.eq_nil_of_length_eq_zero hl
      exact Lib.run_countNil w 0 c 255
    | some a =>
      have h := Lib.run_countAt (P := Tryd.prog) w a n c (l.map fun x => (x.toNat : Int)) (by simpa using hl) (fun i hi => by
        obtain ⟨b', o', x, e, _, hx, hg⟩ := hr.at_ hi
        injection e with e
        subst e
        rw [List.getD_eq_getElem?_getD, List.getElem?_map, hg.1, add_plain]
        exact hx) 255
      rw [bytesOf_map] at h
      exact h
  have H := Lib.hid hrun; clear hrun hr hl
  go_enter Tryd.func75, Tryd.ntmps75
  go_wp2_with fail
  rw [run_callFunc_extern Tryd.func84 (by kernel_rfl) (by kernel_rfl) (by kernel_rfl) (e := Extern.BytealgCount.count) (by kernel_rfl), H.out]
  simp only [Result.andThen]
  rw [Oper.upon_value]
  go_wp2
  go_ret
  exact ⟨rfl, rfl⟩

theorem count_part : ∀ (D : List UInt8), 0 < D.count 255 → ∃ p r, D = p ++ 255 :: r ∧ 255 ∉ p
  | [], h => by simp at h
  | x :: D, h => by
    by_cases hx : x = 255
    · exact ⟨[], D, by simp [hx], by simp⟩
    · rw [List.count_cons_of_ne hx] at h
      obtain ⟨p, r, rfl, h2⟩ := count_part D h
      exact ⟨x :: p, r, rfl, by simp [h2, Ne.symm hx]⟩
theorem esc_self : ∀ p : List UInt8, 255 ∉ p → Sm.esc p = p
  | [], _ => rfl
  | x :: p, h => by
    simp at h
    rw [Sm.esc_no _ (Ne.symm h.1), esc_self p h.2]
theorem index_255 : ∀ (p r : List UInt8), 255 ∉ p → Lib.index (p ++ 255 :: r) [255] = (p.length : Int)
  | [], r, _ => by rw [List.nil_append, Lib.index]; simp [List.isPrefixOf]
  | x :: p, r, h => by
    simp at h
    have ih := index_255 p r h.2
    rw [List.cons_append, Lib.index, ih, if_neg (by simp [List.isPrefixOf, h.1]), if_neg (by simp)]
    simp
def RepRel (base g n m T : Nat) (w : World) (l : List UInt8) (o st i : Value) (wr : World) : Prop :=
  ∃ L : List UInt8, ∃ a k : Nat, o = .int .i64 (L.length : Int) ∧ st = .int .i64 (a : Int) ∧ i = .int .i64 (k : Int) ∧ a ≤ n ∧ k ≤ m ∧ Hid (Sm.esc l = L ++ Sm.esc (l.drop a)) ∧ Hid ((l.drop a).count 255 = m - k) ∧ Hid (wr.heap[g]? = some (.cells (RowZ L T).toArray 5 (0, 0))) ∧ Below base w wr

set_option maxHeartbeats 2000000 in
set_option maxRecDepth 100000 in
/-- bytes.Replace -/
theorem replace_c (A : Option Addr) (n c g1 g2 : Nat) (l : List UInt8) (w : World) (hr : Rb w w.heap.size A n c l) (hn : n ≤ 1000000) (h1 : Rb w w.heap.size (some ⟨g1, 0, none⟩) 1 1 [255]) (h2 : Rb w w.heap.size (some ⟨g2, 0, none⟩) 2 2 [255, 0]) (hx : Mx w) :
    Calls Tryd.prog 56 #[.slice A n c, .slice (some ⟨g1, 0, none⟩) 1 1, .slice (some ⟨g2, 0, none⟩) 2 2, .int .i64 (-1)] w (RetB w.heap.size w (Sm.esc l)) := by
  have hl := hr.len
  obtain ⟨X, hX⟩ : ∃ X, X = Sm.esc l := ⟨_, rfl⟩
  obtain ⟨m, hm⟩ : ∃ m, m = l.count 255 := ⟨_, rfl⟩
  have hml : m ≤ n := by rw [hm, ← hl]; exact List.count_le_length
  have hXl : X.length = n + m := by rw [hX, Sm.esc_count, hl, hm]
  have hc1 : w.cell? ⟨g1, 0, none⟩ = some (.int .u8 255) := by
    obtain ⟨b, off, x, e, _, hc, hx, _⟩ := h1.at_ (k := 0) (by omega)
    injection e with e
    injection e with e1 e2
    subst e1 e2
    simp at hx
    subst hx
    exact hc
  have hcnt := count_c A n c _ g1 l w hr hc1
  rw [← hm] at hcnt
  rw [← hX]
  have HX := Lib.hid hX; have Hm := Lib.hid hm; have Hr := Lib.hid hr; have Hl := Lib.hid hl; have Hcnt := Lib.hid hcnt; have H1 := Lib.hid h1; have H2 := Lib.hid h2; have Hx := Lib.hid hx; have HXl := Lib.hid hXl; clear hX hm hr hl hcnt h1 h2 hx hc1 hXl
  by_cases h0 : m = 0
  · subst h0
    have hself : X = l := by
      rw [HX.out]
      refine esc_self l fun h => ?_
      have := List.count_pos_iff.2 h
      have := Hm.out
      omega
    rw [hself]
    have Hself := Lib.hid hself; clear hself
    go_enter Tryd.func56, Tryd.ntmps56
    go_wp2_with fail
    refine Hcnt.out.mono ?_
    rintro e w' ⟨rfl, rfl⟩
    go_wp2_with (at_builtin; refine wpList_plain rfl fun _ hK => ?_; refine bty.opApp (Operand.const (Value.slice none 0 0)) (.tmp 24) rfl (l := []) (r := l) (n := 0) rfl rfl rfl (Own.nil w 5 w.heap.size) Hr.out ?hs1 (Nat.le_refl _) ?_)
    case hs1 => rw [Hl.out]; simp; omega
    intro A2 c2 w2 hown2 hb2
    refine hK _ _ ?_
    go_wp2
    go_ret
    exact ⟨A2, c2, rfl, hown2, hb2⟩
  · obtain ⟨T, hT⟩ : ∃ T, T = n + m := ⟨_, rfl⟩
    have hmk := bty.make w T ((n : Int) + (m : Int)) ((n : Int) + (m : Int)) T (by omega) (by omega) (Nat.le_refl _) (by omega)
    rw [rowZ_made] at hmk
    obtain ⟨w1, hw1⟩ : ∃ w1, w1 = w.alloc (.cells (RowZ [] T).toArray 5) := ⟨_, rfl⟩
    rw [← hw1] at hmk
    have hg1 : w1.heap[w.heap.size]? = some (.cells (RowZ [] T).toArray 5 (0, 0)) := by rw [hw1]; exact heap_alloc_new w _
    have hb1 : Below w.heap.size w w1 := by rw [hw1]; exact (Below.refl _ _).alloc (Nat.le_refl _) _
    have Hg1 := Lib.hid hg1; have HT := Lib.hid hT; have hTb : T ≤ 2000000 := (by omega); clear hg1 hw1 hT
    have hm0 : ((m : Int) == 0) = false := by simp; omega
    go_enter Tryd.func56, Tryd.ntmps56
    go_wp2_with fail
    refine Hcnt.out.mono ?_
    rintro e w' ⟨rfl, rfl⟩
    go_wp2
    go_loopw [11, 12, 49] (fun o st i wr => RepRel w.heap.size w.heap.size n m T w l o st i wr) (fun _ _ i _ => m - (intOf i).toNat)
    case atStart => exact ⟨[], 0, 0, rfl, rfl, rfl, Nat.zero_le _, Nat.zero_le _, Lib.hid (by simp), Lib.hid (by have := Hm.out; simp; omega), Hg1, hb1⟩
    case round =>
      obtain ⟨L, a, k, rfl, rfl, rfl, ha, hk, HL, HC, HG, hbel⟩ := hrel
      have z1 := hbel.size
      have hl2 := congrArg List.length HL.out
      rw [List.length_append, Sm.esc_count (l.drop a), HC.out, List.length_drop, ← HX.out, HXl.out, Hl.out] at hl2
      by_cases hlt : k < m
      · obtain ⟨p, r, hpr, hp⟩ := count_part (l.drop a) (by rw [HC.out]; omega)
        have hpl := congrArg List.length hpr
        rw [List.length_drop, Hl.out, List.length_append, List.length_cons] at hpl
        obtain ⟨j, hj⟩ : ∃ j, j = a + p.length := ⟨_, rfl⟩
        have hjn : j + 1 ≤ n := by omega
        have hdr : l.drop (j + 1) = r := by
          rw [show j + 1 = a + (p.length + 1) by omega, ← List.drop_drop, hpr, List.drop_append, List.drop_of_length_le (by omega)]
          simp
        have hmidl : (l.take j).drop a = p := by
          rw [List.drop_take, hpr, show j - a = p.length by omega, List.take_left' rfl]
        have hidx : Lib.index (l.drop a) [255] = ((p.length : Nat) : Int) := by rw [hpr]; exact index_255 p r hp
        obtain ⟨q, hq⟩ : ∃ q, q = p.length := ⟨_, rfl⟩
        rw [← hq] at hidx hj hpl
        have hr1 := (Hr.out.below hbel).more z1
        obtain ⟨D, hD, hrD⟩ := bty.from_ hr1 ha (a : Int) rfl
        have hcall := index_c D (n - a) (c - a) _ _ g1 1 1 (l.drop a) [255] wr hrD (by omega) (.inr (by omega)) (Nat.le_refl _) (H1.out.below hbel) (Hx.out.below hbel Hx.out.2)
        rw [hidx] at hcall
        have hLe : Sm.esc l = (L ++ p) ++ [255, 0] ++ Sm.esc (l.drop (j + 1)) := by
          rw [HL.out, hdr, hpr, Sm.esc_app, Sm.esc_ff, esc_self p hp]
          simp
        have hCe : (l.drop (j + 1)).count 255 = m - (k + 1) := by
          have := HC.out
          rw [hpr, List.count_append, List.count_cons_self, List.count_eq_zero.2 hp] at this
          rw [hdr]
          omega
        have Hcall := Lib.hid hcall; have HLe := Lib.hid hLe; have HCe := Lib.hid hCe; have Hq := Lib.hid hq; have Hmid := Lib.hid hmidl; have hLT : L.length + q + 2 ≤ T := by (have := HT.out; omega)
        clear hcall hLe hCe hq hpr hpl hidx hdr hmidl hp hr1 hrD hl2
        obtain ⟨W, hW⟩ : ∃ W, W = L.length := ⟨_, rfl⟩
        go_wp2_with fail
        refine Hcall.out.mono ?_
        rintro e w2 ⟨rfl, hb2⟩
        have hb02 := hbel.trans (hb2.mono z1)
        have z2 := hb02.size
        have hg2 : w2.heap[w.heap.size]? = some (.cells (RowZ L T).toArray 5 (0, 0)) := (hb2.block w.heap.size (Array.getElem?_eq_some_iff.1 HG.out).1).trans HG.out
        obtain ⟨Dt, hDt, hDtp⟩ := bty.fromRow (P := Tryd.prog) w.heap.size T L.length (by omega)
        obtain ⟨Dm, hDm, hrDm⟩ := bty.mid_ (Hr.out.below hb02) (i := a) (k := j) (by omega) (by omega) (a : Int) ((a : Int) + (q : Int)) rfl (by omega) q (by omega)
        rw [Hmid.out] at hrDm
        have Hr2 := Lib.hid hrDm; have Hg2 := Lib.hid hg2; have Hb02 := Lib.hid hb02; have HDt := Lib.hid hDtp; clear hrDm hg2 hb02 hDtp Hcall hb2
        go_upto_region 15 with fail
        refine wp_region_schedT [(false, 0), (false, 1), (false, 2), (false, 3), (false, 4), (false, 5), (false, 6), (false, 7), (true, 8), (false, 9), (false, 10)] (by kernel_rfl) (by kernel_rfl) (by kernel_rfl) (by kernel_rfl) (fun _ _ d _ _ h => by cases d <;> exact h) ?_
        refine wpT_read (o := { dst := some 58, op := Go.Op.move (Go.Operand.tmp 11), type := 3, pos := "bytes.go:1183", after := #[], guard := none }) (v := .int .i64 ((L.length : Int))) rfl (by rfl) ?_ ?_
        · intro w' _; go_simp
        try simp only [Act.put, List.setIfInBounds_toArray, List.set_cons_zero, List.set_cons_succ]
        refine wpT_read (o := { dst := some 59, op := Go.Op.move (Go.Operand.tmp 10), type := 22, pos := "bytes.go:1183", after := #[], guard := none }) (v := .slice (some ⟨w.heap.size, 0, none⟩) T T) rfl (by rfl) ?_ ?_
        · intro w' _; go_simp
        try simp only [Act.put, List.setIfInBounds_toArray, List.set_cons_zero, List.set_cons_succ]
        refine wpT_read (o := { dst := some 60, op := Go.Op.move (Go.Operand.tmp 11), type := 3, pos := "bytes.go:1183", after := #[], guard := none }) (v := .int .i64 ((L.length : Int))) rfl (by rfl) ?_ ?_
        · intro w' _; go_simp
        try simp only [Act.put, List.setIfInBounds_toArray, List.set_cons_zero, List.set_cons_succ]
        refine wpT_read (o := { dst := some 61, op := Go.Op.slice 22 (Go.Operand.tmp 59) (some (Go.Operand.tmp 60)) none none, type := 22, pos := "bytes.go:1183", after := #[{ on := 1, ground := Go.Ground.data }, { on := 2, ground := Go.Ground.data }], guard := none }) (v := .slice Dt (T - L.length) (T - L.length)) rfl (by rfl) ?_ ?_
        · intro w' _; go_simp
        try simp only [Act.put, List.setIfInBounds_toArray, List.set_cons_zero, List.set_cons_succ]
        refine wpT_read (o := { dst := some 62, op := Go.Op.move (Go.Operand.tmp 0), type := 22, pos := "bytes.go:1183", after := #[], guard := none }) (v := .slice A n c) rfl (by rfl) ?_ ?_
        · intro w' _; go_simp
        try simp only [Act.put, List.setIfInBounds_toArray, List.set_cons_zero, List.set_cons_succ]
        refine wpT_read (o := { dst := some 63, op := Go.Op.move (Go.Operand.tmp 12), type := 3, pos := "bytes.go:1183", after := #[], guard := none }) (v := .int .i64 ((a : Int))) rfl (by rfl) ?_ ?_
        · intro w' _; go_simp
        try simp only [Act.put, List.setIfInBounds_toArray, List.set_cons_zero, List.set_cons_succ]
        refine wpT_read (o := { dst := some 64, op := Go.Op.move (Go.Operand.tmp 13), type := 3, pos := "bytes.go:1183", after := #[], guard := none }) (v := .int .i64 ((a : Int) + (q : Int))) rfl (by rfl) ?_ ?_
        · intro w' _; go_simp
        try simp only [Act.put, List.setIfInBounds_toArray, List.set_cons_zero, List.set_cons_succ]
        refine wpT_read (o := { dst := some 65, op := Go.Op.slice 22 (Go.Operand.tmp 62) (some (Go.Operand.tmp 63)) (some (Go.Operand.tmp 64)) none, type := 22, pos := "bytes.go:1183", after := #[{ on := 4, ground := Go.Ground.data }, { on := 5, ground := Go.Ground.data }, { on := 6, ground := Go.Ground.data }], guard := none }) (v := .slice Dm q (c - a)) rfl (by rfl) ?_ ?_
        · intro w' _; go_simp
        try simp only [Act.put, List.setIfInBounds_toArray, List.set_cons_zero, List.set_cons_succ]
        refine wpT_call (o := { dst := some 66, op := Go.Op.call { callee := Go.Callee.builtin Go.Builtin.copy, args := #[Go.Operand.tmp 61, Go.Operand.tmp 65], argTypes := #[22, 22] }, type := 3, pos := "bytes.go:1183", after := #[{ on := 3, ground := Go.Ground.data }, { on := 7, ground := Go.Ground.data }], guard := none }) rfl (by rfl) (fun K hK => ?_)
        refine opCopyTo bty rfl (.tmp 61) (.tmp 65) rfl w.heap.size T q (c - a) w.heap.size (T - L.length) (T - L.length) Dt Dm L p rfl (by omega) rfl Hg2.out (Hr2.out.drewN 1) (by omega) HDt.out w.heap.size w (below_drewN Hb02.out 1) (Nat.le_refl _) ?_
        intro w3 hg3 hb3
        refine hK.out _ _ trivial ?_
        clear hK K
        try simp only [Act.put, List.setIfInBounds_toArray, List.set_cons_zero, List.set_cons_succ]
        refine wpT_read (o := { dst := some 67, op := Go.Op.binOp Go.BinOp.add 3 (Go.Operand.tmp 58) (Go.Operand.tmp 66) 3, type := 3, pos := "bytes.go:1183", after := #[{ on := 0, ground := Go.Ground.data }, { on := 8, ground := Go.Ground.data }], guard := none }) (v := .int .i64 ((L.length : Int) + (q : Int))) rfl (by rfl) ?_ ?_
        · intro w' _; go_simp; rw [IntKind.wrap_i64]; omega
        try simp only [Act.put, List.setIfInBounds_toArray, List.set_cons_zero, List.set_cons_succ]
        refine wpT_read (o := { dst := some 11, op := Go.Op.assign (Go.Operand.tmp 67), type := 3, pos := "bytes.go:1183", after := #[{ on := 9, ground := Go.Ground.data }, { on := 8, ground := Go.Ground.chain }, { on := 0, ground := Go.Ground.phase }, { on := 1, ground := Go.Ground.phase }, { on := 2, ground := Go.Ground.phase }, { on := 3, ground := Go.Ground.phase }, { on := 4, ground := Go.Ground.phase }, { on := 5, ground := Go.Ground.phase }, { on := 6, ground := Go.Ground.phase }, { on := 7, ground := Go.Ground.phase }, { on := 8, ground := Go.Ground.phase }, { on := 9, ground := Go.Ground.phase }], guard := none }) (v := .int .i64 ((L.length : Int) + (q : Int))) rfl (by rfl) ?_ ?_
        · intro w' _; go_simp
        try simp only [Act.put, List.setIfInBounds_toArray, List.set_cons_zero, List.set_cons_succ]
        refine wpT_done ?_
        have hLp : (L ++ p).length = L.length + q := by rw [List.length_append, Hq.out]
        have hz3 := hb3.size
        obtain ⟨L2, hL2⟩ : ∃ L2, L2 = L ++ p := ⟨_, rfl⟩
        have hL2l : L2.length = L.length + q := by rw [hL2]; exact hLp
        rw [← hL2] at hg3
        have HL2 := Lib.hid hL2
        obtain ⟨De, hDe, hDep⟩ := bty.fromRow (P := Tryd.prog) w.heap.size T (L.length + q) (by omega)
        have hDe' : ∀ W kd, (Instr.slice 22 (.slice (some ⟨w.heap.size, 0, none⟩) T T) (some (.int kd ((L.length : Int) + (q : Int)))) none none).run Tryd.prog W = .ok (.slice De (T - (L.length + q)) (T - (L.length + q))) W := fun W kd => by have := hDe W kd; rwa [show ((L.length + q : Nat) : Int) = (L.length : Int) + (q : Int) by omega] at this
        rw [← hL2l] at hDep
        have HDe := Lib.hid hDep; have HL2l := Lib.hid hL2l; have Hb3 := Lib.hid hb3
        clear hDe hDep hL2l hLp hL2 Hg2 Hr2 Hb02 HDt hDt hDm hb3
        go_wp2_with (with_reducible refine bty.wpCopyTo rfl (.tmp 71) (.tmp 72) rfl w.heap.size T 2 2 w.heap.size (T - (L.length + q)) (T - (L.length + q)) De (some ⟨g2, 0, none⟩) L2 [255, 0] rfl ?k1 rfl hg3.out (H2.out.below Hb3.out) ?k2 HDe.out w.heap.size w Hb3.out (Nat.le_refl _) ?_)
        case k1 => have := HL2l.out; omega
        case k2 => have := HL2l.out; omega
        intro w4 hg4 hb4
        go_wp2
        go_roundw
        case rel => exact ⟨L2 ++ [255, 0], j + 1, k + 1, by have := HL2l.out; simp; omega, by go_num, by go_num, by omega, by omega, Lib.hid (by rw [HLe.out, HL2.out]), HCe, hg4, hb4⟩
        case measure => simp [intOf]; omega
      · have hkm : k = m := by omega
        subst hkm
        have hnoc : 255 ∉ l.drop a := fun h => by
          have h1 := List.count_pos_iff.2 h
          have h2 := HC.out
          omega
        have hLe : X = L ++ l.drop a := by rw [HX.out, HL.out, esc_self _ hnoc]
        have hLT : L.length + (n - a) = T := by have := HT.out; omega
        obtain ⟨Dt, hDt, hDtp⟩ := bty.fromRow (P := Tryd.prog) w.heap.size T L.length (by omega)
        have hr1 := (Hr.out.below hbel).more z1
        obtain ⟨Dm, hDm, hrDm⟩ := bty.from_ (Hr.out.below hbel) ha (a : Int) rfl
        have Hr2 := Lib.hid hrDm; have HDt := Lib.hid hDtp; have HLe := Lib.hid hLe; have HLT := Lib.hid hLT; clear hrDm hDtp hLe hnoc hl2 hr1 hLT
        go_upto_region 28 with fail
        refine wp_region_schedT [(false, 0), (false, 1), (false, 2), (false, 3), (false, 4), (false, 5), (false, 6), (true, 7), (false, 8), (false, 9)] (by kernel_rfl) (by kernel_rfl) (by kernel_rfl) (by kernel_rfl) (fun _ _ d _ _ h => by cases d <;> exact h) ?_
        refine wpT_read (o := { dst := some 120, op := Go.Op.move (Go.Operand.tmp 11), type := 3, pos := "bytes.go:1197", after := #[], guard := none }) (v := .int .i64 ((L.length : Int))) rfl (by rfl) ?_ ?_
        · intro w' _; go_simp
        try simp only [Act.put, List.setIfInBounds_toArray, List.set_cons_zero, List.set_cons_succ]
        refine wpT_read (o := { dst := some 121, op := Go.Op.move (Go.Operand.tmp 10), type := 22, pos := "bytes.go:1197", after := #[], guard := none }) (v := .slice (some ⟨w.heap.size, 0, none⟩) T T) rfl (by rfl) ?_ ?_
        · intro w' _; go_simp
        try simp only [Act.put, List.setIfInBounds_toArray, List.set_cons_zero, List.set_cons_succ]
        refine wpT_read (o := { dst := some 122, op := Go.Op.move (Go.Operand.tmp 11), type := 3, pos := "bytes.go:1197", after := #[], guard := none }) (v := .int .i64 ((L.length : Int))) rfl (by rfl) ?_ ?_
        · intro w' _; go_simp
        try simp only [Act.put, List.setIfInBounds_toArray, List.set_cons_zero, List.set_cons_succ]
        refine wpT_read (o := { dst := some 123, op := Go.Op.slice 22 (Go.Operand.tmp 121) (some (Go.Operand.tmp 122)) none none, type := 22, pos := "bytes.go:1197", after := #[{ on := 1, ground := Go.Ground.data }, { on := 2, ground := Go.Ground.data }], guard := none }) (v := .slice Dt (T - L.length) (T - L.length)) rfl (by rfl) ?_ ?_
        · intro w' _; go_simp
        try simp only [Act.put, List.setIfInBounds_toArray, List.set_cons_zero, List.set_cons_succ]
        refine wpT_read (o := { dst := some 124, op := Go.Op.move (Go.Operand.tmp 0), type := 22, pos := "bytes.go:1197", after := #[], guard := none }) (v := .slice A n c) rfl (by rfl) ?_ ?_
        · intro w' _; go_simp
        try simp only [Act.put, List.setIfInBounds_toArray, List.set_cons_zero, List.set_cons_succ]
        refine wpT_read (o := { dst := some 125, op := Go.Op.move (Go.Operand.tmp 12), type := 3, pos := "bytes.go:1197", after := #[], guard := none }) (v := .int .i64 ((a : Int))) rfl (by rfl) ?_ ?_
        · intro w' _; go_simp
        try simp only [Act.put, List.setIfInBounds_toArray, List.set_cons_zero, List.set_cons_succ]
        refine wpT_read (o := { dst := some 126, op := Go.Op.slice 22 (Go.Operand.tmp 124) (some (Go.Operand.tmp 125)) none none, type := 22, pos := "bytes.go:1197", after := #[{ on := 4, ground := Go.Ground.data }, { on := 5, ground := Go.Ground.data }], guard := none }) (v := .slice Dm (n - a) (c - a)) rfl (by rfl) ?_ ?_
        · intro w' _; go_simp
        try simp only [Act.put, List.setIfInBounds_toArray, List.set_cons_zero, List.set_cons_succ]
        refine wpT_call (o := { dst := some 127, op := Go.Op.call { callee := Go.Callee.builtin Go.Builtin.copy, args := #[Go.Operand.tmp 123, Go.Operand.tmp 126], argTypes := #[22, 22] }, type := 3, pos := "bytes.go:1197", after := #[{ on := 3, ground := Go.Ground.data }, { on := 6, ground := Go.Ground.data }], guard := none }) rfl (by rfl) (fun K hK => ?_)
        refine opCopyTo bty rfl (.tmp 123) (.tmp 126) rfl w.heap.size T (n - a) (c - a) w.heap.size (T - L.length) (T - L.length) Dt Dm L (l.drop a) rfl (by have := HLT.out; omega) rfl HG.out (Hr2.out.drewN 1) (by have := HLT.out; omega) HDt.out w.heap.size w (below_drewN hbel 1) (Nat.le_refl _) ?_
        intro w3 hg3 hb3
        refine hK.out _ _ trivial ?_
        clear hK K
        try simp only [Act.put, List.setIfInBounds_toArray, List.set_cons_zero, List.set_cons_succ]
        refine wpT_read (o := { dst := some 128, op := Go.Op.binOp Go.BinOp.add 3 (Go.Operand.tmp 120) (Go.Operand.tmp 127) 3, type := 3, pos := "bytes.go:1197", after := #[{ on := 0, ground := Go.Ground.data }, { on := 7, ground := Go.Ground.data }], guard := none }) (v := .int .i64 ((T : Int))) rfl (by rfl) ?_ ?_
        · intro w' _; go_simp; rw [IntKind.wrap_i64]; have := HLT.out; omega
        try simp only [Act.put, List.setIfInBounds_toArray, List.set_cons_zero, List.set_cons_succ]
        refine wpT_read (o := { dst := some 11, op := Go.Op.assign (Go.Operand.tmp 128), type := 3, pos := "bytes.go:1197", after := #[{ on := 8, ground := Go.Ground.data }, { on := 7, ground := Go.Ground.chain }, { on := 0, ground := Go.Ground.phase }, { on := 1, ground := Go.Ground.phase }, { on := 2, ground := Go.Ground.phase }, { on := 3, ground := Go.Ground.phase }, { on := 4, ground := Go.Ground.phase }, { on := 5, ground := Go.Ground.phase }, { on := 6, ground := Go.Ground.phase }, { on := 7, ground := Go.Ground.phase }, { on := 8, ground := Go.Ground.phase }], guard := none }) (v := .int .i64 ((T : Int))) rfl (by rfl) ?_ ?_
        · intro w' _; go_simp
        try simp only [Act.put, List.setIfInBounds_toArray, List.set_cons_zero, List.set_cons_succ]
        refine wpT_done ?_
        have hfull : (L ++ l.drop a) = X := HLe.out.symm
        have hXT : X.length = T := by have := HXl.out; have := HT.out; omega
        rw [hfull, ← hXT] at hg3
        have hown := own_rowZ hg3.out (Nat.le_refl w.heap.size) (by omega)
        rw [← hXT]
        clear hfull hg3 hXT hbel
        go_wp2
        go_ret
        exact ⟨_, _, rfl, hown, hb3⟩
end Go.Proofs.YtddnlimkaagpdaaDoor
