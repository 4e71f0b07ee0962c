/-
  Joined: Rx1 Rz1 Rz2.
-/
import Derived.Test.YtpdapgbamlcjjaaGreatDoorJ6
import Derived.Test.YtpdapgbamlcjjaaGreatDoorJ9
import Derived.Stop.Asserts
import Derived.Lib.AppendStr
import Derived.Test.YtpdapgbamlcjjaaGreatDoorJ10
import Derived.Test.YtpdapgbamlcjjaaGreatDoorJ5
/-
  strings.getStringWriter and (*appendSliceWriter).WriteString.
-/
namespace Go.Proofs.YtpdapgbamlcjjaaGreatDoor
open Go.RowKit Vl

abbrev wv (b : Nat) : Value := .iface 186 (pt b)
set_option maxRecDepth 100000 in
theorem gsw_c (b : Nat) (w : World) : Calls Tryz.prog 151 #[wv b] w fun e w' => e = .returned (wv b) ∧ w = w' := by
  have hnot := hnot_
  have hta := run_typeAssert_hasB (P := Tryz.prog) (t := 186) (asserted := 190) Tryz.underlying190 (by kernel_rfl) (pt b) 188 w
  go_enter Tryz.func151, Tryz.ntmps151
  go_wp2
  go_ret
  exact ⟨rfl, rfl⟩

/-- 'append(x, s...)', s a string: which block it touches. -/
theorem U8.wpAppStrG {P : Program} {t e s : TypeId} (u : U8 P t e s) {w : World} {ops : Array Oper} {rest : List Oper} {o : Oper} {a : Act} {Q : Exit → Act → World → Prop} (hgd : o.guard = none) (x y : Operand)
    (ho : o.op = .call { callee := .builtin .append, args := #[x, y], argTypes := #[t, s] })
    {base c : Nat} {A : Option Addr} {l N : List UInt8} {r : ByteArray} (hx : a.eval x = .slice A l.length c) (hy : a.eval y = .string r) (hown : Own w e base A c l) (hN : l ++ r.data.toList = N)
    (hsm : l.length + r.size ≤ 140737488355328) (hbase : base ≤ w.heap.size)
    (h : ∀ A' c' w', Own w' e base A' c' N → w.grownBy w' (ob A) → wpList P ops Q rest (a.put o.dst (.slice A' N.length c')) w') : wpList P ops Q (o :: rest) a w := by
  subst hN
  obtain ⟨i, hi, hz0, hz1, hz2⟩ := info_parts u.inf
  have hrs : r.size = r.data.toList.length := by rw [Array.length_toList]; rfl
  refine Lib.wpList_append_own_string w hgd x y t s ho base e i u.sl u.st hi hz0 hz1 hz2 _ l.length (bvs l) hx hown r hy (by simp only [maxLen]; omega) hsm hbase fun v' w' ho hg _ => ?_
  have hsh : ∃ A' c', v' = .slice A' (l.length + r.size) c' := by
    rcases ho.2 with ⟨hv, hn⟩ | ⟨g, cap, cur, hv, _⟩
    · exact ⟨_, _, by rw [hv, hn]⟩
    · exact ⟨_, _, hv⟩
  obtain ⟨A', c', hv⟩ := hsh
  subst hv
  have hl : (l ++ r.data.toList).length = l.length + r.size := by rw [List.length_append, hrs]
  rw [ownBlock_slice] at hg
  have := h A' c' w' (by
    unfold Own
    rw [hl, bvs_append]
    exact ho) hg
  rwa [hl] at this

/-- A writer at a row: its cell, and the row that it holds. -/
structure Ww (w : World) (base wb : Nat) (L : List UInt8) : Prop where
  ex : ∃ A c, w.heap[wb]? = some (.cells #[.slice A L.length c] 185 (0, 0)) ∧ Own w 5 base A c L
  ge : base ≤ wb
theorem Ww.drewN {w : World} {base wb : Nat} {L : List UInt8} (h : Ww w base wb L) (q : Nat) : Ww (w.drewN q) base wb L := ⟨h.ex, h.ge⟩
theorem own_notat {w : World} {base c g : Nat} {e T : TypeId} {A : Option Addr} {L : List UInt8} {cs : Array Value} (h : Own w e base A c L) (hg : w.heap[g]? = some (.cells cs T (0, 0))) (hT : T ≠ e) : ob A ≠ some g := fun q => by
  rcases h.2 with ⟨hv, hn⟩ | ⟨g', cap, cur, hv, -, hg', -⟩
  · injection hv with hA _ _; rw [hA] at q; cases q
  · injection hv with hA _ _
    rw [hA] at q
    have : g' = g := Option.some.inj q
    subst this
    rw [hg] at hg'
    have := Option.some.inj hg'
    injection this with _ h2 _
    exact hT h2

set_option maxRecDepth 100000 in
set_option maxHeartbeats 2000000 in
theorem asw_c (base wb : Nat) (X : ByteArray) (L M : List UInt8) (w : World) (h : Ww w base wb L) (hM : L ++ X.data.toList = M) (hs : L.length + X.size ≤ 3000000) :
    Calls Tryz.prog 160 #[pt wb, .string X] w fun e w' => e = .returned (.tuple #[.int .i64 (X.size : Int), .nilIface]) ∧ Ww w' base wb M ∧ Below base w w' := by
  obtain ⟨⟨A, c, hh, own⟩, hge⟩ := h
  have hlt : wb < w.heap.size := (Array.getElem?_eq_some_iff.1 hh).1
  have hne := own_notat own hh (by decide)
  have q0 : w.cell? ⟨wb, 0, none⟩ = some (.slice A L.length c) := by simp [World.cell?, hh]
  have Own0 := Lib.hid own; have Hne := Lib.hid hne; have Hh := Lib.hid hh; have HM := Lib.hid hM; have Hlt := Lib.hid hlt; have Hge := Lib.hid hge
  clear own hne hh hM hlt hge
  go_enter Tryz.func160, Tryz.ntmps160
  go_wp2_with (at_builtin; go_must (refine wty.wpAppStrG rfl (.tmp 9) (.tmp 10) rfl (l := L) (N := M) rfl rfl Own0.out ?h0 ?h1 ?h2 ?_))
  case h0 => exact HM.out
  case h1 => omega
  case h2 => have := Hlt.out; have := Hge.out; omega
  intro A4 c4 w4 own4 g4
  have hb4 : w4.heap[wb]? = some (.cells #[.slice A L.length c] 185 (0, 0)) := (g4.block wb Hlt.out (fun e => Hne.out e.symm)).trans Hh.out
  have q4 : w4.cell? ⟨wb, 0, none⟩ = some (.slice A L.length c) := by simp [World.cell?, hb4]
  have f4 : w4.frozen? ⟨wb, 0, none⟩ = false := by simp [World.frozen?, hb4]
  have hne4 := own_notat own4 hb4 (by decide)
  have hb5 : (w4.setCell ⟨wb, 0, none⟩ (.slice A4 M.length c4)).heap[wb]? = some (.cells #[.slice A4 M.length c4] 185 (0, 0)) := by
    show (w4.heap.modify wb _)[wb]? = _
    rw [Array.getElem?_modify, if_pos rfl, hb4]
    rfl
  have own5 : Own (w4.setCell ⟨wb, 0, none⟩ (.slice A4 M.length c4)) 5 base A4 c4 M := rc_setCell own4 (p := ⟨wb, 0, none⟩) hne4 _
  have bel : Below base w w4 := (Below.refl base w).grown g4 (by have := Hlt.out; have := Hge.out; omega) fun k hk => (own_ob Own0.out k hk).1
  have bel5 : Below base w (w4.setCell ⟨wb, 0, none⟩ (.slice A4 M.length c4)) := bel.setCell Hge.out _
  have H5 := Lib.hid hb5; have Own5 := Lib.hid own5; have Bel5 := Lib.hid bel5
  clear hb4 hne4 hb5 own5 bel bel5 own4 g4 q0
  go_wp2
  go_ret2
  exact ⟨rfl, ⟨⟨A4, c4, H5.out, Own5.out⟩, Hge.out⟩, Bel5.out⟩
end Go.Proofs.YtpdapgbamlcjjaaGreatDoor

/-
  strings.(*genericReplacer).WriteString.
-/
namespace Go.Proofs.YtpdapgbamlcjjaaGreatDoor
open Go.RowKit Vl

def WsRel (w : World) (base wb : Nat) (l : List UInt8) (n err last pm i : Value) (wr : World) : Prop :=
  ∃ (a k : Nat) (B : List UInt8), a ≤ k ∧ a ≤ l.length ∧ k ≤ l.length + 1 ∧ n = .int .i64 ((B.length : Nat) : Int) ∧ err = .nilIface ∧ last = .int .i64 (a : Int) ∧ pm = .bool false ∧ i = .int .i64 (k : Int) ∧
    Hid (Cd.J l B a k) ∧ Hid (Ww wr base wb B) ∧ Hid (Below base w wr)
/-- What lookup tells at a place where 92 stands. -/
theorem look_c (gb g : Nat) (Y : ByteArray) (w : World) (hG : Gsr w gb g) (pY : 0 < Y.size) (y0 : (Y[0]'pY).toNat = 92) :
    (∃ (d v : UInt8) (V : ByteArray), Y.data.toList[1]? = some d ∧ (d = 92 ∧ v = 92 ∨ d = 34 ∧ v = 34 ∨ d = 110 ∧ v = 10) ∧ V = ⟨#[v]⟩ ∧
      Calls Tryz.prog 152 #[pt g, .string Y, .bool false] w fun e w' => e = .returned (.tuple #[.string V, .int .i64 2, .bool true]) ∧ ∃ q, w' = w.drewN q) ∨
    ((∀ d, Y.data.toList[1]? = some d → d ≠ 92 ∧ d ≠ 34 ∧ d ≠ 110) ∧
      Calls Tryz.prog 152 #[pt g, .string Y, .bool false] w fun e w' => e = .returned (.tuple #[em, .int .i64 0, .bool false]) ∧ ∃ q, w' = w.drewN q) := by
  obtain ⟨⟨t0, n1, t1, kq, kb, kn, h1, h2, h3, h4, h5, h6, h7, -⟩, -⟩ := hG
  obtain ⟨Z, hZ⟩ : ∃ Z, Z = Y.extract 1 Y.size := ⟨_, rfl⟩
  have hZl : Z.data.toList = Y.data.toList.drop 1 := by
    rw [hZ]; simp [ByteArray.data_extract, List.take_of_length_le]
  have hZs : Z.size = Y.size - 1 := by rw [← str_len, hZl, List.length_drop, str_len]
  have hsh : ∀ (m : Nat) (kx : Nat) (v : UInt8) (p : Int) (p1 : 0 < Z.size), 0 < p → m < 3 → T3F kq kb kn m = pt kx → mp (Z[0]'p1).toNat = m → B5 w kx (.string ⟨#[v]⟩) (.int .i64 p) em np ns →
      Calls Tryz.prog 152 #[pt g, .string Y, .bool false] w fun e w' => e = .returned (.tuple #[.string ⟨#[v]⟩, .int .i64 2, .bool true]) ∧ ∃ q, w' = w.drewN q :=
    fun m kx v p p1 hp hm hk hmp hB => lookS_c g Y Z (Z.extract 1 Z.size) ⟨#[v]⟩ p m _ n1 t0 t1 kq kb kn kx w h1 h2 h3 h4 hB hp hm hk pY y0 hZ.symm p1 rfl hmp (Z[0]'p1).toNat_lt rfl
  have hno := fun h => lookN_c g Y Z n1 t0 t1 w h1 h2 h3 pY y0 hZ.symm h
  by_cases h0 : Z.size = 0
  · refine .inr ⟨fun d hd => ?_, hno (.inl h0)⟩
    have : Y.data.toList.length ≤ 1 := by rw [str_len]; omega
    rw [List.getElem?_eq_none this] at hd; cases hd
  · have p1 : 0 < Z.size := by omega
    have hd1 : Y.data.toList[1]? = some (Z[0]'p1) := by
      have h9 : 0 < Z.data.toList.length := by rw [str_len]; exact p1
      have h8 : Z.data.toList[0]? = some (Z[0]'p1) := by rw [List.getElem?_eq_getElem h9]; rfl
      rw [hZl, List.getElem?_drop] at h8
      exact h8
    have hc : ∀ (n : Nat) (c : UInt8), c.toNat = n → (Z[0]'p1).toNat = n → (Z[0]'p1) = c := fun n c h9 h8 => UInt8.toNat_inj.1 (h8.trans h9.symm)
    by_cases c34 : (Z[0]'p1).toNat = 34
    · have e := hc 34 34 rfl c34
      exact .inl ⟨34, 34, _, by rw [hd1, e], by simp, rfl, hsh 0 kq 34 4 p1 (by omega) (by omega) rfl (by rw [c34]; rfl) h5⟩
    · by_cases c92 : (Z[0]'p1).toNat = 92
      · have e := hc 92 92 rfl c92
        exact .inl ⟨92, 92, _, by rw [hd1, e], by simp, rfl, hsh 1 kb 92 6 p1 (by omega) (by omega) rfl (by rw [c92]; rfl) h6⟩
      · by_cases c110 : (Z[0]'p1).toNat = 110
        · have e := hc 110 110 rfl c110
          exact .inl ⟨110, 10, _, by rw [hd1, e], by simp, rfl, hsh 2 kn 10 2 p1 (by omega) (by omega) rfl (by rw [c110]; rfl) h7⟩
        · refine .inr ⟨fun d hd => ?_, hno (.inr ⟨p1, by unfold mp; rw [if_neg c34, if_neg c92, if_neg c110]⟩)⟩
          rw [hd1] at hd
          have := Option.some.inj hd
          subst this
          exact ⟨fun e => c92 (by rw [e]; rfl), fun e => c34 (by rw [e]; rfl), fun e => c110 (by rw [e]; rfl)⟩
end Go.Proofs.YtpdapgbamlcjjaaGreatDoor

/-
  strings.(*genericReplacer).WriteString and Replace.
-/
namespace Go.Proofs.YtpdapgbamlcjjaaGreatDoor
open Go.RowKit Vl

theorem Ww.own {w : World} {base wb : Nat} {L : List UInt8} (h : Ww w base wb L) : wb < w.heap.size ∧ base ≤ w.heap.size := by
  obtain ⟨⟨A, c, hh, -⟩, hge⟩ := h
  have := (Array.getElem?_eq_some_iff.1 hh).1
  omega
theorem ext_list (X : ByteArray) (a k : Nat) : (X.extract a k).data.toList = (X.data.toList.take k).drop a := by
  simp [ByteArray.data_extract, List.extract_eq_take_drop, List.drop_take]
theorem Gsr.drewN {w : World} {base g : Nat} (h : Gsr w base g) (q : Nat) : Gsr (w.drewN q) base g := h.keep (Nat.le_refl _) (fun _ _ _ => rfl)
theorem look_some (gb g : Nat) (Y : ByteArray) (w : World) (hG : Gsr w gb g) (pY : 0 < Y.size) (y0 : (Y[0]'pY).toNat = 92) (d v : UInt8) (hd : Y.data.toList[1]? = some d) (hv : d = 92 ∧ v = 92 ∨ d = 34 ∧ v = 34 ∨ d = 110 ∧ v = 10) :
    Calls Tryz.prog 152 #[pt g, .string Y, .bool false] w fun e w' => e = .returned (.tuple #[.string ⟨#[v]⟩, .int .i64 2, .bool true]) ∧ ∃ q, w' = w.drewN q := by
  rcases look_c gb g Y w hG pY y0 with ⟨d', v', V, hd', hv', rfl, hc⟩ | ⟨hno, -⟩
  · rw [hd] at hd'
    have e := Option.some.inj hd'
    subst e
    have e2 : v' = v := by
      rcases hv with ⟨rfl, rfl⟩ | ⟨rfl, rfl⟩ | ⟨rfl, rfl⟩ <;> rcases hv' with ⟨h1, rfl⟩ | ⟨h1, rfl⟩ | ⟨h1, rfl⟩ <;> first | rfl | exact absurd h1 (by decide)
    rw [← e2]; exact hc
  · obtain ⟨h1, h2, h3⟩ := hno d hd
    rcases hv with ⟨h, -⟩ | ⟨h, -⟩ | ⟨h, -⟩
    · exact absurd h h1
    · exact absurd h h2
    · exact absurd h h3
theorem look_none (gb g : Nat) (Y : ByteArray) (w : World) (hG : Gsr w gb g) (pY : 0 < Y.size) (y0 : (Y[0]'pY).toNat = 92) (hno : ∀ d, Y.data.toList[1]? = some d → d ≠ 92 ∧ d ≠ 34 ∧ d ≠ 110) :
    Calls Tryz.prog 152 #[pt g, .string Y, .bool false] w fun e w' => e = .returned (.tuple #[em, .int .i64 0, .bool false]) ∧ ∃ q, w' = w.drewN q := by
  rcases look_c gb g Y w hG pY y0 with ⟨d', v', V, hd', hv', -, -⟩ | ⟨-, hc⟩
  · obtain ⟨h1, h2, h3⟩ := hno d' hd'
    rcases hv' with ⟨h, -⟩ | ⟨h, -⟩ | ⟨h, -⟩
    · exact absurd h h1
    · exact absurd h h2
    · exact absurd h h3
  · exact hc
theorem mp_not {c : Nat} (h : c ≠ 92) : mp c = 3 ∨ mp c = 0 ∨ mp c = 2 := by
  unfold mp
  by_cases h1 : c = 34
  · rw [if_pos h1]; omega
  · rw [if_neg h1, if_neg h]
    by_cases h3 : c = 110
    · rw [if_pos h3]; omega
    · rw [if_neg h3]; omega
theorem mt_c (b : Nat) (W : World) : (method 298 186 (pt b) "WriteString").run Tryz.prog W = .ok (160, pt b) W := by kernel_rfl
theorem na_c (b : Nat) (W : World) : (nilAhead 298 186 (pt b) "WriteString").run Tryz.prog W = .ok (some false) W := by kernel_rfl

set_option maxRecDepth 100000 in
set_option maxHeartbeats 8000000 in
theorem gws_c (gb g wb : Nat) (X : ByteArray) (hX : X.size ≤ 1000000) (w : World) (base : Nat) (hG : ∀ w', Below base w w' → Gsr w' gb g) (hW : Ww w base wb []) :
    Calls Tryz.prog 150 #[pt g, wv wb, .string X] w fun e w' => ∃ z : Int, e = .returned (.tuple #[.int .i64 z, .nilIface]) ∧ Ww w' base wb (Cd.unr X.data.toList) ∧ Below base w w' := by
  obtain ⟨l, hl⟩ : ∃ l, l = X.data.toList := ⟨_, rfl⟩
  have hln : l.length = X.size := by rw [hl]; exact str_len X
  rw [← hl]
  have hin : ∀ k (h : k < X.size), l[k]? = some (X[k]'h) := fun k h => by
    rw [hl]
    have h2 : k < X.data.toList.length := by rw [str_len]; exact h
    rw [List.getElem?_eq_getElem h2]; rfl
  have Hl := Lib.hid hl; have Hln := Lib.hid hln; have Hin := Lib.hid hin; have HG := Lib.hid hG; have HW := Lib.hid hW
  clear hl hln hin hG hW
  go_enter Tryz.func150, Tryz.ntmps150
  go_wp2_with fail
  refine (gsw_c wb w).mono ?_
  rintro e w' ⟨rfl, rfl⟩
  go_wp2
  go_loopw [6, 7, 9, 11, 12] (fun n err last pm i wr => WsRel w base wb l n err last pm i wr) (fun _ _ _ _ i _ => X.size + 1 - (intOf i).toNat)
  case atStart => exact ⟨0, 0, [], by omega, by omega, by omega, rfl, rfl, rfl, rfl, rfl, Lib.hid (Cd.J_start l), HW, Lib.hid (Below.refl _ _)⟩
  case round =>
    obtain ⟨a, k, B, hak, hal, hkl, rfl, rfl, rfl, rfl, rfl, HJ, HWr, HB⟩ := hrel
    have hG := HG.out wr HB.out
    have hlnn := Hln.out
    have hak' : (0 : Int) ≤ (a : Int) := by omega
    by_cases hlt : k < X.size
    · have hx := Hin.out k hlt
      obtain ⟨c, hc⟩ : ∃ c, c = X[k]'hlt := ⟨_, rfl⟩
      have x256 := (X[k]'hlt).toNat_lt
      have d0 : decide ((k : Int) ≤ (X.size : Int)) = true := by simp; omega
      have d1 : ((k : Int) != (X.size : Int)) = true := by simp; omega
      by_cases h92 : (X[k]'hlt).toNat = 92
      · have hx2 : l[k]? = some 92 := by rw [hx]; exact congrArg some (UInt8.toNat_inj.1 h92)
        obtain ⟨Y, hY⟩ : ∃ Y, Y = X.extract k X.size := ⟨_, rfl⟩
        have hYl : Y.data.toList = l.drop k := by rw [hY, ext_list, ← Hl.out, List.take_of_length_le (by rw [hlnn]; exact Nat.le_refl _)]
        have sY : Y.size = X.size - k := by rw [← str_len, hYl, List.length_drop, hlnn]
        have pY : 0 < Y.size := by omega
        have y0 : (Y[0]'pY).toNat = 92 := by
          have h9 : 0 < Y.data.toList.length := by rw [str_len]; exact pY
          have h8 : Y.data.toList[0]? = some (Y[0]'pY) := by rw [List.getElem?_eq_getElem h9]; rfl
          rw [hYl, List.getElem?_drop, Nat.add_zero, hx2] at h8
          rw [← Option.some.inj h8]; rfl
        have hY1 : Y.data.toList[1]? = l[k + 1]? := by rw [hYl, List.getElem?_drop]
        have hGq := fun q => hG.drewN q
        have hg1 : wr.cell? ⟨g, 1, none⟩ = some (.int .i64 0) ∧ wr.cell? ⟨g, 5, none⟩ = some (.int .i64 3) ∧ wr.cell? ⟨g, 98, none⟩ = some (.int .u8 1) ∧ ∃ t0 n1, wr.cell? ⟨g, 4, none⟩ = some (sl3 t0) ∧ wr.cell? ⟨t0, 1, none⟩ = some (pt n1) := by
          obtain ⟨⟨t0, n1, t1, kq, kb, kn, h1, h2, -⟩, -⟩ := hG
          exact ⟨h1.c 1 (by omega), h1.c 5 (by omega), h1.c 98 (by omega), t0, n1, h1.c 4 (by omega), h2.c 1 (by omega)⟩
        obtain ⟨g1, g5, g98, t0, n1, g4, t01⟩ := hg1
        have eY := hY.symm
        have k0 : (0 : Int) ≤ (k : Int) := by omega
        have k1 : (k : Int) ≤ (X.size : Int) := by omega
        clear hY hYl sY hx hc hG
        by_cases hm : ∃ d v : UInt8, l[k + 1]? = some d ∧ (d = 92 ∧ v = 92 ∨ d = 34 ∧ v = 34 ∨ d = 110 ∧ v = 10)
        · obtain ⟨d, v, hd, hv⟩ := hm
          have hlk := fun q => look_some gb g Y (wr.drewN q) (hGq q) pY y0 d v (hY1.trans hd) hv
          have k2 : k + 2 ≤ l.length := by
            rcases Nat.lt_or_ge (k + 1) l.length with h' | h'
            · omega
            · rw [List.getElem?_eq_none h'] at hd; cases hd
          have hJ2 := Cd.J_two HJ.out hx2 hd hv
          have hJl := Cd.J_len2 HJ.out
          obtain ⟨Z, hZ⟩ : ∃ Z, Z = X.extract a k := ⟨_, rfl⟩
          have hZl : Z.data.toList = (l.drop a).take (k - a) := by rw [hZ, ext_list, ← Hl.out, List.drop_take]
          rw [← hZl] at hJ2 hJl
          rw [str_len] at hJl
          obtain ⟨M1, hM1⟩ : ∃ M1, M1 = B ++ Z.data.toList := ⟨_, rfl⟩
          rw [← hM1] at hJ2
          have hM1l : M1.length = B.length + Z.size := by rw [hM1, List.length_append, str_len]
          obtain ⟨M2, hM2⟩ : ∃ M2, M2 = M1 ++ [v] := ⟨_, rfl⟩
          rw [← hM2] at hJ2
          have hM2l : M2.length = M1.length + 1 := by rw [hM2]; simp
          have hJ2l := Cd.J_len hJ2
          have eZ := hZ.symm
          have ew1 : IntKind.i64.wrap (((B.length : Nat) : Int) + (Z.size : Int)) = ((M1.length : Nat) : Int) := by rw [IntKind.wrap_i64]; omega
          have ew2 : IntKind.i64.wrap (((M1.length : Nat) : Int) + 1) = ((M2.length : Nat) : Int) := by rw [IntKind.wrap_i64]; omega
          have Hlk := Lib.hid hlk; have HJ2 := Lib.hid hJ2; have HM1 := Lib.hid hM1; have HM2 := Lib.hid hM2; have K2 := Lib.hid k2; have HJl := Lib.hid hJl; have HM1l := Lib.hid (show M1.length ≤ 1000000 by omega)
          have hVs : (ByteArray.mk #[v]).size = 1 := rfl
          obtain ⟨V, hV⟩ : ∃ V, V = ByteArray.mk #[v] := ⟨_, rfl⟩
          rw [← hV] at hVs
          have Hlk : Hid (∀ q, Calls Tryz.prog 152 #[pt g, .string Y, .bool false] (wr.drewN q) fun e w' => e = .returned (.tuple #[.string V, .int .i64 2, .bool true]) ∧ ∃ q', w' = (wr.drewN q).drewN q') := Lib.hid (by rw [hV]; exact Hlk.out)
          have HVl : Hid (M1 ++ V.data.toList = M2) := Lib.hid (by rw [hV, hM2])
          clear hlk hJ2 hM1 hM2 hZ hZl hJl hd hv k2 hM1l hM2l hJ2l hx2 hY1 hGq hV
          go_wp2
          go_quiet (fail)
          go_wp2_with fail
          refine (Hlk.out _).mono ?_
          rintro e w5 ⟨rfl, q5, rfl⟩
          have hmf : ∀ (fn : Fn) (first cap : Array Value) (w : World), (Instr.makeFunc fn first cap).run Tryz.prog w = .ok (.func fn first cap) w := fun _ _ _ _ => rfl
          have i1 : (a : Int) ≤ (k : Int) := by omega
          have na := na_c wb
          have mt := mt_c wb
          go_wp2
          go_region_held3 (fun _ => True) (trivial) (first | (go_at_call 160; refine (asw_c base wb Z B M1 _ ?_ HM1.out.symm ?_).mono ?_; exact HWr.out.drewN _; (have := HJl.out; omega); rintro e w6 ⟨rfl, hw6, hb6⟩))
          have HW6 := Lib.hid hw6; have HB6 := Lib.hid ((below_drewN HB.out _).trans hb6)
          clear hw6 hb6
          go_wp2_with fail
          refine (asw_c base wb V M1 M2 _ HW6.out HVl.out (by have := HM1l.out; omega)).mono ?_
          rintro e w7 ⟨rfl, hw7, hb7⟩
          have HW7 := Lib.hid hw7; have HB7 := Lib.hid (HB6.out.trans hb7)
          clear hw7 hb7
          go_wp2
          first | go_roundw | refine ⟨?rel, ?measure⟩
          case rel => exact ⟨k + 2, k + 2, M2, Nat.le_refl _, K2.out, by have := K2.out; omega, rfl, rfl, by go_num, rfl, by go_num, HJ2, HW7, HB7⟩
          case measure => simp [intOf]; omega
        · have hno : ∀ d, l[k + 1]? = some d → d ≠ 92 ∧ d ≠ 34 ∧ d ≠ 110 := fun d hd => ⟨fun e => hm ⟨d, 92, hd, by simp [e]⟩, fun e => hm ⟨d, 34, hd, by simp [e]⟩, fun e => hm ⟨d, 10, hd, by simp [e]⟩⟩
          have hlk := fun q => look_none gb g Y (wr.drewN q) (hGq q) pY y0 (fun d hd => hno d (by rw [← hY1]; exact hd))
          have hJ2 := Cd.J_lone HJ.out hx2 hak hno
          have Hlk := Lib.hid hlk; have HJ2 := Lib.hid hJ2
          clear hlk hJ2 hno hm hx2 hY1 hGq
          go_wp2
          go_quiet (fail)
          go_wp2_with fail
          refine (Hlk.out _).mono ?_
          rintro e w5 ⟨rfl, q5, rfl⟩
          go_wp2
          first | go_roundw | refine ⟨?rel, ?measure⟩
          case rel => exact ⟨a, k + 1, B, by omega, hal, by omega, rfl, rfl, rfl, rfl, by go_num, HJ2, Lib.hid (HWr.out.drewN _), Lib.hid (below_drewN HB.out _)⟩
          case measure => simp [intOf]; omega
      · have hcn : (X[k]'hlt) ≠ 92 := fun e => h92 (by rw [e]; rfl)
        have hJ2 := Cd.J_plain HJ.out hx hak hcn
        obtain ⟨⟨t0, n1, t1, kq, kb, kn, h1, h2, -⟩, -⟩ := hG
        have g1 : wr.cell? ⟨g, 1, none⟩ = some (.int .i64 0) := h1.c 1 (by omega)
        have g5 : wr.cell? ⟨g, 5, none⟩ = some (.int .i64 3) := h1.c 5 (by omega)
        have g4 : wr.cell? ⟨g, 4, none⟩ = some (sl3 t0) := h1.c 4 (by omega)
        have gx : wr.cell? ⟨g, 6 + (X[k]'hlt).toNat, none⟩ = some (.int .u8 ((mp (X[k]'hlt).toNat : Nat) : Int)) := by rw [h1.c (6 + (X[k]'hlt).toNat) (by omega), GF_at]
        have ta : wr.cell? ⟨t0, 0, none⟩ = some np := h2.c 0 (by omega)
        have tb : wr.cell? ⟨t0, 2, none⟩ = some np := h2.c 2 (by omega)
        have k0 : (0 : Int) ≤ (k : Int) := by omega
        have k1 : (k : Int) < (X.size : Int) := by omega
        have y0 : (0 : Int) ≤ ((X[k]'hlt).toNat : Int) := by omega
        have y1 : ((X[k]'hlt).toNat : Int) < 256 := by omega
        have HJ2 := Lib.hid hJ2
        have hmp := mp_not h92
        clear hJ2 hcn h1 h2 hx hc
        rcases hmp with e | e | e
        all_goals
          rw [e] at gx
          clear e
          go_wp2
          go_quiet (fail)
          go_wp2
          first | go_roundw | refine ⟨?rel, ?measure⟩
          case rel => exact ⟨a, k + 1, B, by omega, hal, by omega, rfl, rfl, rfl, rfl, by go_num, HJ2, Lib.hid (HWr.out.drewN _), Lib.hid (below_drewN HB.out _)⟩
          case measure => simp [intOf]; omega
    · by_cases hke : k = X.size
      · have hJ2 := Cd.J_past HJ.out (by omega)
        obtain ⟨Y, hY⟩ : ∃ Y, Y = X.extract k X.size := ⟨_, rfl⟩
        have sY : Y.size = 0 := by rw [hY, ← hke]; simp
        have d0 : decide ((k : Int) ≤ (X.size : Int)) = true := by simp; omega
        have d1 : ((k : Int) != (X.size : Int)) = false := by simp [hke]
        have k0 : (0 : Int) ≤ (k : Int) := by omega
        have k1 : (k : Int) ≤ (X.size : Int) := by omega
        have k2 : k ≤ X.size := by omega
        have Hke := Lib.hid hke
        have hlk : Calls Tryz.prog 152 #[pt g, .string Y, .bool false] wr fun e w' => e = .returned (.tuple #[em, .int .i64 0, .bool false]) ∧ w' = wr := by
          obtain ⟨⟨t0, n1, t1, kq, kb, kn, h1, -⟩, -⟩ := hG
          exact lookE_c g Y wr _ _ _ h1 sY
        have eY := hY.symm
        have Hlk := Lib.hid hlk; have HJ2 := Lib.hid hJ2
        clear hlk hJ2 hY sY hG hlt hke
        go_wp2_with fail
        refine Hlk.out.mono ?_
        rintro e w5 ⟨rfl, rfl⟩
        go_wp2
        first | go_roundw | refine ⟨?rel, ?measure⟩
        case rel => exact ⟨a, k + 1, B, by omega, hal, by have := Hke.out; omega, rfl, rfl, rfl, rfl, by go_num, HJ2, HWr, HB⟩
        case measure => have := Hke.out; simp [intOf]; omega
      · have hk1 : k = X.size + 1 := by omega
        have hfin := Cd.J_end HJ.out (by omega)
        have d0 : decide ((k : Int) ≤ (X.size : Int)) = false := by simp; omega
        by_cases ha : a = X.size
        · have hBu : B = Cd.unr l := by rw [hfin, List.drop_of_length_le (by omega), List.append_nil]
          have d1 : ((a : Int) != (X.size : Int)) = false := by simp [ha]
          have HBu := Lib.hid hBu
          clear hfin hBu hG
          subst ha
          go_wp2
          go_ret2
          exact ⟨_, rfl, by rw [← HBu.out]; exact HWr.out, HB.out⟩
        · have d1 : ((a : Int) != (X.size : Int)) = true := by simp; omega
          obtain ⟨Z, hZ⟩ : ∃ Z, Z = X.extract a X.size := ⟨_, rfl⟩
          have hZl : Z.data.toList = l.drop a := by rw [hZ, ext_list, ← Hl.out, List.take_of_length_le (by rw [hlnn]; exact Nat.le_refl _)]
          have sZ : Z.size = X.size - a := by rw [← str_len, hZl, List.length_drop, hlnn]
          have hBl := Cd.J_len HJ.out
          obtain ⟨M1, hM1⟩ : ∃ M1, M1 = Cd.unr l := ⟨_, rfl⟩
          have hBM : B ++ Z.data.toList = M1 := by rw [hZl, hM1, hfin]
          have hM1l : M1.length = B.length + Z.size := by rw [← hBM, List.length_append, str_len]
          have ew1 : IntKind.i64.wrap (((B.length : Nat) : Int) + (Z.size : Int)) = ((M1.length : Nat) : Int) := by rw [IntKind.wrap_i64]; omega
          have eZ := hZ.symm
          have i1 : (a : Int) ≤ (X.size : Int) := by omega
          have HM1 := Lib.hid hM1; have HBM := Lib.hid hBM; have HBl := Lib.hid (show B.length + Z.size ≤ 3000000 by omega)
          have hmf : ∀ (fn : Fn) (first cap : Array Value) (w : World), (Instr.makeFunc fn first cap).run Tryz.prog w = .ok (.func fn first cap) w := fun _ _ _ _ => rfl
          have na := na_c wb
          have mt := mt_c wb
          clear hZ hZl hfin hM1 hBM hM1l hG hBl sZ hk1
          go_wp2
          go_region_held3 (fun _ => True) (trivial) (first | (go_at_call 160; refine (asw_c base wb Z B M1 _ ?_ HBM.out ?_).mono ?_; exact HWr.out.drewN _; exact HBl.out; rintro e w6 ⟨rfl, hw6, hb6⟩))
          have HW6 := Lib.hid hw6; have HB6 := Lib.hid ((below_drewN HB.out _).trans hb6)
          clear hw6 hb6
          go_wp2
          go_ret2
          exact ⟨_, rfl, by rw [← HM1.out]; exact HW6.out, HB6.out⟩
end Go.Proofs.YtpdapgbamlcjjaaGreatDoor
