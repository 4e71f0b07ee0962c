/-
  seq's addBlock: what the call returns and leaves.
-/
import Derived.Test.YtddnlimkaagpdaaDoorSp
import Derived.Test.YtddnlimkaagpdaaDoorUf
namespace Go.Proofs.YtddnlimkaagpdaaDoor
open Go.RowKit

theorem alls_next {α : Type} (p : α → Bool) (l : List α) (k : Nat) (r : α) (h : l[k]? = some r) (hr : p r = true) (ha : (l.take k).all p = true) : (l.take (k + 1)).all p = true := by
  rw [List.take_add_one, h, List.all_append, ha]
  simp [hr]
theorem alls_not {α : Type} (p : α → Bool) (l : List α) (k : Nat) (r : α) (h : l[k]? = some r) (hr : p r = false) : l.all p = false := by
  rw [List.all_eq_false]
  exact ⟨r, List.mem_of_getElem? h, by simp [hr]⟩
def short (s : List UInt8) : Bool := decide (s.length ≤ 1000)
theorem okR_no2 {r : Sm.R} (h : r.length ≠ 2) : Sm.okR r = false := by unfold Sm.okR; simp [h]
theorem okR_long {r : Sm.R} (h : r.all short = false) : Sm.okR r = false := by unfold Sm.okR; rw [show (r.all fun s => decide (s.length ≤ 1000)) = r.all short from rfl, h]; simp
theorem okR_yes {r : Sm.R} (h2 : r.length = 2) (h : r.all short = true) : Sm.okR r = true := by unfold Sm.okR; rw [show (r.all fun s => decide (s.length ≤ 1000)) = r.all short from rfl, h]; simp [h2]

set_option maxRecDepth 100000 in
set_option maxHeartbeats 1000000 in
/-- may -/
theorem may_c (A : Option Addr) (n c B : Nat) (l : List Sm.R) (w : World) (hr : RL w B A n c l) (o : Bool) (ho : o = l.all Sm.okR) :
    Calls Tryd.prog 32 #[.slice A n c] w fun e w' => e = .returned (.bool o) ∧ w = w' := by
  have hl := hr.len
  have hn : n ≤ 9223372036854775807 := by obtain ⟨vs, h1, _⟩ := hr; have h2 := h1.2.1; have h3 := h1.2.2.1; unfold maxLen at h3; omega
  have Hr := Lib.hid hr; have Hl := Lib.hid hl; have Ho := Lib.hid ho; clear hr hl ho
  go_enter Tryd.func32, Tryd.ntmps32
  go_wp2
  go_loop [9] (fun t => ∃ k : Nat, t = .int .i64 (k : Int) ∧ k ≤ n ∧ Hid ((l.take k).all Sm.okR = true)) (fun t => n - (intOf t).toNat)
  case atStart => exact ⟨0, rfl, Nat.zero_le _, Lib.hid rfl⟩
  case round =>
    obtain ⟨k, rfl, hk, HA⟩ := hrel
    by_cases hlt : k < n
    · obtain ⟨b, off, D, m, d, r, rfl, hb, hc, hx, _, hrr⟩ := Hr.out.at_ hlt
      have hm := lvs_num hrr
      have hm2 : m ≤ 9223372036854775807 := by have h2 := hrr.2.1; have h3 := hrr.2.2.1; unfold maxLen at h3; omega
      by_cases h2 : m = 2
      · have h2a : ((m : Int) != 2) = false := by simp; omega
        have h2b : ((m : Int) == 2) = true := by simp; omega
        have HX := Lib.hid hx; have HRR := Lib.hid hrr; have HM := Lib.hid hm; clear hx hrr hm
        go_wp2
        go_loop [18] (fun t => ∃ j : Nat, t = .int .i64 (j : Int) ∧ j ≤ m ∧ Hid ((r.take j).all short = true)) (fun t => m - (intOf t).toNat)
        case atStart => exact ⟨0, rfl, Nat.zero_le _, Lib.hid rfl⟩
        case round =>
          obtain ⟨j, rfl, hj, HB⟩ := hrel
          by_cases hjt : j < m
          · obtain ⟨b2, off2, x, rfl, hb2, hcx, hx2, _⟩ := lvs_at HRR.out hjt
            have HX2 := Lib.hid hx2; clear hx2
            by_cases hbig : (1000 : Int) < (x.length : Int)
            · have ho' : o = false := by
                rw [Ho.out]
                exact alls_not _ l k r HX.out (okR_long (alls_not _ r j x HX2.out (by unfold short; simp; omega)))
              subst ho'
              go_wp2
              go_ret
              exact ⟨rfl, rfl⟩
            · go_wp2
              go_round
              case rel => exact ⟨j + 1, by go_num, by omega, Lib.hid (alls_next _ r j x HX2.out (by unfold short; simp; omega) HB.out)⟩
              case measure => simp [intOf]; omega
          · have hall : r.all short = true := by
              have := HB.out
              rwa [List.take_of_length_le (by rw [HM.out]; omega)] at this
            have HL := Lib.hid hall; clear hall
            go_wp2
            go_round
            case rel => exact ⟨k + 1, by go_num, by omega, Lib.hid (alls_next _ l k r HX.out (okR_yes (by rw [HM.out]; exact h2) HL.out) HA.out)⟩
            case measure => simp [intOf]; omega
      · have h2a : ((m : Int) != 2) = true := by simp; omega
        have h2b : ((m : Int) == 2) = false := by simp; omega
        have ho' : o = false := by
          rw [Ho.out]
          exact alls_not _ l k r hx (okR_no2 (by rw [hm]; exact h2))
        subst ho'
        clear hrr hm hx
        go_wp2
        go_ret
        exact ⟨rfl, rfl⟩
    · have ho' : o = true := by
        rw [Ho.out]
        have := HA.out
        rwa [List.take_of_length_le (by rw [Hl.out]; omega)] at this
      subst ho'
      go_wp2
      go_ret
      exact ⟨rfl, rfl⟩

/-- 'append(x, s...)' with what else has turned. -/
theorem U8.wpAppStrG {P : Program} {t e s : TypeId} (u : U8 P t e s) {w : World} {ops : Array Oper} {rest : List Oper} {o : Oper} {a : Act} {Q : Exit → Act → World → Prop} (hgd : o.guard = none) (x y : Operand)
    (ho : o.op = .call { callee := .builtin .append, args := #[x, y], argTypes := #[t, s] })
    {base c : Nat} {A : Option Addr} {l N : List UInt8} {r : ByteArray} (hx : a.eval x = .slice A l.length c) (hy : a.eval y = .string r) (hown : Own w e base A c l) (hN : l ++ r.data.toList = N)
    (hsm : N.length ≤ 140737488355328) (hbase : base ≤ w.heap.size)
    (h : ∀ A' c' w', Own w' e base A' c' N → w.grownBy w' (ob A) → wpList P ops Q rest (a.put o.dst (.slice A' N.length c')) w') : wpList P ops Q (o :: rest) a w := by
  subst hN
  obtain ⟨i, hi, hz0, hz1, hz2⟩ := info_parts u.inf
  have hrs : r.size = r.data.toList.length := by rw [Array.length_toList]; rfl
  rw [List.length_append, ← hrs] at hsm
  refine Lib.wpList_append_own_string w hgd x y t s ho base e i u.sl u.st hi hz0 hz1 hz2 _ l.length (bvs l) hx hown r hy (by simp only [maxLen]; omega) hsm hbase fun v' w' ho hg _ => ?_
  have hsh : ∃ A' c', v' = .slice A' (l.length + r.size) c' := by
    rcases ho.2 with ⟨hv, hn⟩ | ⟨g, cap, cur, hv, _⟩
    · exact ⟨_, _, by rw [hv, hn]⟩
    · exact ⟨_, _, hv⟩
  obtain ⟨A', c', hv⟩ := hsh
  subst hv
  have hl : (l ++ r.data.toList).length = l.length + r.size := by rw [List.length_append, hrs]
  rw [ownBlock_slice] at hg
  have := h A' c' w' (by
    unfold Own
    rw [hl, bvs_append]
    exact ho) hg
  rw [hl] at this
  exact this
theorem keeps_own {W W' : World} {e : TypeId} {base c : Nat} {A : Option Addr} {l : List UInt8} (hg : W.grownBy W' (ob A)) (h : Own W e base A c l) : KeepsFrom 0 W W' :=
  ⟨hg.size, fun k o _ hk ho => (hg.block k (Array.getElem?_eq_some_iff.1 hk).1 fun e2 => by
    rcases h.2 with ⟨hv, hn⟩ | ⟨g, cap, cur, hv, hbg, hg2, _⟩
    · injection hv with hv
      subst hv
      cases e2
    · injection hv with hv
      subst hv
      cases e2
      rw [hg2] at hk
      injection hk with hk
      subst hk
      cases ho).trans hk⟩
theorem below_own {W W' : World} {e : TypeId} {base c : Nat} {A : Option Addr} {l : List UInt8} (hg : W.grownBy W' (ob A)) (h : Own W e base A c l) (hb : base ≤ W.heap.size) : Below base W W' :=
  ⟨hg.os, hg.tape, hg.output, hg.size, fun k hk => hg.block k (by omega) fun e => by have := (own_ob h k e.symm).1; omega⟩

/-- A row that grew; what holds no cells lies as it lay. -/
def RetAB (base : Nat) (w : World) (N : List UInt8) (e : Ending) (w' : World) : Prop :=
  ∃ A c, e = .returned (.slice A N.length c) ∧ Own w' 5 base A c N ∧ Below base w w' ∧ KeepsFrom 0 w w'
def AbO (base : Nat) (w : World) (l : List Sm.R) (H : List UInt8) (o t : Value) (wr : World) : Prop :=
  ∃ A c C, ∃ k : Nat, o = .slice A C.length c ∧ t = .int .i64 (k : Int) ∧ k ≤ l.length ∧ Own wr 5 base A c C ∧ Hid (C = H ++ Sm.recsB (l.take k)) ∧ Below base w wr
def AbI (base : Nat) (w : World) (r : Sm.R) (H : List UInt8) (o t : Value) (wr : World) : Prop :=
  ∃ A c C, ∃ j : Nat, o = .slice A C.length c ∧ t = .int .i64 (j : Int) ∧ j ≤ r.length ∧ Own wr 5 base A c C ∧ Hid (C = H ++ Sm.frs (r.take j)) ∧ Below base w wr
end Go.Proofs.YtddnlimkaagpdaaDoor

namespace Go.Proofs.YtddnlimkaagpdaaDoor
open Go.RowKit

/-- A row of the call's own, or a full slice. -/
def OwnX (w : World) (e : TypeId) (base : Nat) (A : Option Addr) (c : Nat) (l : List UInt8) : Prop :=
  Own w e base A c l ∨ (0 < l.length ∧ c = l.length ∧ ∃ g, A = some ⟨g, 0, none⟩ ∧ g < w.heap.size ∧ ∀ (j : Nat) (x : UInt8), l[j]? = some x → w.cell? ⟨g, j, none⟩ = some (.int .u8 (x.toNat : Int)))
section
variable {w w' : World} {e : TypeId} {base c : Nat} {A : Option Addr} {l : List UInt8}
theorem OwnX.keep (h : OwnX w e base A c l) (hb : Below w.heap.size w w') : OwnX w' e base A c l := by
  rcases h with h | ⟨h0, hc, g, hA, hg, hcell⟩
  · exact .inl (h.keep hb)
  · exact .inr ⟨h0, hc, g, hA, Nat.lt_of_lt_of_le hg hb.size, fun j x hx => (hb.cell (p := ⟨g, j, none⟩) hg).trans (hcell j x hx)⟩
theorem OwnX.rb (h : OwnX w e base A c l) (hl : l.length ≤ 1000000000) : Rb w w.heap.size A l.length c l := by
  rcases h with h | ⟨h0, hc, g, hA, hg, hcell⟩
  · exact h.rb
  · subst hc hA
    exact ⟨rfl, Nat.le_refl _, by simp only [maxLen]; omega, fun _ => ⟨g, 0, rfl, hg, fun j x hx => by rw [Nat.zero_add]; exact hcell j x hx⟩⟩
theorem OwnX.ob_lt (h : OwnX w e base A c l) (g : Nat) (hg : ob A = some g) : g < w.heap.size := by
  rcases h with h | ⟨h0, hc, g', hA, hg', _⟩
  · exact (own_ob h g hg).2
  · subst hA; cases hg; exact hg'
end
section
variable {P : Program} {t e s : TypeId}
theorem grown_any {w w' : World} (h : w.grownBy w' none) (row : Option Nat) : w.grownBy w' row := ⟨h.os, h.tape, h.output, h.size, fun k hk _ => h.block k hk (by simp)⟩
theorem below_none {w w' : World} (h : w.grownBy w' none) (base : Nat) (hb : base ≤ w.heap.size) : Below base w w' := ⟨h.os, h.tape, h.output, h.size, fun k hk => h.block k (by omega) (by simp)⟩
theorem keeps_none {w w' : World} (h : w.grownBy w' none) : KeepsFrom 0 w w' := ⟨h.size, fun k _ _ hk _ => (h.block k (Array.getElem?_eq_some_iff.1 hk).1 (by simp)).trans hk⟩
/-- 'append(x, s...)' -/
theorem U8.appStrX (u : U8 P t e s) {w : World} {base c : Nat} {A : Option Addr} {l : List UInt8} (ty : TypeId) (r : ByteArray) (hr0 : 0 < r.size) (hown : OwnX w e base A c l) (hsm : l.length + r.size ≤ 140737488355328) (hbase : base ≤ w.heap.size) :
    ∃ A' c' w', (Builtin.append_ #[t, s] ty #[.slice A l.length c, .string r]).run P w = .ok (.slice A' (l ++ r.data.toList).length c') w' ∧ Own w' e base A' c' (l ++ r.data.toList) ∧ w.grownBy w' (ob A) ∧ Below base w w' ∧ KeepsFrom 0 w w' := by
  obtain ⟨i, hi, hz0, hz1, hz2⟩ := info_parts u.inf
  have hrs : r.size = r.data.toList.length := by rw [Array.length_toList]; rfl
  have hl : (l ++ r.data.toList).length = l.length + r.size := by rw [List.length_append, hrs]
  rcases hown with hown | ⟨h0, rfl, g, rfl, hg, hcell⟩
  · obtain ⟨v', w', hrun, ho, hgr, _⟩ := Lib.run_append_own_string (P := P) w base t s ty e i u.sl u.st hi hz0 hz1 hz2 _ l.length (bvs l) hown r (by simp only [maxLen]; omega) hsm hbase
    have hsh : ∃ A' c', v' = .slice A' (l.length + r.size) c' := by
      rcases ho.2 with ⟨hv, hn⟩ | ⟨g, cap, cur, hv, _⟩
      · exact ⟨_, _, by rw [hv, hn]⟩
      · exact ⟨_, _, hv⟩
    obtain ⟨A', c', hv⟩ := hsh
    subst hv
    rw [ownBlock_slice] at hgr
    refine ⟨A', c', w', by rw [hrun, hl], ?_, hgr, below_own hgr hown hbase, keeps_own hgr hown⟩
    unfold Own
    rw [hl, bvs_append]
    exact ho
  · have hgrow := Lib.run_append_grow_string (P := P) w t s ty e i (.int .u8 0) u.sl u.st hi hz0 ⟨g, 0, none⟩ l.length l.length (bvs l) (by rw [bvs_length, hz1, Nat.mul_one]) (fun j v hj => by
      obtain ⟨x, hx, rfl⟩ := bvs_get l j v hj
      rw [add_plain, Nat.zero_add]
      exact hcell j x hx) r (by omega) (by omega) (by rw [hz2]; exact growslice_fits (by omega) (by omega))
    have hg2 : w.grownBy (w.drew.alloc (.cells ((bvs l).toArray ++ (Lib.strCells r).toArray ++ Builtin.zeroCells (Value.int .u8 0).cells (grownCap w (l.length + r.size) l.length e - (l.length + r.size))) e)) none :=
      ⟨rfl, rfl, rfl, by simp, fun k hk _ => Below.heap_alloc w.drew _ k hk⟩
    have hge := grownCap_ge w (l.length + r.size) l.length e
    have hcm : grownCap w (l.length + r.size) l.length e ≤ maxLen := grownCap_le_maxLen w (l.length + r.size) l.length e (by simp only [maxLen]; omega)
    refine ⟨_, _, _, by rw [hgrow, hl], ?_, grown_any hg2 _, below_none hg2 base hbase, keeps_none hg2⟩
    have hlen : (bvs l ++ Lib.strCells r).length = (l.length + r.size) * 1 := by rw [List.length_append, bvs_length, Lib.strCells_length, Nat.mul_one]
    unfold Own
    rw [hl, bvs_append]
    refine ⟨by rw [List.length_append, bvs_length, bvs_length, ← hrs, Nat.mul_one], .inr ⟨w.heap.size, _, _, rfl, hbase, heap_alloc_new w.drew _, hge, hcm, ?_, ?_⟩⟩
    · have hz1' : (Value.int IntKind.u8 0).cells.size = 1 := rfl
      simp only [Array.size_append, List.size_toArray, size_zeroCells, hz1', bvs_length, Lib.strCells_length]
      omega
    · simp only [Array.toList_append, List.append_assoc]
      rw [← List.append_assoc, ← hlen]
      exact List.take_left
theorem U8.wpAppStrX (u : U8 P t e s) {w : World} {ops : Array Oper} {rest : List Oper} {o : Oper} {a : Act} {Q : Exit → Act → World → Prop} (hgd : o.guard = none) (x y : Operand)
    (ho : o.op = .call { callee := .builtin .append, args := #[x, y], argTypes := #[t, s] })
    {base c : Nat} {A : Option Addr} {l N : List UInt8} {r : ByteArray} (hx : a.eval x = .slice A l.length c) (hy : a.eval y = .string r) (hr0 : 0 < r.size) (hown : OwnX w e base A c l) (hN : l ++ r.data.toList = N)
    (hsm : N.length ≤ 140737488355328) (hbase : base ≤ w.heap.size)
    (h : ∀ A' c' w', Own w' e base A' c' N → w.grownBy w' (ob A) → Below base w w' → KeepsFrom 0 w w' → wpList P ops Q rest (a.put o.dst (.slice A' N.length c')) w') : wpList P ops Q (o :: rest) a w := by
  subst hN
  have hrs : r.size = r.data.toList.length := by rw [Array.length_toList]; rfl
  refine wpList_plain hgd fun _ hK => ?_
  obtain ⟨A', c', w', hrun, h2, h3, h4, h5⟩ := u.appStrX o.type r hr0 hown (by rw [hrs, ← List.length_append]; exact hsm) hbase
  unfold Oper.wp execOp
  simp only [ho, resolve, invoke, builtin, Sem.run_bind, Sem.run_pure, Result.andThen_ok, List.map_toArray, List.map_cons, List.map_nil, hx, hy, hrun]
  exact hK _ _ (h A' c' w' h2 h3 h4 h5)
end
end Go.Proofs.YtddnlimkaagpdaaDoor

namespace Go.Proofs.YtddnlimkaagpdaaDoor
open Go.RowKit

theorem fr_frl (x : List UInt8) : fr ⟨x.toArray⟩ = Sm.frl x := by
  unfold fr Sm.frl
  rfl
set_option maxRecDepth 100000 in
set_option maxHeartbeats 2000000 in
/-- addBlock -/
theorem addBlock_c (A : Option Addr) (c base : Nat) (L : List UInt8) (At : Option Addr) (ct : Nat) (D : Option Addr) (m d : Nat) (l : List Sm.R) (w : World) (hown : OwnX w 5 base A c L) (hb : base ≤ w.heap.size) (hb0 : 0 < base) (ht : Rn w w.heap.size At 256 ct Cm.tab) (hr : RL w w.heap.size D m d l)
    (hok : l.all Sm.okR = true) (hm : m ≤ 150) (hL : L.length ≤ 1000000000) (hx : Mx w) :
    Calls Tryd.prog 33 #[.slice A L.length c, .slice At 256 ct, .slice D m d] w (RetAB base w (L ++ Sm.blkw l)) := by
  have hl := hr.len
  have hv := Sm.vb_three m (by omega)
  have hwr : IntKind.u64.wrap (m : Int) = (m : Int) := by rw [IntKind.wrap_u64]; omega
  obtain ⟨H, hH⟩ : ∃ H, H = Vm.vb m := ⟨_, rfl⟩
  have hHl : H.length ≤ 3 := by rw [hH]; exact hv
  have hbl := Sm.recsB_len l hok
  rw [hl] at hbl
  obtain ⟨V, hV⟩ : ∃ V, V = L ++ Sm.blkw l := ⟨_, rfl⟩
  rw [← hV]
  have HV := Lib.hid hV; clear hV
  have hput := put_c none 0 0 [] m w (Rb.nil _ _) (by omega) (by omega)
  rw [List.nil_append, ← hH] at hput
  have Hown := Lib.hid hown; have Ht := Lib.hid ht; have Hr := Lib.hid hr; have Hok := Lib.hid hok; have Hl := Lib.hid hl; have HH := Lib.hid hH; have Hx := Lib.hid hx; have Hput := Lib.hid hput
  clear hown ht hr hok hl hH hx hput hv
  go_enter Tryd.func33, Tryd.ntmps33
  go_wp2_with fail
  refine Hput.out.mono ?_
  rintro e w1 ⟨A1, c1, rfl, ho1, hb1⟩
  have z1 := hb1.size
  go_wp2
  go_loopw [7, 20] (fun o t wr => AbO w.heap.size w l H o t wr) (fun _ t _ => m - (intOf t).toNat)
  case atStart => exact ⟨A1, c1, H, 0, rfl, rfl, Nat.zero_le _, ho1, Lib.hid (by simp [Sm.recsB]), hb1⟩
  case round =>
    obtain ⟨A2, c2, C, k, rfl, rfl, hk, ho2, HC, hb2⟩ := hrel
    have z2 := hb2.size
    rw [Hl.out] at hk
    by_cases hlt : k < m
    · obtain ⟨b, off, E, q, dd, r, rfl, hbk, hc0, hx, _, hrr⟩ := Hr.out.at_ hlt
      have hc : wr.cell? ⟨b, off + k, none⟩ = some (.slice E q dd) := (hb2.cell (p := ⟨b, off + k, none⟩) hbk).trans hc0
      clear hc0
      have hq := lvs_num hrr
      have hokr : Sm.okR r = true := (List.all_eq_true.1 Hok.out) r (List.mem_of_getElem? hx)
      obtain ⟨hr2, hrs⟩ := Sm.okR_iff.1 hokr
      have hsnoc := Sm.recsB_snoc l k r hx
      have htk := Sm.recsB_take_len l (k + 1)
      rw [hsnoc, List.length_append] at htk
      have hCl : C.length + (Sm.frs r).length ≤ 300903 := by
        rw [HC.out, List.length_append]; omega
      have q2 : q = 2 := by omega
      have HX := Lib.hid hx; have HRR := Lib.hid hrr; have HQ := Lib.hid hq; have HRS := Lib.hid hrs; have HSn := Lib.hid hsnoc; clear hx hrr hq hrs hsnoc htk hokr hr2
      go_wp2
      go_loopw [7, 26] (fun o t wr => AbI w.heap.size w r C o t wr) (fun _ t _ => q - (intOf t).toNat)
      case atStart => exact ⟨A2, c2, C, 0, rfl, rfl, Nat.zero_le _, ho2, Lib.hid (by simp [Sm.frs]), hb2⟩
      case round =>
        obtain ⟨A3, c3, C3, j, rfl, rfl, hj, ho3, HC3, hb3⟩ := hrel
        rename World => wz
        have z3 := hb3.size
        rw [HQ.out] at hj
        by_cases hjt : j < q
        · obtain ⟨b2, off2, x, rfl, hbk2, hcx, hx2, _⟩ := lvs_at (HRR.out.below hb3) hjt
          have hxs := HRS.out x (List.mem_of_getElem? hx2)
          have hfl : (Sm.frl x).length ≤ 1003 := by
            have := Sm.vb_three x.length (by omega)
            unfold Sm.frl; rw [List.length_append]; omega
          have hfs := Sm.frs_snoc r j x hx2
          have hft := Sm.frs_take_len r (j + 1)
          rw [hfs, List.length_append] at hft
          have hC3l : C3.length + (Sm.frl x).length ≤ 300903 := by rw [HC3.out, List.length_append]; omega
          have hfr := frameP_c none 0 0 [] ⟨x.toArray⟩ wz (Rb.nil _ _) (by omega) (by show x.length ≤ 100000; omega)
          rw [List.nil_append, fr_frl] at hfr
          obtain ⟨N, hN⟩ : ∃ N, C3 ++ Sm.frl x = N := ⟨_, rfl⟩
          have hNl : N.length ≤ 300903 := by rw [← hN, List.length_append]; exact hC3l
          have Hfr := Lib.hid hfr; have HN := Lib.hid hN; have HFS := Lib.hid hfs; have Ho3 := Lib.hid ho3
          clear hfr hN hfs hft hx2 ho3
          go_wp2_with fail
          refine Hfr.out.mono ?_
          rintro e w4 ⟨A4, c4, rfl, ho4, hb4⟩
          have z4 := hb4.size
          have hr4 := ho4.rb
          have ho3' := Ho3.out.keep hb4
          have Hr4 := Lib.hid hr4; have Ho3' := Lib.hid ho3'; clear hr4 ho3' ho4
          go_wp2_with (at_builtin; go_must (refine bty.wpAppTo rfl (.tmp 30) (.tmp 32) rfl (l := C3) (r := Sm.frl x) (N := N) rfl rfl Ho3'.out Hr4.out HN.out ?hs1 ?hs2 ?_))
          case hs1 => omega
          case hs2 => omega
          intro A5 c5 w5 ho5 hg5
          have hb5 := (hb3.trans (hb4.mono z3)).trans (hg5.below Ho3'.out (by omega))
          go_wp2
          go_roundw
          case rel => exact ⟨A5, c5, N, j + 1, rfl, by go_num, by rw [HQ.out]; omega, ho5, Lib.hid (by rw [HFS.out, ← HN.out, HC3.out, List.append_assoc]), hb5⟩
          case measure => simp [intOf]; omega
        · have hC4 : C3 = H ++ Sm.recsB (l.take (k + 1)) := by
            have h1 := HC3.out
            rw [List.take_of_length_le (by rw [HQ.out]; omega)] at h1
            rw [h1, HC.out, HSn.out, List.append_assoc]
          have HC4 := Lib.hid hC4; clear hC4
          go_wp2
          go_roundw
          case rel => exact ⟨A3, c3, C3, k + 1, rfl, by go_num, by rw [Hl.out]; omega, ho3, HC4, hb3⟩
          case measure => simp [intOf]; omega
    · have hC : C = Sm.conts l := by
        have h1 := HC.out
        rw [List.take_of_length_le (by rw [Hl.out]; omega), HH.out] at h1
        rw [h1]
        unfold Sm.conts
        rw [Hl.out]
      have hCl : C.length ≤ 300903 := by
        rw [hC]; unfold Sm.conts; rw [List.length_append, Hl.out, ← HH.out]; omega
      have hseal := seal_c At 256 ct Cm.tab A2 C.length c2 C wr ((Ht.out.below hb2).more z2) (by omega) ho2.rb (by omega)
      rw [sealS_ok Cm.tab C Cm.tab_len] at hseal
      obtain ⟨S, hS⟩ : ∃ S, S = C ++ Cm.four (Cm.sum Cm.tab C) := ⟨_, rfl⟩
      have hSl : S.length ≤ 300907 := by rw [hS, List.length_append, Cm.four_len]; omega
      rw [← hS] at hseal
      have hSs : S = Sm.sealed (Sm.conts l) := by rw [hS, hC]; rfl
      have hesl := (Sm.esc_len S).2
      obtain ⟨N1, hN1⟩ : ∃ N1, L ++ [255, 83] = N1 := ⟨_, rfl⟩
      obtain ⟨N2, hN2⟩ : ∃ N2, N1 ++ Sm.esc S = N2 := ⟨_, rfl⟩
      have hN : L ++ Sm.blkw l = N2 := by
        rw [← hN2, ← hN1, hSs]
        unfold Sm.blkw
        simp
      have hN1l : N1.length ≤ 1000000002 := by rw [← hN1, List.length_append]; simp; omega
      have hN2l : N2.length ≤ 2000000000 := by rw [← hN2, List.length_append]; omega
      obtain rfl : V = N2 := by rw [HV.out]; exact hN
      have Hseal := Lib.hid hseal; have HN1 := Lib.hid hN1; have HN2 := Lib.hid hN2; clear hseal hS hSs hN1 hN2 hN hC ho2
      go_wp2_with fail
      refine Hseal.out.mono ?_
      rintro e w6 ⟨A6, c6, rfl, ho6, hb6⟩
      have z6 := hb6.size
      have b06 : Below w.heap.size w w6 := hb2.trans (hb6.mono z2)
      have Hown6 := Lib.hid (Hown.out.keep b06)
      go_wp2_with (at_builtin; go_must (refine bty.wpAppStrX rfl (.tmp 42) _ rfl (l := L) (N := N1) rfl rfl (by decide) Hown6.out HN1.out ?hs1 ?hs2 ?_))
      case hs1 => omega
      case hs2 => omega
      intro A7 c7 w7 ho7 hg7 b7 k7
      have z7 := b7.size
      have ho6' : Own w7 5 w.heap.size A6 c6 S := World.ownsRow.kept (ho6.mono z2) hg7 (by
        rw [ownBlock_slice]
        cases h6 : ob A6 with
        | none => exact .inl rfl
        | some g => exact .inr fun e2 => by have h1 := (own_ob ho6 g h6).1; have h2 := Hown.out.ob_lt g e2.symm; omega)
      have hx7 : Mx w7 := ((Hx.out.below' b06).below b7 hb0)
      have hesc := esc_c A6 S.length c6 S w7 ho6'.rb (by omega) hx7
      have Hesc := Lib.hid hesc; have Ho7 := Lib.hid ho7; clear hesc ho6 ho6' ho7
      go_wp2_with fail
      refine Hesc.out.mono ?_
      rintro e w8 ⟨A8, c8, rfl, ho8, hb8⟩
      have z8 := hb8.size
      have hr8 := ho8.rb
      have ho7' := Ho7.out.keep hb8
      have Hr8 := Lib.hid hr8; have Ho7' := Lib.hid ho7'; clear hr8 ho7' ho8
      go_wp2_with (at_builtin; go_must (refine bty.wpAppTo rfl (.tmp 44) (.tmp 46) rfl (l := N1) (r := Sm.esc S) (N := V) rfl rfl Ho7'.out Hr8.out HN2.out ?hs1 ?hs2 ?_))
      case hs1 => omega
      case hs2 => omega
      intro A9 c9 w9 ho9 hg9
      have k9 := keeps_own hg9.1 Ho7'.out
      have b9 := hg9.below Ho7'.out (by omega)
      have bz : Below base w w9 := (((b06.mono hb).trans b7).trans (hb8.mono (by omega))).trans b9
      have kz : KeepsFrom 0 w w9 := (((keeps_of_below b06 0).trans k7).trans (keeps_of_below hb8 0)).trans k9
      go_wp2
      go_ret
      exact ⟨A9, c9, rfl, ho9, bz, kz⟩
end Go.Proofs.YtddnlimkaagpdaaDoor
