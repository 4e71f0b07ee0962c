/-
  Joined: SqYb.
-/
import Derived.Test.YtknmhdkomjjneaaGreatDoorJW46
import Derived.Test.YtknmhdkomjjneaaGreatDoorJW22
import Derived.Test.YtknmhdkomjjneaaGreatDoorJW28
import Derived.ArgAppend
/-
  The document's Write: what the call returns and leaves.
-/
namespace Go.Proofs.YtknmhdkomjjneaaGreatDoor.Sq
open Go.RowKit Go.Shelf

section
variable {P : Program} {t e s : TypeId}
theorem _root_.Go.Proofs.YtknmhdkomjjneaaGreatDoor.U8.appX (u : U8 P t e s) {w : World} {base c B m d : Nat} {A D : Option Addr} {l r : List UInt8} (ty : TypeId) (hr0 : 0 < r.length) (hown : OwnX w e base A c l) (hr : Rb w B D m d r) (hsm : l.length + r.length ≤ 140737488355328) (hbase : base ≤ w.heap.size) :
    ∃ A' c' w', (Builtin.append_ #[t, t] ty #[.slice A l.length c, .slice D m d]).run P w = .ok (.slice A' (l ++ r).length c') w' ∧ Own w' e base A' c' (l ++ r) ∧ Below base w w' ∧ w.grownBy w' (ob A) := by
  rcases hown with hown | ⟨h0, rfl, g, rfl, hg, hcell⟩
  · obtain ⟨A', c', w', h1, h2, h3⟩ := u.appendAt ty hown hr hsm hbase
    exact ⟨A', c', w', h1, h2, h3.below hown hbase, h3.1⟩
  · obtain ⟨i, hi, hz0, hz1, hz2⟩ := info_parts u.inf
    obtain ⟨h1, h2, h3, h4⟩ := hr
    subst h1
    obtain ⟨b, off, rfl, hb, hc⟩ := h4 hr0
    obtain ⟨v', w', hrun, ho, hgr⟩ := run_append_arg_grows (P := P) (w := w) t ty e i (.int .u8 0) 1 1 u.sl hi hz0 hz1 hz2 rfl (by omega) ⟨g, 0, none⟩ l.length l.length (bvs l) (by rw [bvs_length]; omega) (fun j v hj => by
      obtain ⟨x, hx, rfl⟩ := bvs_get l j v hj
      rw [add_plain, Nat.zero_add]
      exact hcell j x hx) ⟨b, off, none⟩ r.length d (bvs r) (by rw [bvs_length]; omega) (fun j v hj => by
      obtain ⟨x, hx, rfl⟩ := bvs_get r j v hj
      rw [add_plain]
      exact hc j x hx) (by omega) (by simp only [maxLen]; omega) (by omega)
    have hsh : ∃ A' c', v' = .slice A' (l.length + r.length) c' := by
      rcases ho.2 with ⟨hv, hn⟩ | ⟨g, cap, cur, hv, _⟩
      · exact ⟨_, _, by rw [hv, hn]⟩
      · exact ⟨_, _, hv⟩
    obtain ⟨A', c', hv⟩ := hsh
    subst hv
    refine ⟨A', c', w', by rw [hrun, List.length_append], ?_, below_none hgr base hbase, grown_any hgr _⟩
    have ho2 : Own w' e w.heap.size A' c' (l ++ r) := by
      unfold Own
      rw [List.length_append, bvs_append]
      exact ho
    exact ho2.mono hbase
theorem _root_.Go.Proofs.YtknmhdkomjjneaaGreatDoor.U8.wpAppX (u : U8 P t e s) {w : World} {ops : Array Oper} {rest : List Oper} {o : Oper} {a : Act} {Q : Exit → Act → World → Prop} (hgd : o.guard = none) (x y : Operand)
    (ho : o.op = .call { callee := .builtin .append, args := #[x, y], argTypes := #[t, t] })
    {base c B m d : Nat} {A D : Option Addr} {l r N : List UInt8} (hx : a.eval x = .slice A l.length c) (hy : a.eval y = .slice D m d) (hr0 : 0 < r.length) (hown : OwnX w e base A c l) (hr : Rb w B D m d r) (hN : l ++ r = N)
    (hsm : N.length ≤ 140737488355328) (hbase : base ≤ w.heap.size)
    (h : ∀ A' c' w', Own w' e base A' c' N → Below base w w' → w.grownBy w' (ob A) → wpList P ops Q rest (a.put o.dst (.slice A' N.length c')) w') : wpList P ops Q (o :: rest) a w := by
  subst hN
  refine wpList_plain hgd fun _ hK => ?_
  obtain ⟨A', c', w', hrun, h2, h3, h4⟩ := u.appX o.type hr0 hown hr (by rw [← List.length_append]; exact hsm) hbase
  unfold Oper.wp execOp
  simp only [ho, resolve, invoke, builtin, Sem.run_bind, Sem.run_pure, Result.andThen_ok, List.map_toArray, List.map_cons, List.map_nil, hx, hy, hrun]
  exact hK _ _ (h A' c' w' h2 h3 h4)
end

theorem _root_.Go.Proofs.YtknmhdkomjjneaaGreatDoor.RL.from_ {w : World} {B n c k : Nat} {A : Option Addr} {l : List Sm.R} (h : RL w B A n c l) (hk : k ≤ n) : RL w B (cutA A c k) (n - k) (c - k) (l.drop k) := by
  have hl := h.len
  obtain ⟨vs, h1, h2⟩ := h
  have hvl := h1.len1
  have hnc := h1.2.1
  refine ⟨vs.drop k, ⟨by rw [List.length_drop]; omega, by omega, by have := h1.2.2.1; omega, fun hp => ?_⟩, by rw [List.length_drop, List.length_drop]; omega, fun j v r g1 g2 => ?_⟩
  · obtain ⟨b, off, rfl, hb, hc⟩ := h1.2.2.2 (by omega)
    refine ⟨b, off + k, ?_, hb, fun j v hj => ?_⟩
    · unfold cutA
      rw [if_neg (by omega)]
      by_cases h0 : k = 0
      · subst h0; simp [Addr.add]
      · simp [Addr.add, h0]
    · rw [List.getElem?_drop] at hj
      rw [Nat.add_assoc]; exact hc _ v hj
  · rw [List.getElem?_drop] at g1 g2
    exact h2.2 _ v r g1 g2

def RetWD (w : World) (p : List UInt8 × Nat) (e : Ending) (w' : World) : Prop :=
  ∃ A c, e = .returned (.tuple #[.slice A p.1.length c, .int .i64 (p.2 : Int)]) ∧ Rb w' w'.heap.size A p.1.length c p.1 ∧ Below w.heap.size w w'
def lenOf : Value → Nat
  | .slice _ n _ => n
  | _ => 0
def RwO (base : Nat) (w : World) (l : List Sm.R) (s o : Value) (wr : World) : Prop :=
  ∃ A c L D m d, ∃ rest : List Sm.R, s = .slice D m d ∧ o = .slice A (List.length L) c ∧ OwnX wr 5 base A c L ∧ RL wr base D m d rest ∧ rest.all Sm.okR = true ∧ L ++ Sm.wch rest.length rest = Sm.wr l ∧ m ≤ 150 ∧ L.length ≤ 4 + 12100 * (150 - m) ∧ Below base w wr
def RwI (base : Nat) (w : World) (q : Nat) (H : List UInt8) (rest : List Sm.R) (o t : Value) (wr : World) : Prop :=
  ∃ A c C, ∃ k : Nat, o = .slice A (List.length C) c ∧ t = .int .i64 (k : Int) ∧ k ≤ q ∧ Own wr 5 base A c C ∧ Hid (C = H ++ Sm.recsB (rest.take k)) ∧ Below base w wr
theorem okR_two {r : Sm.R} {x y : List UInt8} (h2 : r.length = 2) (h0 : r[0]? = some x) (h1 : r[1]? = some y) : r = [x, y] := by
  match r, h2 with
  | [a, b], _ => simp at h0 h1; rw [h0, h1]

set_option maxRecDepth 100000 in
set_option maxHeartbeats 4000000 in
theorem rwrite_c (A : Option Addr) (n c : Nat) (l : List Sm.R) (w : World) (hr : RL w w.heap.size A n c l) (hn : n ≤ 150) :
    Calls Tryz.prog 50 #[.slice A n c] w (RetWD w (Sm.wrS l)) := by
  have hl := hr.len
  obtain ⟨w1, hw1⟩ : ∃ w1, w1 = w.alloc (.cells #[.int .u8 84, .int .u8 83, .int .u8 81, .int .u8 49] 5 (4, 5)) := ⟨_, rfl⟩
  have z1 : w1.heap.size = w.heap.size + 1 := by rw [hw1]; simp
  have b1 : Below w.heap.size w w1 := by rw [hw1]; exact (Below.refl _ _).alloc (Nat.le_refl _) _
  have hk1 : w1.heap[w.heap.size]? = some (.cells #[.int .u8 84, .int .u8 83, .int .u8 81, .int .u8 49] 5 (4, 5)) := by rw [hw1]; exact World.alloc_heap_new w _
  have hcv : (convert 22 22 (.slice (some ⟨w.heap.size, 0, none⟩) 4 4)).run Tryz.prog (w.alloc (.cells #[.int .u8 84, .int .u8 83, .int .u8 81, .int .u8 49] 5)) = .ok (.slice (some ⟨w.heap.size, 0, none⟩) 4 4) w1 := by
    rw [hw1]; exact Lib.run_convert_bytes_const (P := Tryz.prog) w 22 5 #[.int .u8 84, .int .u8 83, .int .u8 81, .int .u8 49] 4 4 Tryz.underlying22 Tryz.underlying5
  have hx1 : OwnX w1 5 w.heap.size (some ⟨w.heap.size, 0, none⟩) 4 Sm.hd := .inr ⟨by decide, rfl, w.heap.size, rfl, by omega, fun j x hx => by
    rw [World.cell?]
    simp only [hk1]
    match j, hx with
    | 0, hx => simp [Sm.hd] at hx; subst hx; rfl
    | 1, hx => simp [Sm.hd] at hx; subst hx; rfl
    | 2, hx => simp [Sm.hd] at hx; subst hx; rfl
    | 3, hx => simp [Sm.hd] at hx; subst hx; rfl
    | j + 4, hx => simp [Sm.hd] at hx⟩
  have hr1 := hr.below b1
  have Hr := Lib.hid hr; have Hr1 := Lib.hid hr1; have Hl := Lib.hid hl; have Hx1 := Lib.hid hx1; have B1 := Lib.hid b1
  clear hr hr1 hl hx1 b1 hk1 hw1
  go_enter Tryz.func50, Tryz.ntmps50
  go_wp2
  go_loop [5] (fun t => ∃ k : Nat, t = .int .i64 (k : Int) ∧ k ≤ n ∧ Hid ((l.take k).all Sm.okR = true)) (fun t => n - (intOf t).toNat)
  case atStart => exact ⟨0, rfl, Nat.zero_le _, Lib.hid rfl⟩
  case round =>
    obtain ⟨k, rfl, hk, HA⟩ := hrel
    by_cases hlt : k < n
    · obtain ⟨b, off, D, m, d, r, rfl, hb, hc, hx, _, hrr⟩ := Hr1.out.at_ hlt
      have hm := lvs_num hrr
      have hm2 : m ≤ 9223372036854775807 := by have h2 := hrr.2.1; have h3 := hrr.2.2.1; unfold maxLen at h3; omega
      by_cases h2 : m = 2
      · subst h2
        obtain ⟨b2, off2, x, rfl, hb2, hcx, hx0, _⟩ := lvs_at hrr (k := 0) (by omega)
        obtain ⟨b3, off3, y, e3, hb3, hcy, hx1, _⟩ := lvs_at hrr (k := 1) (by omega)
        injection e3 with e3
        injection e3 with e31 e32 _
        subst e31 e32
        rw [Nat.add_zero] at hcx
        have hrxy := okR_two hm hx0 hx1
        have HX := Lib.hid hx; have HM := Lib.hid hm; have HRXY := Lib.hid hrxy; clear hx hrr hm hx0 hx1 hrxy
        by_cases hbx : (1000 : Int) < (x.length : Int)
        · have hbad : l.all Sm.okR = false := alls_not _ l k r HX.out (by rw [HRXY.out]; simp [Sm.okR]; omega)
          rw [Sm.wrS_err hbad]
          clear hbad
          go_wp2
          go_ret2
          exact ⟨none, 0, rfl, Rb.nil _ _, B1.out⟩
        · by_cases hby : (1000 : Int) < (y.length : Int)
          · have hbad : l.all Sm.okR = false := alls_not _ l k r HX.out (by rw [HRXY.out]; simp [Sm.okR]; omega)
            rw [Sm.wrS_err hbad]
            clear hbad
            go_wp2
            go_ret2
            exact ⟨none, 0, rfl, Rb.nil _ _, B1.out⟩
          · have hgood := alls_next _ l k r HX.out (by rw [HRXY.out]; simp [Sm.okR]; omega) HA.out
            have HG := Lib.hid hgood; clear hgood
            go_wp2
            go_round
            case rel => exact ⟨k + 1, by go_num, by omega, HG⟩
            case measure => simp [intOf]; omega
      · have h2a : ((m : Int) != 2) = true := by simp; omega
        have h2b : ((m : Int) == 2) = false := by simp; omega
        have hbad : l.all Sm.okR = false := alls_not _ l k r hx (okR_no2 (by rw [hm]; exact h2))
        rw [Sm.wrS_err hbad]
        clear hbad hrr hm hx
        go_wp2
        go_ret2
        exact ⟨none, 0, rfl, Rb.nil _ _, B1.out⟩
    · have hok : l.all Sm.okR = true := by
        have := HA.out
        rwa [List.take_of_length_le (by rw [Hl.out]; omega)] at this
      have HWS := Lib.hid (Sm.wrS_ok hok)
      have Hok := Lib.hid hok; clear hok
      go_wp2
      go_loopw [0, 4] (fun s o wr => RwO w.heap.size w l s o wr) (fun s _ _ => lenOf s)
      case atStart => exact ⟨some ⟨w.heap.size, 0, none⟩, 4, Sm.hd, A, n, c, l, rfl, rfl, Hx1.out, Hr1.out, Hok.out, rfl, hn, by simp [Sm.hd], B1.out⟩
      case round =>
        obtain ⟨A3, c3, L, D, m, d, rest, rfl, rfl, ho3, hr3, hok3, hL, hm, hLl, hb3⟩ := hrel
        rename World => wr
        have z3 := hb3.size
        have hrl := hr3.len
        by_cases hm0 : 0 < m
        · obtain ⟨q, hq⟩ : ∃ q, min 3 m = q := ⟨_, rfl⟩
          have hwr : IntKind.u64.wrap (q : Int) = (q : Int) := by rw [IntKind.wrap_u64]; omega
          have hq3 : q ≤ 3 := by omega
          have hqm : q ≤ m := by omega
          have hq0 : 0 < q := by omega
          have hmin : min (3 : Int) (m : Int) = (q : Int) := by omega
          have hput := rput_c none 0 0 [] q wr (Rb.nil _ _) (by omega) (by omega)
          rw [List.nil_append] at hput
          obtain ⟨H, hH⟩ : ∃ H, H = Vm.vb q := ⟨_, rfl⟩
          have hHl : H.length ≤ 3 := by rw [hH]; exact Sm.vb_three q (by omega)
          rw [← hH] at hput
          have hqt : rest.take 3 = rest.take q := by
            rw [← hq]
            rcases Nat.le_total 3 m with h | h
            · rw [Nat.min_eq_left h]
            · rw [Nat.min_eq_right h, List.take_of_length_le (by omega), List.take_of_length_le (by omega)]
          have hdt : rest.drop 3 = rest.drop q := by
            rw [← hq]
            rcases Nat.le_total 3 m with h | h
            · rw [Nat.min_eq_left h]
            · rw [Nat.min_eq_right h, List.drop_of_length_le (by omega), List.drop_of_length_le (by omega)]
          have hne : rest ≠ [] := fun e => by rw [e] at hrl; simp at hrl; omega
          have hstep : Sm.wch rest.length rest = Sm.blkw (rest.take q) ++ Sm.wch (rest.drop q).length (rest.drop q) := by
            obtain ⟨j, hj⟩ : ∃ j, rest.length = j + 1 := ⟨m - 1, by omega⟩
            rw [hj, Sm.wch_step hne, hqt, hdt, Sm.wch_more j _ _ (by rw [List.length_drop]; omega) (Nat.le_refl _)]
          have hst2 : (L ++ Sm.blkw (rest.take q)) ++ Sm.wch (rest.drop q).length (rest.drop q) = Sm.wr l := by rw [← hL, hstep, List.append_assoc]
          obtain ⟨ok1, ok2⟩ := (Sm.all_take_drop q).1 hok3
          have hql : (rest.take q).length = q := by rw [List.length_take]; omega
          have hbl := Sm.recsB_len (rest.take q) ok1
          rw [hql] at hbl
          have hblk := Sm.blkw_len3 (rest.take q) ok1 (by omega)
          have hr3' := hr3.from_ (k := q) (by omega)
          have hsl := sl1 D m d q (by omega)
          have Hput := Lib.hid hput; have HH := Lib.hid hH; have Ho3 := Lib.hid ho3; have Hr3 := Lib.hid hr3; have Hst := Lib.hid hst2; have Hok := Lib.hid hok3; have Hok2 := Lib.hid ok2; have Hrl := Lib.hid hrl; have Hr3' := Lib.hid hr3'; have Hql := Lib.hid hql
          clear hput hH ho3 hr3 hok3 hL hrl hqt hdt hne hstep hst2 ok1 ok2 hr3' hql hq
          go_wp2_with fail
          refine Hput.out.mono ?_
          rintro e w4 ⟨A4, c4, rfl, ho4, hb4⟩
          have z4 := hb4.size
          go_wp2
          go_loopw [7, 8] (fun o t wz => RwI wr.heap.size wr q H rest o t wz) (fun _ t _ => q - (intOf t).toNat)
          case atStart => exact ⟨A4, c4, H, 0, rfl, rfl, Nat.zero_le _, ho4, Lib.hid (by simp [Sm.recsB]), hb4⟩
          case round =>
            obtain ⟨A5, c5, C, i, rfl, rfl, hi, ho5, HC, hb5⟩ := hrel
            rename World => wz
            have z5 := hb5.size
            by_cases hiq : i < q
            · obtain ⟨b, off, E, p, dd, r, rfl, hbk, hc0, hx, _, hrr⟩ := Hr3.out.at_ (k := i) (by omega)
              have hbk2 : b < wr.heap.size := by omega
              have hc : wz.cell? ⟨b, off + i, none⟩ = some (.slice E p dd) := (hb5.cell (p := ⟨b, off + i, none⟩) hbk2).trans hc0
              have hp := lvs_num hrr
              have hokr : Sm.okR r = true := (List.all_eq_true.1 Hok.out) r (List.mem_of_getElem? hx)
              obtain ⟨hr2, hrs⟩ := Sm.okR_iff.1 hokr
              obtain rfl : p = 2 := by omega
              obtain ⟨b2, off2, x, rfl, hb2, hcx0, hx0, _⟩ := lvs_at hrr (k := 0) (by omega)
              obtain ⟨b3, off3, y, e3, hb3', hcy0, hx1, _⟩ := lvs_at hrr (k := 1) (by omega)
              injection e3 with e3
              injection e3 with e31 e32 _
              subst e31 e32
              rw [Nat.add_zero] at hcx0
              have hb22 : b2 < wr.heap.size := by omega
              have hcx : wz.cell? ⟨b2, off2, none⟩ = some (.string ⟨x.toArray⟩) := (hb5.cell (p := ⟨b2, off2, none⟩) hb22).trans hcx0
              have hcy : wz.cell? ⟨b2, off2 + 1, none⟩ = some (.string ⟨y.toArray⟩) := (hb5.cell (p := ⟨b2, off2 + 1, none⟩) hb22).trans hcy0
              have hrxy := okR_two hr2 hx0 hx1
              have hxl : x.length ≤ 1000 := hrs x (List.mem_of_getElem? hx0)
              have hyl : y.length ≤ 1000 := hrs y (List.mem_of_getElem? hx1)
              have hsn : Sm.recsB (rest.take (i + 1)) = Sm.recsB (rest.take i) ++ (Sm.frl x ++ Sm.frl y) := by
                rw [Sm.recsB_snoc rest i r hx, hrxy]
                simp [Sm.frs]
              have htk := Sm.recsB_take_len (rest.take q) (i + 1)
              rw [List.take_take, Nat.min_eq_left (show i + 1 ≤ q by omega), hsn, List.length_append] at htk
              have hCl : C.length + (Sm.frl x ++ Sm.frl y).length ≤ 6021 := by rw [HC.out, List.length_append]; omega
              have hpair : ∀ W, Rb W W.heap.size A5 C.length c5 C → Calls Tryz.prog 69 #[.slice A5 C.length c5, .agg #[.string ⟨x.toArray⟩, .string ⟨y.toArray⟩]] W (RetB W.heap.size W (C ++ (Sm.frl x ++ Sm.frl y))) := fun W h => by
                have := rpair_c A5 C.length c5 C ⟨x.toArray⟩ ⟨y.toArray⟩ W h (by omega) (by show x.length ≤ 100000; omega) (by show y.length ≤ 100000; omega)
                rwa [fr_frl, fr_frl] at this
              obtain ⟨N, hN⟩ : ∃ N, N = C ++ (Sm.frl x ++ Sm.frl y) := ⟨_, rfl⟩
              rw [← hN] at hpair
              have hNC : N = H ++ Sm.recsB (rest.take (i + 1)) := by rw [hN, hsn, HC.out, List.append_assoc]
              have HNC := Lib.hid hNC; have Hpair := Lib.hid hpair; have Ho5 := Lib.hid ho5
              clear hx hrr hp hokr hr2 hrs hx0 hx1 hrxy hsn htk hpair hN hNC ho5 hc0 hcx0 hcy0
              have q1 : (0 : Int) ≤ (i : Int) := by omega
              have q2 : (i : Int) < (m : Int) := by omega
              go_wp2_with fail
              go_region_held3 (fun w' => w'.cell? ⟨b, off + i, none⟩ = some (.slice (some ⟨b2, off2, none⟩) 2 dd) ∧ w'.cell? ⟨b2, off2, none⟩ = some (.string ⟨x.toArray⟩) ∧ w'.cell? ⟨b2, off2 + 1, none⟩ = some (.string ⟨y.toArray⟩)) (go_keep) (first | (go_at_call 69; (with_reducible refine (Hpair.out _ ?_).mono ?_); exact Ho5.out.rb; rintro e w6 ⟨A6, c6, rfl, ho6, hb6⟩; have hb6' : Below wz.heap.size wz w6 := ⟨hb6.os, hb6.tape, hb6.output, hb6.size, hb6.block⟩; have g0 : w6.cell? ⟨b, off + i, none⟩ = some (.slice (some ⟨b2, off2, none⟩) 2 dd) := (hb6'.cell (p := ⟨b, off + i, none⟩) (Nat.lt_of_lt_of_le hbk2 z5)).trans hc; have g1 : w6.cell? ⟨b2, off2, none⟩ = some (.string ⟨x.toArray⟩) := (hb6'.cell (p := ⟨b2, off2, none⟩) (Nat.lt_of_lt_of_le hb22 z5)).trans hcx; have g2 : w6.cell? ⟨b2, off2 + 1, none⟩ = some (.string ⟨y.toArray⟩) := (hb6'.cell (p := ⟨b2, off2 + 1, none⟩) (Nat.lt_of_lt_of_le hb22 z5)).trans hcy))
              have ho6' : Own w6 5 wr.heap.size A6 c6 N := ho6.mono z5
              clear ho6
              go_wp2
              go_roundw
              case rel => exact ⟨A6, c6, N, i + 1, rfl, by go_num, by omega, ho6', HNC, hb5.trans (hb6'.mono z5)⟩
              case measure => simp [intOf]; omega
            · have hC : C = Sm.conts (rest.take q) := by
                have h1 := HC.out
                obtain rfl : i = q := by omega
                rw [h1, HH.out]
                unfold Sm.conts
                rw [Hql.out]
              have hCl : C.length ≤ 6021 := by
                rw [hC]; unfold Sm.conts; rw [List.length_append, Hql.out, ← HH.out]; omega
              obtain ⟨S, hS⟩ : ∃ S, S = C ++ Cm.four (Cm.sum Cm.tab C) := ⟨_, rfl⟩
              have hSl : S.length ≤ 6025 := by rw [hS, List.length_append, Cm.four_len]; omega
              have hSs : Sm.blkw (rest.take q) = [255, 83] ++ Sm.esc S := by rw [hS, hC]; rfl
              have hesl := (Sm.esc_len S).2
              obtain ⟨N1, hN1⟩ : ∃ N1, L ++ [255, 83] = N1 := ⟨_, rfl⟩
              obtain ⟨N2, hN2⟩ : ∃ N2, N1 ++ Sm.esc S = N2 := ⟨_, rfl⟩
              have hN : N2 ++ Sm.wch (rest.drop q).length (rest.drop q) = Sm.wr l := by
                rw [← Hst.out, ← hN2, ← hN1, hSs, List.append_assoc L]
              have hN1l : N1.length ≤ 2000000 := by rw [← hN1, List.length_append]; simp; omega
              have hN2l : N2.length ≤ 4 + 12100 * (150 - (m - q)) := by
                have e : N2.length = L.length + (Sm.blkw (rest.take q)).length := by rw [← hN2, ← hN1, hSs]; simp
                omega
              have hcs : ∀ W, Rb W W.heap.size A5 C.length c5 C → Calls Tryz.prog 71 #[.slice A5 C.length c5] W (RetB W.heap.size W S) := fun W h => by rw [hS]; exact rsealed_c A5 _ c5 C W h (by omega)
              have hce : ∀ W A1 c1, Rb W W.heap.size A1 S.length c1 S → Calls Tryz.prog 70 #[.slice A1 S.length c1] W (RetB W.heap.size W (Sm.esc S)) := fun W A1 c1 h => resc_c A1 _ c1 S W h (by omega)
              obtain ⟨T, hT⟩ : ∃ T, T = Sm.esc S := ⟨_, rfl⟩
              rw [← hT] at hN2 hce
              obtain ⟨w6, hw6⟩ : ∃ w6, w6 = wz.alloc (.cells #[.int .u8 255, .int .u8 83] 5) := ⟨_, rfl⟩
              have hlit : Rb w6 (wz.heap.size + 1) (some ⟨wz.heap.size, 0, none⟩) 2 2 [255, 83] := by rw [hw6]; exact Rb.lit wz _ _ _ _ 2 rfl rfl (by omega)
              have b6 : Below wz.heap.size wz w6 := by rw [hw6]; exact (Below.refl _ _).alloc (Nat.le_refl _) _
              have z6 : w6.heap.size = wz.heap.size + 1 := by rw [hw6]; simp
              have ho36 := (Ho3.out.keep hb5).keep b6
              have ho56 := ho5.keep b6
              have b36 := (hb3.trans (hb5.mono z3)).trans (b6.mono (by omega))
              have hne : ob A5 = none ∨ ob A5 ≠ ob A3 := by
                rcases h5 : ob A5 with _ | g5
                · exact .inl rfl
                · refine .inr fun e => ?_
                  have h6 := own_ob ho5 g5 h5
                  have h7 := Ho3.out.ob_lt g5 e.symm
                  omega
              have Hne := Lib.hid hne; have Hcs := Lib.hid hcs; have Hce := Lib.hid hce; have HN := Lib.hid hN; have HN1 := Lib.hid hN1; have HN2 := Lib.hid hN2; have W6 := Lib.hid hw6; have Ho36 := Lib.hid ho36; have Ho56 := Lib.hid ho56; have Hlit := Lib.hid hlit
              clear hne hcs hce hS hSs hN hN1 hN2 hC hT hw6 ho36 ho56 hlit ho5
              go_wp2_with (at_builtin; rw [← W6.out]; go_must (refine bty.wpAppX rfl (.tmp 72) (.tmp 73) rfl (l := L) (r := [255, 83]) (N := N1) rfl rfl ?hs0 Ho36.out Hlit.out HN1.out ?hs1 ?hs2 ?_))
              case hs0 => simp
              case hs1 => omega
              case hs2 => omega
              intro A7 c7 w7 ho7 hb7 hg7
              have z7 := hb7.size
              have b37 := b36.trans hb7
              have ho57 : Own w7 5 wr.heap.size A5 c5 C := World.ownsRow.kept Ho56.out hg7 (by rw [ownBlock_slice]; exact Hne.out)
              have Ho57 := Lib.hid ho57; have Ho7 := Lib.hid ho7; clear ho57 ho7 hg7
              go_wp2_with fail
              refine (Hcs.out w7 Ho57.out.rb).mono ?_
              rintro e w8 ⟨A8, c8, rfl, ho8, hb8⟩
              have z8 := hb8.size
              have Ho8 := Lib.hid ho8; clear ho8
              go_wp2_with fail
              refine (Hce.out w8 A8 c8 Ho8.out.rb).mono ?_
              rintro e w9 ⟨A9, c9, rfl, ho9, hb9⟩
              have z9 := hb9.size
              have ho79 := Ho7.out.keep (hb8.trans (hb9.mono z8))
              have b39 := b37.trans ((hb8.trans (hb9.mono z8)).mono (show w.heap.size ≤ w7.heap.size by omega))
              have Ho79 := Lib.hid ho79; have Ho9 := Lib.hid ho9.rb; clear ho79 ho9
              go_wp2_with (at_builtin; go_must (refine bty.wpAppTo rfl (.tmp 75) (.tmp 78) rfl (l := N1) (r := T) (N := N2) rfl rfl Ho79.out Ho9.out HN2.out ?hs1 ?hs2 ?_))
              case hs1 => omega
              case hs2 => omega
              intro A10 c10 w10 ho10 hg10
              have bt := ((((hb5.mono z3).trans (b6.mono (show w.heap.size ≤ wz.heap.size by omega))).trans hb7).trans ((hb8.trans (hb9.mono z8)).mono (show w.heap.size ≤ w7.heap.size by omega))).trans (hg10.below Ho79.out (show w.heap.size ≤ w9.heap.size by omega))
              have b10 := hb3.trans bt
              go_wp2
              go_roundw
              case rel => exact ⟨A10, c10, N2, cutA D d q, m - q, d - q, rest.drop q, rfl, rfl, .inl ho10, Hr3'.out.below bt, Hok2.out, HN.out, by omega, hN2l, b10⟩
              case measure => simp [lenOf]; omega
        · have hr0 : rest = [] := List.eq_nil_of_length_eq_zero (by omega)
          obtain rfl : m = 0 := by omega
          subst hr0
          have hX : L = Sm.wr l := by rw [← hL]; simp [Sm.wch]
          have hrb := ho3.rb (by omega)
          have HX := Lib.hid hX; have Hrb := Lib.hid hrb; clear hL ho3 hr3 hok3 hX hrb hrl
          go_wp2
          go_ret2
          refine ⟨A3, c3, ?_, ?_, hb3⟩
          · rw [HWS.out, ← HX.out]; rfl
          · rw [HWS.out, ← HX.out]; exact Hrb.out
end Go.Proofs.YtknmhdkomjjneaaGreatDoor.Sq
