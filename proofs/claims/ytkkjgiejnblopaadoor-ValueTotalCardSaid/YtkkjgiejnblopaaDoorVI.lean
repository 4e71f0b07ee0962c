/-
  The walk of the law ValueTotal.
-/
import Derived.Test.YtkkjgiejnblopaaDoorVH
namespace Go.Proofs.YtkkjgiejnblopaaDoor
open Go.RowKit Vl

def TtRel (w1 : World) (n : Nat) (l : List V) (o i : Value) (wr : World) : Prop :=
  ∃ A c, ∃ k : Nat, o = .slice A k c ∧ i = .int .i64 (k : Int) ∧ k ≤ n ∧ Oc 1 wr 4 w1.heap.size A k c (lvb ((l.take k).map (·.t))) ∧ (l.take k).all isV = true ∧ Below w1.heap.size w1 wr
theorem do_err (op : Int) (l : List V) (h : l.all isV = true) : (doV op l).2 = (res op (l.map (·.t))).2 := by
  unfold doV
  rw [if_pos h]
  by_cases h0 : (res op (l.map (·.t))).2 = 0
  · rw [if_pos h0]; exact h0.symm
  · rw [if_neg h0]

set_option maxRecDepth 100000 in
set_option maxHeartbeats 4000000 in
theorem valueTotal_walk' (S : Vls) (op : Int) (hop : I op) (A : Option Addr) (n c : Nat) (l : List V) (w : World) (hr : Rc 3 w w.heap.size A n c (vvs l)) (hn : n ≤ maxLen) (hI : ∀ v ∈ l, I v.n) (hG : Gl w) :
    Calls Tryd.prog 4 #[.int .i64 op, .slice A n c] w fun e w' => e = .returned (.bool true) ∧ Below w.heap.size w w' := by
  have hl : l.length = n := by have := hr.1; rw [vvs_len] at this; omega
  have Hsm := Lib.hid (small_c A n c l w hr hn)
  have Hr := Lib.hid hr; have HI := Lib.hid hI; have Hl := Lib.hid hl; have HS := Lib.hid S; have HG := Lib.hid hG
  clear S hr hI hl hG
  obtain ⟨sm, hsm⟩ : ∃ sm, sm = smB l := ⟨_, rfl⟩
  rw [← hsm] at Hsm
  go_enter Tryd.func4, Tryd.ntmps4
  go_wp2_with fail
  refine Hsm.out.mono ?_
  rintro e w1 ⟨rfl, b1⟩
  have z1 := b1.size
  cases sm with
  | false =>
    have B1 := Lib.hid b1
    clear b1 hsm
    go_wp2_with fail
    refine (alive13_c HS.out _ (HG.out.below' B1.out)).mono ?_
    rintro e wf ⟨rfl, bf⟩
    go_wp2
    go_ret
    exact ⟨rfl, B1.out.trans (bf.mono B1.out.size)⟩
  | true =>
    obtain ⟨hl8, hl21⟩ := smB_true.1 hsm.symm
    obtain ⟨w2, hw2⟩ : ∃ w2, w2 = w1.alloc (.cells #[] 4) := ⟨_, rfl⟩
    have b2 : Below w1.heap.size w1 w2 := by rw [hw2]; exact (Below.refl _ _).alloc (Nat.le_refl _) _
    have own2 : Oc 1 w2 4 w1.heap.size (some ⟨w1.heap.size, 0, none⟩) 0 0 [] := by rw [hw2]; exact Oc.made0 1 _ _
    have hr1 := (Hr.out.below b1).more (B' := w1.heap.size) z1
    have hn8 : n ≤ 8 := by have := Hl.out; omega
    have W2 := Lib.hid hw2; have B1 := Lib.hid b1; have B2 := Lib.hid b2; have Own2 := Lib.hid own2; have Hr1 := Lib.hid hr1; have Hl21 := Lib.hid hl21
    clear hw2 b1 b2 own2 hr1 hl21 hsm hl8 hn Hsm
    go_wp2_with (rw [← W2.out])
    go_loopw [5, 6] (fun o i wr => TtRel w1 n l o i wr) (fun _ i _ => n - (intOf i).toNat)
    case atStart => exact ⟨_, _, 0, rfl, rfl, Nat.zero_le _, Own2.out, rfl, B2.out⟩
    case round =>
      obtain ⟨A3, c3, k, rfl, rfl, hk, hown, hall, hbel⟩ := hrel
      rename World => wr
      have z3 := hbel.size
      by_cases hlt : k < n
      · obtain ⟨b, o, v, rfl, hb, hc0, hc1, hc2, hv⟩ := vvs_at (Hr1.out.below hbel) hlt
        have htk : l.take (k + 1) = l.take k ++ [v] := by rw [List.take_add_one, hv]; rfl
        have Hv := Lib.hid hv; have Htk := Lib.hid htk; have Hown := Lib.hid hown; have Hall := Lib.hid hall; have Hbel := Lib.hid hbel
        have hbw : b < wr.heap.size := by omega
        obtain ⟨t, m, s⟩ := v
        dsimp only at hc0 hc1 hc2
        have hct : wr.cell? ⟨b, o + k * 3, none⟩ = some (.bool t) := hc0
        obtain ⟨ok, hok⟩ : ∃ ok, ok = isV ⟨t, m, s⟩ := ⟨_, rfl⟩
        have his := is_c ⟨t, m, s⟩ wr
        rw [← hok] at his
        have His := Lib.hid his; have Hok := Lib.hid hok
        clear hv htk hown hall hbel his hok
        go_wp2_with fail
        refine His.out.mono ?_
        rintro e w4 ⟨rfl, b4⟩
        have z4 := b4.size
        have bb4 := Hbel.out.trans (b4.mono z3)
        have hct4 : w4.cell? ⟨b, o + k * 3, none⟩ = some (.bool t) := (b4.cell (p := ⟨b, o + k * 3, none⟩) hbw).trans hct
        clear hc0 hc1 hc2 hct
        cases ok with
        | false =>
          have BB4 := Lib.hid (B1.out.trans (bb4.mono z1))
          clear b4 bb4 hct4
          go_wp2_with fail
          refine (alive13_c HS.out _ (HG.out.below' BB4.out)).mono ?_
          rintro e wf ⟨rfl, bf⟩
          go_wp2
          go_ret
          exact ⟨rfl, BB4.out.trans (bf.mono BB4.out.size)⟩
        | true =>
          obtain ⟨w5, hw5⟩ : ∃ w5, w5 = w4.alloc (.cells #[.bool t] 4) := ⟨_, rfl⟩
          have b5 : Below w4.heap.size w4 w5 := by rw [hw5]; exact (Below.refl _ _).alloc (Nat.le_refl _) _
          have hrow : Rc 1 w5 (w4.heap.size + 1) (some ⟨w4.heap.size, 0, none⟩) 1 1 [.bool t] := by rw [hw5]; exact Rc.lit (z := 1) w4 _ #[.bool t] 1 rfl (by simp [maxLen])
          have b45 := b4.trans (b5.mono z4)
          have own5 := Hown.out.keep b45
          have bb5 := Hbel.out.trans (b45.mono z3)
          have z5 := bb5.size
          have W5 := Lib.hid hw5; have Hrow := Lib.hid hrow; have Own5 := Lib.hid own5; have BB5 := Lib.hid bb5
          have hws : lvb ((l.take (k + 1)).map (·.t)) = lvb ((l.take k).map (·.t)) ++ [.bool t] := by rw [Htk.out]; simp [lvb]
          obtain ⟨N, hN⟩ : ∃ N, N = lvb ((l.take (k + 1)).map (·.t)) := ⟨_, rfl⟩
          rw [← hN] at hws
          have HN := Lib.hid hN
          have hal : (l.take (k + 1)).all isV = true := by rw [Htk.out, List.all_append, Hall.out]; simp [← Hok.out]
          have Hws := Lib.hid hws.symm; have Hal := Lib.hid hal
          clear hw5 hrow own5 bb5 b45 b5 b4 bb4 hws hal hN
          go_wp2_with (at_builtin; rw [← W5.out]; go_must (refine Sl.wpAppAt bsty rfl (.tmp 29) (.tmp 35) rfl (n := k) (m := 1) (N := k + 1) (ws := N) rfl rfl Own5.out Hrow.out ?hs1 rfl Hws.out ?hs4 ?hs5 ?hs6 ?_))
          case hs1 => simp [Value.oneCell']
          case hs4 => omega
          case hs5 => omega
          case hs6 => exact z5
          intro A8 c8 w8 hown8 hg8
          have b8 := hg8.belowC Own5.out z5
          have bw8 := BB5.out.trans b8
          have Hown8 := Lib.hid hown8
          clear hown8 hg8
          go_wp2
          go_roundw
          case rel => exact ⟨A8, c8, k + 1, rfl, by go_num, hlt, by rw [← HN.out]; exact Hown8.out, Hal.out, bw8⟩
          case measure => simp [intOf]; omega
      · obtain rfl : k = n := by omega
        rw [List.take_of_length_le (by have := Hl.out; omega)] at hown hall
        have hrw := (Hr1.out.below hbel).more (B' := wr.heap.size) z3
        have hdo := HS.out.do_ op A k c l wr (HG.out.below' (B1.out.trans (hbel.mono z1))) hop hrw (by omega) (fun v hv => ⟨HI.out v hv, by have := Hl21.out v hv; omega⟩)
        obtain ⟨⟨dt, dn, ds⟩, de, hD⟩ : ∃ x y, doV op l = (x, y) := ⟨_, _, rfl⟩
        have hre := do_err op l hall
        have hkind := do_kind op l hall
        rw [hD] at hdo hre hkind
        dsimp only at hre hkind
        have hlen : (l.map (·.t)).length = k := by rw [List.length_map, Hl.out]
        have hrs := fun W (hb : Below wr.heap.size wr W) => HS.out.result op A3 k c3 (l.map (·.t)) W hop (hown.keep hb).rc (by omega)
        obtain ⟨rt, re, hR⟩ : ∃ x y, res op (l.map (·.t)) = (x, y) := ⟨_, _, rfl⟩
        rw [hR] at hre hkind
        simp only [hR] at hrs
        dsimp only at hre hkind
        subst hre
        have Hdo := Lib.hid hdo; have Hrs := Lib.hid hrs; have Hkind := Lib.hid hkind; have Hbel := Lib.hid hbel
        clear hdo hrs hkind hbel hown hall hrw hD hR hlen
        go_wp2_with fail
        refine Hdo.out.mono ?_
        rintro e w5 ⟨rfl, b5⟩
        have z5 := b5.size
        dsimp only
        obtain ⟨w6, hw6⟩ : ∃ w6, w6 = w5.alloc (.cells #[.bool dt, .int .i64 dn, .string ⟨ds.toArray⟩] 27) := ⟨_, rfl⟩
        have b6 : Below w5.heap.size w5 w6 := by rw [hw6]; exact (Below.refl _ _).alloc (Nat.le_refl _) _
        have x6 : Bx w6 w5.heap.size (.bool dt) (.int .i64 dn) (.string ⟨ds.toArray⟩) := by rw [hw6]; exact Bx.made _ _ _ _ _
        have b56 := b5.trans (b6.mono z5)
        have z6 := b6.size
        have hr6 := Hrs.out w6 b56
        have bb6 := B1.out.trans ((Hbel.out.trans (b56.mono z3)).mono z1)
        have W6 := Lib.hid hw6; have Hr6 := Lib.hid hr6; have X6 := Lib.hid x6; have BB6 := Lib.hid bb6
        clear hw6 b6 x6 b56 hr6 bb6 b5
        go_wp2_with (rw [← W6.out])
        refine Hr6.out.mono ?_
        rintro e w7 ⟨rfl, b7⟩
        have z7 := b7.size
        have x7 := X6.out.below b7 X6.out.lt
        have bb7 := BB6.out.trans (b7.mono BB6.out.size)
        have X7 := Lib.hid x7; have BB7 := Lib.hid bb7
        obtain ⟨c0, c1, c2, -, -, -, -⟩ := x7
        clear bb7 b7
        go_wp2_with fail
        refine (alive13_c HS.out _ (HG.out.below' BB7.out)).mono ?_
        rintro e w8 ⟨rfl, b8⟩
        have x8 := X7.out.below b8 X7.out.lt
        have bb8 := BB7.out.trans (b8.mono BB7.out.size)
        have X8 := Lib.hid x8; have BB8 := Lib.hid bb8
        clear c0 c1 c2 b8 bb8
        obtain ⟨c0, c1, c2, -, -, -, -⟩ := x8
        by_cases he : de = 0
        · subst he
          obtain ⟨k1, k2, k3, -⟩ := Hkind.out rfl
          try dsimp only at k1 k2
          subst k2
          have his := is_c ⟨dt, dn, ds⟩ w8
          rw [k1] at his
          have His := Lib.hid his
          clear his
          go_wp2_with fail
          refine His.out.mono ?_
          rintro e w9 ⟨rfl, b9⟩
          have x9 := X8.out.below b9 X8.out.lt
          have BB9 := Lib.hid (BB8.out.trans (b9.mono BB8.out.size))
          clear c0 c1 c2 b9
          obtain ⟨c0, c1, c2, -, -, -, -⟩ := x9
          rw [Hl.out] at k3
          have har := HS.out.arity op
          rw [← k3] at har
          have Har := Lib.hid (fun W => har W hop)
          clear har
          go_wp2_with fail
          refine (Har.out _).mono ?_
          rintro e wa ⟨rfl, ba⟩
          have Ba := Lib.hid (BB9.out.trans (ba.mono BB9.out.size))
          clear ba c0 c1 c2
          go_wp2
          go_ret
          exact ⟨rfl, Ba.out⟩
        · have dn0 : ((de : Int) == 0) = false := by simpa using he
          have dn1 : ((de : Int) != 0) = true := by simpa using he
          go_wp2
          go_ret
          exact ⟨rfl, BB8.out⟩
end Go.Proofs.YtkkjgiejnblopaaDoor
