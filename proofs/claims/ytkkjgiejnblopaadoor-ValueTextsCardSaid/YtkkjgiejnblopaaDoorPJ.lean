/-
  The program's Do.
-/
import Derived.Test.YtkkjgiejnblopaaDoorPI
namespace Go.Proofs.YtkkjgiejnblopaaDoor
open Go.RowKit Vl

def PdRel (base : Nat) (w : World) (n : Nat) (l : List V) (i : Value) (wr : World) : Prop :=
  ∃ k : Nat, i = .int .i64 (k : Int) ∧ k ≤ n ∧ Br wr (base + 1) ((l.take k).map (·.t) ++ List.replicate (n - k) false) ∧ (l.take k).all isV = true ∧ Below base w wr ∧ Bx wr base (.bool false) (.int .i64 0) (.string ⟨#[]⟩)
/-- What may be thought of a call's way through the operation. -/
theorem doV_bad {op : Int} {l : List V} {k : Nat} {v : V} (hv : l[k]? = some v) (h : isV v = false) : doV op l = (v0, 1) := by
  unfold doV
  rw [if_neg]
  intro q
  have := List.all_eq_true.1 q v (List.mem_of_getElem? hv)
  rw [h] at this; cases this
theorem doV_err {op : Int} {l : List V} (h : l.all isV = true) (h0 : (res op (l.map (·.t))).2 ≠ 0) : doV op l = (v0, (res op (l.map (·.t))).2) := by
  unfold doV; rw [if_pos h, if_neg h0]
theorem doV_ok {m : Nat} {l : List V} (h : l.all isV = true) (h0 : (res (m : Int) (l.map (·.t))).2 = 0) : doV (m : Int) l = (opV m (l.getD 0 v0) (l.getD 1 v0) (l.getD 2 v0), 0) := by
  unfold doV opV; rw [if_pos h, if_pos h0]
theorem res_ok {op : Int} {L : List Bool} (h : (res op L).2 = 0) : 4 ≤ op ∧ op ≤ 21 ∧ L.length = ar op := by
  by_cases hop : 4 ≤ op ∧ op ≤ 21
  · refine ⟨hop.1, hop.2, ?_⟩
    obtain ⟨m, rfl⟩ : ∃ m : Nat, op = m := ⟨op.toNat, by omega⟩
    rw [res_mt m (by omega) (by omega)] at h
    by_cases hm : mt (k0 m) (k1 m) (k2 m) L = true
    · rw [ar_nz m (by omega) (by omega)]
      by_cases hq : L.length = nz (k0 m) (k1 m) (k2 m)
      · exact hq
      · rw [mt_long hq] at hm; cases hm
    · rw [if_neg hm] at h; cases h
  · rw [res_out hop] at h; cases h
theorem nine_row (l : List V) (h : 0 < l.length) (h3 : l.length ≤ 3) :
    (vvs l ++ [Value.bool false, .int .i64 0, .string ⟨#[]⟩, .bool false, .int .i64 0, .string ⟨#[]⟩, .bool false, .int .i64 0, .string ⟨#[]⟩].drop (vvs l).length).toArray =
      #[.bool (l.getD 0 v0).t, .int .i64 (l.getD 0 v0).n, st (l.getD 0 v0).s, .bool (l.getD 1 v0).t, .int .i64 (l.getD 1 v0).n, st (l.getD 1 v0).s, .bool (l.getD 2 v0).t, .int .i64 (l.getD 2 v0).n, st (l.getD 2 v0).s] := by
  rcases l with _ | ⟨x, _ | ⟨y, _ | ⟨z, _ | ⟨u, r⟩⟩⟩⟩
  · simp at h
  · rfl
  · rfl
  · rfl
  · simp at h3
theorem vvs_one (l : List V) : ∀ v ∈ vvs l, v.oneCell' = true := by
  intro v hv
  unfold vvs at hv
  obtain ⟨x, -, hx⟩ := List.mem_flatMap.1 hv
  simp at hx
  rcases hx with rfl | rfl | rfl <;> rfl

set_option maxRecDepth 100000 in
set_option maxHeartbeats 4000000 in
theorem pDo_c (op : Int) (A : Option Addr) (n c : Nat) (l : List V) (w : World) (hg : Gl w) (hr : Rc 3 w w.heap.size A n c (vvs l)) (hn : n ≤ 1000000) (hI : ∀ v ∈ l, I v.n) :
    Calls Tryd.prog 10 #[.int .i64 op, .slice A n c] w (RetD w (doV op l)) := by
  have hl : l.length = n := by have := hr.1; rw [vvs_len] at this; omega
  obtain ⟨w0, hw0⟩ : ∃ w0, w0 = w.alloc (.cells #[.bool false, .int .i64 0, .string ⟨#[]⟩] 27) := ⟨_, rfl⟩
  have z0 : w0.heap.size = w.heap.size + 1 := by rw [hw0]; simp
  have b0 : Below w.heap.size w w0 := by rw [hw0]; exact (Below.refl _ _).alloc (Nat.le_refl _) _
  have x0 : Bx w0 w.heap.size (.bool false) (.int .i64 0) (.string ⟨#[]⟩) := by rw [hw0]; exact Bx.made _ _ _ _ _
  have hmk := make_bools w0 n hn
  obtain ⟨w1, hw1⟩ : ∃ w1, w1 = w0.alloc (.cells (Array.replicate n (.bool false)) 4) := ⟨_, rfl⟩
  have b1 : Below w0.heap.size w0 w1 := by rw [hw1]; exact (Below.refl _ _).alloc (Nat.le_refl _) _
  have r1 : Br w1 (w.heap.size + 1) (List.replicate n false) := by rw [hw1, ← z0]; exact bools_made w0 n
  rw [← hw1, z0] at hmk
  have x1 := x0.below b1 x0.lt
  have bb1 := b0.trans (b1.mono (by omega))
  obtain ⟨R, hR⟩ : ∃ R, R = doV op l := ⟨_, rfl⟩
  rw [← hR]
  have W0 := Lib.hid hw0; have B1 := Lib.hid bb1; have X1 := Lib.hid x1; have R1 := Lib.hid r1; have Hg := Lib.hid hg; have HI := Lib.hid hI; have HR := Lib.hid hR; have Hr := Lib.hid hr; have Hl := Lib.hid hl
  clear hw0 z0 b0 x0 hw1 b1 r1 x1 bb1 hR hg hI hr hl
  go_enter Tryd.func10, Tryd.ntmps10
  go_wp2_with (rw [← W0.out])
  go_loopw [7, 8, 19] (fun _ _ i wr => PdRel w.heap.size w n l i wr) (fun _ _ i _ => n - (intOf i).toNat)
  case atStart => exact ⟨0, rfl, Nat.zero_le _, R1.out, rfl, B1.out, X1.out⟩
  case round =>
    obtain ⟨k, rfl, hk, hbr, hall, hbel, hbx⟩ := hrel
    rename World => wr
    have z3 := hbel.size
    by_cases hlt : k < n
    · obtain ⟨b, o, v, rfl, hb, hc0, hc1, hc2, hv⟩ := vvs_at (Hr.out.below hbel) hlt
      have htk : l.take (k + 1) = l.take k ++ [v] := by rw [List.take_add_one, hv]; rfl
      have hbw : b < wr.heap.size := by omega
      have hkl : (l.take k).length = k := by rw [List.length_take, Hl.out]; omega
      obtain ⟨t, m, s⟩ := v
      dsimp only at hc0 hc1 hc2
      have hct : wr.cell? ⟨b, o + k * 3, none⟩ = some (.bool t) := hc0
      obtain ⟨w2, hw2⟩ : ∃ w2, w2 = wr.alloc (.cells #[.bool t, .int .i64 m, .string ⟨s.toArray⟩] 27) := ⟨_, rfl⟩
      have b2 : Below wr.heap.size wr w2 := by rw [hw2]; exact (Below.refl _ _).alloc (Nat.le_refl _) _
      have y2 : Bx w2 wr.heap.size (.bool t) (.int .i64 m) (.string ⟨s.toArray⟩) := by rw [hw2]; exact Bx.made _ _ _ _ _
      obtain ⟨ok, hok⟩ : ∃ ok, ok = isV ⟨t, m, s⟩ := ⟨_, rfl⟩
      have his := isValue_c ⟨t, m, s⟩ w2
      rw [← hok] at his
      have bx2 := hbx.below b2 hbx.lt
      have br2 := hbr.below b2 hbr.lt
      have W2 := Lib.hid hw2; have His := Lib.hid his; have Hok := Lib.hid hok; have Htk := Lib.hid htk; have Hv := Lib.hid hv; have Hall := Lib.hid hall; have Hkl := Lib.hid hkl
      have BB2 := Lib.hid (hbel.trans (b2.mono z3)); have Br2 := Lib.hid br2; have Bx2 := Lib.hid bx2; have Y2 := Lib.hid y2
      obtain ⟨y0, y1, y2, g0, g1, g2, gl⟩ := y2
      clear hw2 b2 his hok htk hv hall hkl hbel hbr hbx br2 bx2 hb
      go_wp2_with (rw [← W2.out])
      refine His.out.mono ?_
      rintro e w4 ⟨rfl, b4⟩
      have bx4 := Bx2.out.below b4 Bx2.out.lt
      have br4 := Br2.out.below b4 Br2.out.lt
      have y4 := Y2.out.below b4 Y2.out.lt
      have BB4 := Lib.hid (BB2.out.trans (b4.mono BB2.out.size))
      have Bx4 := Lib.hid bx4; have Br4 := Lib.hid br4
      clear y0 y1 y2 g0 g1 g2 gl b4 hc0 hc1 hc2 hct
      cases ok with
      | false =>
        have hR : R = (v0, 1) := by rw [HR.out]; exact doV_bad Hv.out Hok.out.symm
        subst hR
        obtain ⟨c0, c1, c2, f0, f1, f2, -⟩ := bx4
        clear br4 y4
        go_wp2
        change bodyPost _ _ _ _ _ (put3 w4 w.heap.size _ _ _)
        refine bodyPost_ret (v := .tuple #[vv v0, .int .i64 1]) ?_ rfl ⟨rfl, BB4.out.trans (put3_below _ _ _ _ _)⟩
        have s0 := fun v0 v1 v2 => (put3_box Bx4.out v0 v1 v2).c0
        have s1 := fun v0 v1 v2 => (put3_box Bx4.out v0 v1 v2).c1
        have s2 := fun v0 v1 v2 => (put3_box Bx4.out v0 v1 v2).c2
        simp [results, Tryd.results10, go_sem, s0, s1, s2, v0]
      | true =>
        obtain ⟨e0, e1, e2, -, -, -, -⟩ := y4
        have hkL : k < ((l.take k).map (·.t) ++ List.replicate (n - k) false).length := by rw [List.length_append, List.length_map, Hkl.out, List.length_replicate]; omega
        have cz : w4.cell? ⟨w.heap.size + 1, k, none⟩ = some (.bool false) := br4.at_ k false (by
          rw [List.getElem?_append_right (by rw [List.length_map, Hkl.out]; exact Nat.le_refl _), List.length_map, Hkl.out, Nat.sub_self, List.getElem?_replicate, if_pos (by omega)])
        have fz : w4.frozen? ⟨w.heap.size + 1, k, none⟩ = false := br4.fr k hkL
        have HkL := Lib.hid hkL
        clear bx4 br4 hkL
        go_wp2
        go_roundw
        case rel =>
          refine ⟨k + 1, by go_num, hlt, ?_, ?_, BB4.out.trans ((below_set1 w4 (w.heap.size + 1) k (.bool t)).mono (by omega)), Bx4.out.keep (by simp) ((below_set1 w4 (w.heap.size + 1) k (.bool t)).block w.heap.size (by omega))⟩
          · have h := Br4.out.set (k := k) HkL.out t
            have e : ((l.take k).map (·.t) ++ List.replicate (n - k) false).set k t = (l.take (k + 1)).map (·.t) ++ List.replicate (n - (k + 1)) false := by
              rw [Htk.out, List.set_append_right _ _ (by rw [List.length_map, Hkl.out]; exact Nat.le_refl _), List.length_map, Hkl.out, Nat.sub_self, show n - k = (n - (k + 1)) + 1 by omega, List.replicate_succ]
              simp
            rw [e] at h
            exact h
          · rw [Htk.out, List.all_append, Hall.out]; simp [← Hok.out]
        case measure => simp [intOf]; omega
    · obtain rfl : k = n := by omega
      rw [List.take_of_length_le (by rw [Hl.out]; exact Nat.le_refl _)] at hall hbr
      rw [Nat.sub_self, List.replicate_zero, List.append_nil] at hbr
      have hLl : (l.map (·.t)).length = k := by rw [List.length_map, Hl.out]
      have hrc := hbr.rc hLl (Nat.le_refl _) (by unfold maxLen; omega)
      have hrs := pResult_c op (some ⟨w.heap.size + 1, 0, none⟩) k k (l.map (·.t)) wr hrc hn
      obtain ⟨rt, re, hRS⟩ : ∃ x y, res op (l.map (·.t)) = (x, y) := ⟨_, _, rfl⟩
      rw [hRS] at hrs
      have Hrs := Lib.hid hrs; have HRS := Lib.hid hRS; have Hall := Lib.hid hall; have Hbel := Lib.hid hbel; have Hbx := Lib.hid hbx; have HLl := Lib.hid hLl
      clear hrs hRS hall hbel hbx hbr hrc hLl
      go_wp2_with fail
      refine Hrs.out.mono ?_
      rintro e w5 ⟨rfl, b5⟩
      dsimp only
      have bx5 := Hbx.out.below b5 Hbx.out.lt
      have BB5 := Lib.hid (Hbel.out.trans (b5.mono z3))
      have Bx5 := Lib.hid bx5
      have b5z := b5.size
      clear b5
      by_cases he : re = 0
      · subst he
        have hr0 : (res op (l.map (·.t))).2 = 0 := by rw [HRS.out]
        obtain ⟨o1, o2, o3⟩ := res_ok hr0
        obtain ⟨m, rfl⟩ : ∃ m : Nat, op = m := ⟨op.toNat, by omega⟩
        have hm1 : 4 ≤ m := by omega
        have hm2 : m ≤ 21 := by omega
        have hk3 : k ≤ 3 ∧ 0 < k := by
          rw [HLl.out, ar_nz m hm1 hm2] at o3
          have h3 := nz_le (k0 m) (k1 m) (k2 m)
          refine ⟨by omega, ?_⟩
          rw [o3]
          rcases op_cases hm1 hm2 with rfl | rfl | rfl | rfl | rfl | rfl | rfl | rfl | rfl | rfl | rfl | rfl | rfl | rfl | rfl | rfl | rfl | rfl
          all_goals decide
        have hRR : R = (opV m (l.getD 0 v0) (l.getD 1 v0) (l.getD 2 v0), 0) := by rw [HR.out]; exact doV_ok Hall.out hr0
        obtain ⟨rv, hrv⟩ : ∃ rv, rv = opV m (l.getD 0 v0) (l.getD 1 v0) (l.getD 2 v0) := ⟨_, rfl⟩
        rw [← hrv] at hRR
        subst hRR
        have hd : ∀ j, isV (l.getD j v0) = true := getD_V Hall.out
        have hid : ∀ j, I (l.getD j v0).n := fun j => by
          rw [List.getD_eq_getElem?_getD]
          cases hq : l[j]? with
          | none => show I (0 : Int); unfold I; omega
          | some v => exact HI.out v (List.mem_of_getElem? hq)
        have hme := fun W (hW : Gl W) => meth_c m hm1 hm2 (l.getD 0 v0) (l.getD 1 v0) (l.getD 2 v0) (hd 0) (hd 1) (hid 0) (hid 1) W hW
        rw [← hrv] at hme
        have hen := fn_enter m hm1 hm2
        have hop := opOf_in m hm1 hm2 w5
        have hnine := nine_row l (by rw [Hl.out]; exact hk3.2) (by rw [Hl.out]; exact hk3.1)
        obtain ⟨a, ha⟩ : ∃ a, a = l.getD 0 v0 := ⟨_, rfl⟩
        obtain ⟨b, hb⟩ : ∃ a, a = l.getD 1 v0 := ⟨_, rfl⟩
        obtain ⟨d, hdd⟩ : ∃ a, a = l.getD 2 v0 := ⟨_, rfl⟩
        rw [← ha, ← hb, ← hdd] at hme hnine
        obtain ⟨a0, ha0⟩ : ∃ a, a = k0 m := ⟨_, rfl⟩
        obtain ⟨a1, ha1⟩ : ∃ a, a = k1 m := ⟨_, rfl⟩
        obtain ⟨a2, ha2⟩ : ∃ a, a = k2 m := ⟨_, rfl⟩
        obtain ⟨a3, ha3⟩ : ∃ a, a = kr m := ⟨_, rfl⟩
        obtain ⟨FF, ha4⟩ : ∃ a, a = kf m := ⟨_, rfl⟩
        rw [← ha0, ← ha1, ← ha2, ← ha3, ← ha4] at hop
        rw [← ha4] at hme hen
        obtain ⟨bb, oo, hA, hbb, hcc⟩ := Hr.out.2.2.2 hk3.2
        have Hop := Lib.hid hop; have Hme := Lib.hid hme; have Hen := Lib.hid hen; have Hnine := Lib.hid hnine; have Hcc := Lib.hid hcc
        have hk3' := hk3.1
        clear hop hme hnine ha hb hdd ha0 ha1 ha2 ha3 ha4 hrv hd hid o1 o2 o3 hr0 HRS Hrs hm1 hm2 hk3 bx5 hcc hen
        subst hA
        go_wp2_with fail
        refine Hop.out.mono ?_
        rintro e w6 ⟨rfl, b6⟩
        obtain ⟨w7, hw7⟩ : ∃ w7, w7 = w6.alloc (.cells #[.int .u8 (a0 : Int), .int .u8 (a1 : Int), .int .u8 (a2 : Int), .int .u8 (a3 : Int), fu FF] 50) := ⟨_, rfl⟩
        have z7 : w7.heap.size = w6.heap.size + 1 := by rw [hw7]; simp
        have b7 : Below w6.heap.size w6 w7 := by rw [hw7]; exact (Below.refl _ _).alloc (Nat.le_refl _) _
        have c4 : w7.cell? ⟨w6.heap.size, 4, none⟩ = some (fu FF) := by rw [hw7]; simp
        have bx6 := Bx5.out.below b6 Bx5.out.lt
        have bx7 := bx6.below b7 bx6.lt
        have BB7 := Lib.hid (BB5.out.trans ((b6.trans (b7.mono b6.size)).mono BB5.out.size))
        obtain ⟨w9, hw9⟩ : ∃ w9, w9 = w7.alloc (.cells #[.bool a.t, .int .i64 a.n, st a.s, .bool b.t, .int .i64 b.n, st b.s, .bool d.t, .int .i64 d.n, st d.s] 53) := ⟨_, rfl⟩
        have b9 : Below w7.heap.size w7 w9 := by rw [hw9]; exact (Below.refl _ _).alloc (Nat.le_refl _) _
        have a9 : Ar9 w9 w7.heap.size a b d := by rw [hw9]; exact Ar9.made _ _ _ _ _
        have q4 := (b9.cell (p := ⟨w6.heap.size, 4, none⟩) (show w6.heap.size < w7.heap.size by omega)).trans c4
        have bx9 := bx7.below b9 bx7.lt
        have BB9 := Lib.hid (BB7.out.trans (b9.mono BB7.out.size))
        have hsrc : ∀ j v, (vvs l)[j]? = some v → (w7.alloc (.cells #[.bool false, .int .i64 0, .string ⟨#[]⟩, .bool false, .int .i64 0, .string ⟨#[]⟩, .bool false, .int .i64 0, .string ⟨#[]⟩] 53)).cell? ⟨bb, oo + j, none⟩ = some v := fun j v hj => by
          rw [World.cell?_alloc_lt _ _ _ (show bb < w7.heap.size by have := BB7.out.size; omega)]
          exact (BB7.out.cell (p := ⟨bb, oo + j, none⟩) hbb).trans (Hcc.out j v hj)
        have hln : (vvs l).length = k * 3 := by rw [vvs_len, Hl.out]
        have hcp := run_copy3 w7 3 53 #[.bool false, .int .i64 0, .string ⟨#[]⟩, .bool false, .int .i64 0, .string ⟨#[]⟩, .bool false, .int .i64 0, .string ⟨#[]⟩] k c bb oo (vvs l) hk3' hln rfl hsrc (vvs_one l) _ Hnine.out
        rw [← hw9] at hcp
        have W7 := Lib.hid hw7; have W9 := Lib.hid hw9; have Z7 := Lib.hid z7; have Bx9 := Lib.hid bx9
        have Hme9 := Lib.hid (Hme.out w9 (Hg.out.below' BB9.out))
        obtain ⟨-, s0, s1, s2, s3, s4, s5, s6, s7, s8⟩ := a9
        clear hw7 hw9 b7 b9 c4 bx6 bx7 hsrc z7 b6 hln bx9
        have hen := Hen.out
        go_wp2_with (rw [← W7.out])
        refine Hme9.out.mono ?_
        rintro e wa ⟨rfl, ba⟩
        obtain ⟨rt', rn, rs⟩ := rv
        have bxa := Bx9.out.below ba Bx9.out.lt
        have BBa := Lib.hid (BB9.out.trans (ba.mono BB9.out.size))
        have Bxa := Lib.hid bxa
        obtain ⟨t0, t1, t2, f0, f1, f2, -⟩ := bxa
        clear ba s0 s1 s2 s3 s4 s5 s6 s7 s8 q4 hcp hen
        go_wp2
        change bodyPost _ _ _ _ _ (put3 wa w.heap.size _ _ _)
        refine bodyPost_ret (v := .tuple #[vv ⟨rt', rn, rs⟩, .int .i64 0]) ?_ rfl ⟨rfl, BBa.out.trans (put3_below _ _ _ _ _)⟩
        have s0 := fun v0 v1 v2 => (put3_box Bxa.out v0 v1 v2).c0
        have s1 := fun v0 v1 v2 => (put3_box Bxa.out v0 v1 v2).c1
        have s2 := fun v0 v1 v2 => (put3_box Bxa.out v0 v1 v2).c2
        simp [results, Tryd.results10, go_sem, s0, s1, s2]
      · have hR : R = (v0, re) := by rw [HR.out]; have := doV_err (op := op) Hall.out (by rw [HRS.out]; exact he); rw [HRS.out] at this; exact this
        subst hR
        have d1 : ((re : Int) != 0) = true := by simp; omega
        obtain ⟨c0, c1, c2, f0, f1, f2, -⟩ := bx5
        clear he
        go_wp2
        change bodyPost _ _ _ _ _ (put3 w5 w.heap.size _ _ _)
        refine bodyPost_ret (v := .tuple #[vv v0, .int .i64 (re : Int)]) ?_ rfl ⟨rfl, BB5.out.trans (put3_below _ _ _ _ _)⟩
        have s0 := fun v0 v1 v2 => (put3_box Bx5.out v0 v1 v2).c0
        have s1 := fun v0 v1 v2 => (put3_box Bx5.out v0 v1 v2).c1
        have s2 := fun v0 v1 v2 => (put3_box Bx5.out v0 v1 v2).c2
        simp [results, Tryd.results10, go_sem, s0, s1, s2, v0]
end Go.Proofs.YtkkjgiejnblopaaDoor
