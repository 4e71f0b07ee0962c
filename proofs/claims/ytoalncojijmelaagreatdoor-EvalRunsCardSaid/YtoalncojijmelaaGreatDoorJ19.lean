/-
  Joined: Eo Ep Eq Er Ex Es Ey.
-/
import Derived.Test.YtoalncojijmelaaGreatDoorJ18
import Derived.Deep.Cut
import Derived.Deep.CutBlock
import Derived.Deep.DeepCutAuto
import Derived.Test.YtoalncojijmelaaGreatDoorJ4
import Derived.Test.YtoalncojijmelaaGreatDoorJ11
/-
  The document's run.
-/
namespace Go.Proofs.YtoalncojijmelaaGreatDoor
open Go.RowKit Vl Cd Ck

/-- What the document's run hands over. -/
def RetRn (w : World) (G : Option (List V × Int)) (e : Ending) (w' : World) : Prop :=
  Below w.heap.size w w' ∧ match G with
  | none => e = .returned (.tuple #[.slice none 0 0, .int .i64 0, .bool false])
  | some (l, n) => ∃ A c, e = .returned (.tuple #[.slice A l.length c, .int .i64 n, .bool true]) ∧ Rc 3 w' w'.heap.size A l.length c (vvs l)
def DrRel (w : World) (n : Nat) (r : List (List UInt8)) (fo : List V) (p : List Ins) (G : Option (List V × Int)) (F : Int) (u v i : Value) (wr : World) : Prop :=
  ∃ (k : Nat) (s : List V) (z : Nat) (f : Int) (A : Option Addr) (c : Nat), k ≤ n ∧ i = .int .i64 (k : Int) ∧ u = .int .i64 f ∧ v = .slice A z c ∧ Hid (z = s.length) ∧ Hid (ev r fo s f (p.drop k) = G) ∧ Hid ((rn (fo.map (·.t)) (s.map (·.t)) k (p.drop k)).2.2 = 0) ∧ Hid (Rc 3 wr wr.heap.size A z c (vvs s)) ∧ Hid (Below w.heap.size w wr) ∧ Hid (s.length ≤ 30 ∧ s.all isV = true ∧ ∀ v ∈ s, I v.n) ∧ Hid (f ≤ F ∧ I f)
def CdRel (w : World) (n : Nat) (l : List V) (u i : Value) (wr : World) : Prop :=
  ∃ k : Nat, k ≤ n ∧ i = .int .i64 (k : Int) ∧ u = .int .i64 (tl (l.take k) : Int) ∧ w = wr
section
variable (A : Option Addr) (n c : Nat) (p : List Ins) (RA : Option Addr) (rm rc : Nat) (r : List (List UInt8)) (FA : Option Addr) (fm fc : Nat) (fo : List V) (fu : Int) (w : World)
set_option maxRecDepth 100000 in
set_option maxHeartbeats 8000000 in
theorem rrun_c (h : Arg A n c p RA rm rc r w) (hfr : Rc 3 w w.heap.size FA fm fc (vvs fo)) (hfv : fo.all isV = true) (hfI : ∀ v ∈ fo, I v.n) (hfl : fo.length = 0 ∨ fo.length = 2) (hok : (rn (fo.map (·.t)) [] 0 p).2.2 = 0) (hfu : I fu) :
    Calls Tryz.prog 20 #[.slice A n c, .slice RA rm rc, .slice FA fm fc, .int .i64 fu] w (RetRn w (ev r fo [] fu p)) := by
  have hpl := ics_num h.hp
  have hrl2 : r.length ≤ 1000000 := by have := h.hr.1; rw [lvs_length] at this; have := h.hm; omega
  obtain ⟨G, hGG⟩ : ∃ G, G = ev r fo [] fu p := ⟨_, rfl⟩
  rw [← hGG]
  have HG := Lib.hid (show ev r fo [] fu (p.drop 0) = G from hGG.symm)
  have HK := Lib.hid (show (rn (fo.map (·.t)) (([] : List V).map (·.t)) 0 (p.drop 0)).2.2 = 0 from hok)
  obtain ⟨w1, hw1⟩ : ∃ w1, w1 = w.alloc (.cells #[] 32) := ⟨_, rfl⟩
  have b1 : Below w.heap.size w w1 := by rw [hw1]; exact (Below.refl _ _).alloc (Nat.le_refl _) _
  have o1 : Oc 3 w1 32 w.heap.size (some ⟨w.heap.size, 0, none⟩) 0 0 [] := by rw [hw1]; exact Oc.made0 3 _ _
  have HH := Lib.hid h; have HFR := Lib.hid hfr; have HFV := Lib.hid hfv; have HFI := Lib.hid hfI; have HFL := Lib.hid hfl; have Hpl := Lib.hid hpl; have HRL := Lib.hid hrl2; have HU := Lib.hid (And.intro (Int.le_refl fu) hfu)
  have W1 := Lib.hid hw1; have B1 := Lib.hid b1; have O1 := Lib.hid (show Rc 3 w1 w1.heap.size (some ⟨w.heap.size, 0, none⟩) 0 0 (vvs []) from o1.rc)
  have hn := h.hn
  clear hfr hfv hfI hfl hpl hrl2 hok hGG hfu h hw1 b1 o1
  go_enter Tryz.func20, Tryz.ntmps20
  go_wp2_with (rw [← W1.out])
  go_loopw [3, 11, 12] (fun u v i wr => DrRel w n r fo p G fu u v i wr) (fun _ _ i _ => n - (intOf i).toNat)
  case atStart => exact ⟨0, [], 0, fu, _, 0, Nat.zero_le _, rfl, rfl, rfl, Lib.hid rfl, HG, HK, O1, B1, Lib.hid ⟨by simp, rfl, fun v hv => by cases hv⟩, HU⟩
  case round =>
    obtain ⟨k, s, z, f2, A2, c2, hk, rfl, rfl, rfl, Hz, Hg, Hk, Hs, Hb, Hv, Hf2⟩ := hrel
    by_cases hlt : k < n
    · obtain ⟨bb, o, x, rfl, hb, a0, a1, a2, hx⟩ := ics_at (HH.out.hp.below Hb.out) hlt
      have hcons : p.drop k = x :: p.drop (k + 1) := drop_cons' Hpl.out hlt hx
      have hg := Hg.out
      have hkk := Hk.out
      rw [hcons] at hg hkk
      obtain ⟨h0, h1⟩ := rn_ok hkk
      obtain ⟨n1, n2, n3, n4⟩ := nx_kind (r := r) Hv.out.2.1 HFV.out HFL.out h0
      have hxm : x ∈ p := List.mem_of_getElem? hx
      have n5 := nx_I (r := r) (fo := fo) HRL.out (HH.out.hI x hxm).2 Hv.out.2.1 Hv.out.2.2 HFI.out
      have n6 : (nx r fo s x).length ≤ 30 := by
        have := stp_len (f := fo.map (·.t)) (s := s.map (·.t)) (x := x) (by rw [List.length_map]; exact Hv.out.1)
        rw [← n2, List.length_map] at this
        exact this
      rw [← n2] at h1
      have hc47 := cst_le x.op Hv.out.2.1
      have hc1 := cst_pos s x.op
      have hgo := fun hq => (ev_go (r := r) (fo := fo) (s := s) (g := f2) (x := x) (p.drop (k + 1)) hq).symm.trans hg
      have hgs := fun hq => (ev_stop (r := r) (fo := fo) (s := s) (g := f2) (x := x) (p.drop (k + 1)) hq).symm.trans hg
      have har := fun W => arity_c x.op W
      have hz3 := Hz.out
      rw [← hz3] at n3
      have hz30 : z ≤ 30 := by rw [hz3]; exact Hv.out.1
      have hrow := Hs.out.from_ (k := z - ar x.op) (by omega)
      rw [vvs_drop] at hrow
      have hcut := Sl.from_ vty A2 z c2 (z - ar x.op) (by omega) ((z : Int) - (ar x.op : Int)) (by omega)
      have e1 : IntKind.i64.wrap ((z : Int) - (ar x.op : Int)) = (z : Int) - (ar x.op : Int) := IntWalk.i64_in _ (by omega)
      have hcst : cst s x.op = tl (s.drop (z - ar x.op)) / 64 + 1 := by unfold cst tp; rw [hz3]
      have hn3 : z - (z - ar x.op) ≤ 3 := by have := ar_le x.op; omega
      have hlz : ∀ v ∈ s.drop (z - ar x.op), v.s.length ≤ 1000 := fun v hv => isV_len (List.all_eq_true.1 Hv.out.2.1 v (List.mem_of_mem_drop hv))
      have htp : tp s x.op = s.drop (z - ar x.op) := by unfold tp; rw [hz3]
      obtain ⟨C, hC⟩ : ∃ C, C = cst s x.op := ⟨_, rfl⟩
      rw [← hC] at hgo hgs hc47 hc1 hcst
      obtain ⟨a, ha⟩ : ∃ a, a = ar x.op := ⟨_, rfl⟩
      rw [← ha] at har n3 hrow hcut e1 hcst hn3 hlz htp
      obtain ⟨l, hl⟩ : ∃ l, l = s.drop (z - a) := ⟨_, rfl⟩
      rw [← hl] at hrow hcst hlz htp
      obtain ⟨A3, hA3⟩ : ∃ A3, A3 = (if c2 = z - a then A2 else A2.map (·.add ((z - a) * 3))) := ⟨_, rfl⟩
      obtain ⟨m3, hm3⟩ : ∃ m3, m3 = z - (z - a) := ⟨_, rfl⟩
      obtain ⟨c3, hc3⟩ : ∃ c3, c3 = c2 - (z - a) := ⟨_, rfl⟩
      rw [← hA3, ← hm3, ← hc3] at hrow hcut
      rw [← hm3] at hn3
      have hll := vvs_num hrow
      obtain ⟨w7, hw7⟩ : ∃ w7, w7 = wr.alloc (.cells #[.int .i64 x.op, .int .i64 x.n, st x.s] 44) := ⟨_, rfl⟩
      have b7 : Below wr.heap.size wr w7 := by rw [hw7]; exact (Below.refl _ _).alloc (Nat.le_refl _) _
      have x7 : Bx w7 wr.heap.size (.int .i64 x.op) (.int .i64 x.n) (st x.s) := by rw [hw7]; exact Bx.made _ _ _ _ _
      have s7 := (Hs.out.below b7).more b7.size
      have row7 := (hrow.below b7).more b7.size
      have HX := Lib.hid (And.intro h0 hxm); have HTP := Lib.hid htp; have HA := Lib.hid ha
      have N5 := Lib.hid (And.intro n6 (And.intro n1 n5)); have HC := Lib.hid hcst; have Hgo := Lib.hid hgo; have Hgs := Lib.hid hgs; have H1 := Lib.hid h1; have Har := Lib.hid har; have Hcut := Lib.hid hcut
      have B7 := Lib.hid (Hb.out.trans (b7.mono Hb.out.size)); have S7 := Lib.hid s7; have R7 := Lib.hid row7; have Hlz := Lib.hid hlz; have Hll := Lib.hid hll; have W7 := Lib.hid hw7; have X7 := Lib.hid x7
      obtain ⟨S2, hS2⟩ : ∃ S2, S2 = nx r fo s x := ⟨_, rfl⟩
      have HS2 := Lib.hid hS2
      rw [← hS2] at N5 Hgo H1
      obtain ⟨op, nn, t⟩ := x
      obtain ⟨X, hX, -, -, -⟩ := hide_st t
      dsimp only at a0 a1 a2 hw7 x7 W7 X7 Har
      simp only [st, ← hX] at a2 hw7 x7 W7 X7
      have hw7z := X7.out.lt
      obtain ⟨c0, c1, c2', -, -, -, -⟩ := x7
      have HX' := Lib.hid hX
      clear hw7 b7 s7 row7 hrow hgo hgs h1 h0 n1 n2 n4 n5 n6 hg hkk hcons hx hxm hX har hcst hlz htp hC hA3 hm3 hc3 hl ha hS2 hll hcut hz3
      go_wp2_with (rw [← W7.out])
      refine (Har.out w7).mono ?_
      rintro e w8 ⟨rfl, rfl⟩
      have hcut := Hcut.out
      go_wp2_with fail
      go_loopw [16, 17] (fun u i wr => CdRel w7 m3 l u i wr) (fun _ i _ => m3 - (intOf i).toNat)
      case atStart => exact ⟨0, Nat.zero_le _, rfl, rfl, rfl⟩
      case round =>
        obtain ⟨k2, hk2, rfl, rfl, rfl⟩ := hrel
        by_cases hlt2 : k2 < m3
        · obtain ⟨b3, o3, v, rfl, hb3, d0, d1, d2, hv3⟩ := vvs_at R7.out hlt2
          have hv1 := Hlz.out v (List.mem_of_getElem? hv3)
          have hsn := tl_snoc hv3
          have hmo := tl_most (l.take k2) fun x hx => Hlz.out x (List.mem_of_mem_take hx)
          have hlk : (l.take k2).length ≤ 3 := by rw [List.length_take]; omega
          obtain ⟨tt, nv, tv⟩ := v
          obtain ⟨Y, hY, hYs, -, -⟩ := hide_st tv
          dsimp only at d0 d1 d2 hv1 hsn
          simp only [st, ← hY] at d2
          have e2 : IntKind.i64.wrap ((tl (l.take k2) : Int) + (Y.size : Int)) = (tl (l.take (k2 + 1)) : Int) := by rw [hsn, hYs]; exact (IntWalk.i64_in _ (by omega)).trans (by omega)
          obtain ⟨T0, hT0⟩ : ∃ T, T = tl (l.take k2) := ⟨_, rfl⟩
          rw [← hT0] at e2 ⊢
          clear hY hYs hv3 hv1 hsn hmo hlk hT0
          go_wp2
          go_roundw
          case rel => exact ⟨k2 + 1, hlt2, by go_num, rfl, rfl⟩
          case measure => simp [intOf]; omega
        · obtain rfl : k2 = m3 := by omega
          have hmo := tl_most l Hlz.out
          have hC := HC.out
          rw [List.take_of_length_le (by rw [Hll.out]; exact Nat.le_refl _)]
          rw [Hll.out] at hmo
          generalize tl l = T at *
          have e3 : (T : Int) / 64 + 1 = (C : Int) := by omega
          have hT3 : T ≤ 3000 := by omega
          clear e1 hC hmo HC
          go_upto_region 14 with (fail)
          by_cases hfc : f2 < (C : Int)
          · have d1 : decide (f2 < (C : Int)) = true := decide_eq_true hfc
            have hGn := Hgs.out hfc
            have HF2 := Lib.hid (show RetRn w G (.returned (.tuple #[.slice none 0 0, .int .i64 0, .bool false])) w7 from by
              rw [← hGn]
              exact ⟨B7.out, rfl⟩)
            clear hGn hfc e3
            go_wp2
            go_ret3
            exact HF2.out
          · have d1 : decide (f2 < (C : Int)) = false := decide_eq_false hfc
            have hIf := Hf2.out.2
            have e4 : IntKind.i64.wrap (f2 - (C : Int)) = f2 - (C : Int) := IntWalk.i64_in _ (by unfold I at hIf; omega)
            have HI3 := Lib.hid (show f2 - (C : Int) ≤ fu ∧ I (f2 - (C : Int)) from ⟨by have := Hf2.out.1; omega, by unfold I at hIf ⊢; omega⟩)
            have h2 := Lib.hid (Hgo.out (by omega))
            obtain ⟨w9, hw9⟩ : ∃ w9, w9 = w7.alloc (.cells #[.bool false, .int .i64 0, .string ⟨#[]⟩] 32) := ⟨_, rfl⟩
            have b9 : Below w7.heap.size w7 w9 := by rw [hw9]; exact (Below.refl _ _).alloc (Nat.le_refl _) _
            have y9 : Bx w9 w7.heap.size (.bool false) (.int .i64 0) (.string ⟨#[]⟩) := by rw [hw9]; exact Bx.made _ _ _ _ _
            have x9 := X7.out.below b9 X7.out.lt
            have s9 := (S7.out.below b9).more b9.size
            have row9 := (R7.out.below b9).more b9.size
            have B9 := Lib.hid (B7.out.trans (b9.mono B7.out.size)); have Y9 := Lib.hid y9; have S9 := Lib.hid s9; have R9 := Lib.hid row9; have X9 := Lib.hid x9; have W9 := Lib.hid hw9
            have hv9 := y9.lt
            clear e3 hfc hIf b9 y9 s9 row9 hw9 x9
            obtain ⟨V, hV⟩ : ∃ V, V = vx r fo s ⟨op, nn, t⟩ := ⟨_, rfl⟩
            have hS3 : S2 = s.take (z - a) ++ [V] := by
              rw [HS2.out, hV]; unfold nx; rw [← Hz.out, ← HA.out]
            obtain ⟨vt, vn, vs⟩ := V
            obtain ⟨Z, hZ, -, -, -⟩ := hide_st vs
            have HV := Lib.hid hV; have HZ := Lib.hid hZ; have HS3 := Lib.hid hS3
            have B9' := Lib.hid (show Below w7.heap.size w7 w9 from by rw [W9.out]; exact (Below.refl _ _).alloc (Nat.le_refl _) _)
            clear hV hZ hS3 HS2
            go_upto_block 4 with (fail)
            rw [← W9.out]
            go_cut [18] (fun u wx => u = .pointer (some ⟨w7.heap.size, 0, none⟩) ∧ Below w7.heap.size w7 wx ∧ Bx wx w7.heap.size (.bool vt) (.int .i64 vn) (.string Z))
            case first =>
              have hst := HX.out.1
              obtain ⟨hm, hf, hc⟩ := stp_ok hst
              obtain ⟨o1, o2⟩ := may_ops hm
              have mt := fun q => may_text (x := ⟨op, nn, t⟩) q hm
              have mf := fun q => may_fld (x := ⟨op, nn, t⟩) q hm
              dsimp only at o1 o2 hf mt mf
              obtain ⟨c0, c1, c2', -, -, -, -⟩ := X9.out
              have hvx := HV.out
              clear hst hm hc
              by_cases q0 : op = 0
              · subst q0
                have hv : (⟨vt, vn, vs⟩ : V) = num nn := hvx.trans rfl
                have hc := fun W => (show Calls Tryz.prog 31 #[.int .i64 nn] W (RetV W (.agg #[.bool vt, .int .i64 vn, .string Z])) from by rw [HZ.out]; have q := num_c nn W; rw [← hv] at q; exact q)
                have Hc := Lib.hid hc
                clear hvx hv hc mt mf hf o1 o2
                go_wp2_with fail
                refine (Hc.out w9).mono ?_
                rintro e w10 ⟨rfl, b10⟩
                have y10 := Y9.out.below b10 Y9.out.lt
                have Y10 := Lib.hid y10; have B10 := Lib.hid ((B9'.out).trans (b10.mono (Nat.le_of_lt hv9)))
                obtain ⟨y0, y1, y2, f0, f1, f2', -⟩ := y10
                clear b10
                go_wp2
                go_meet
                exact ⟨rfl, B10.out.trans (put3_below _ _ _ _ _), put3_box Y10.out _ _ _⟩
              have d0 : (op == 0) = false := beq_eq_false_iff_ne.2 q0
              by_cases q1 : op = 1
              · subst q1
                have hv : (⟨vt, vn, vs⟩ : V) = txt t := hvx.trans rfl
                have hc := fun W => (show Calls Tryz.prog 32 #[.string X] W (RetV W (.agg #[.bool vt, .int .i64 vn, .string Z])) from by rw [HZ.out, HX'.out]; have q := text_c t (mt rfl) W; rw [← hv] at q; exact q)
                have Hc := Lib.hid hc
                clear hvx hv hc mt mf hf o1 o2 q0 d0
                go_wp2_with fail
                refine (Hc.out w9).mono ?_
                rintro e w10 ⟨rfl, b10⟩
                have y10 := Y9.out.below b10 Y9.out.lt
                have Y10 := Lib.hid y10; have B10 := Lib.hid ((B9'.out).trans (b10.mono (Nat.le_of_lt hv9)))
                obtain ⟨y0, y1, y2, f0, f1, f2', -⟩ := y10
                clear b10
                go_wp2
                go_meet
                exact ⟨rfl, B10.out.trans (put3_below _ _ _ _ _), put3_box Y10.out _ _ _⟩
              have d1 : (op == 1) = false := beq_eq_false_iff_ne.2 q1
              by_cases q2 : op = 2
              · subst q2
                have hv : (⟨vt, vn, vs⟩ : V) = fld r nn := hvx.trans rfl
                have hrl : r.length = rm := by have := HH.out.hr.1; rw [lvs_length] at this; omega
                have hmf := mf rfl
                by_cases hk3 : nn < (rm : Int)
                · obtain ⟨j, rfl⟩ : ∃ j : Nat, nn = (j : Int) := ⟨nn.toNat, by omega⟩
                  have hjl : j < r.length := by omega
                  have hjr : j < rm := by omega
                  obtain ⟨rb, ro, rfl, hrb, hrc⟩ := HH.out.hr.2.2.2 (by omega)
                  have hq := List.getElem?_eq_getElem hjl
                  have hcell := (B9.out.cell (p := ⟨rb, ro + j, none⟩) hrb).trans (hrc j _ (lvs_get r j _ hq))
                  have hqz := HH.out.hz _ (List.getElem_mem hjl)
                  have hff : fld r (j : Int) = txt r[j] := by
                    unfold fld
                    rw [if_pos (by omega), Int.toNat_natCast, List.getD_eq_getElem?_getD, hq]; rfl
                  rw [hff] at hv
                  generalize r[j] = rq at *
                  have hc := fun W => (show Calls Tryz.prog 32 #[.string ⟨rq.toArray⟩] W (RetV W (.agg #[.bool vt, .int .i64 vn, .string Z])) from by rw [HZ.out]; have q := text_c rq hqz W; rw [← hv] at q; exact q)
                  have Hc := Lib.hid hc
                  clear hvx hv hc mt mf hf o1 o2 q0 q1 d0 d1 hff hqz hq hjl hrc hmf hk3 hrl
                  go_wp2_with fail
                  refine (Hc.out w9).mono ?_
                  rintro e w10 ⟨rfl, b10⟩
                  have y10 := Y9.out.below b10 Y9.out.lt
                  have Y10 := Lib.hid y10; have B10 := Lib.hid ((B9'.out).trans (b10.mono (Nat.le_of_lt hv9)))
                  obtain ⟨y0, y1, y2, f0, f1, f2', -⟩ := y10
                  clear b10
                  go_wp2
                  go_meet
                  exact ⟨rfl, B10.out.trans (put3_below _ _ _ _ _), put3_box Y10.out _ _ _⟩
                · have g1 : decide (nn < (rm : Int)) = false := decide_eq_false hk3
                  have hff : fld r nn = txt [] := by unfold fld; rw [if_neg (by omega)]
                  rw [hff] at hv
                  have hc := fun W => (show Calls Tryz.prog 32 #[.string ⟨#[]⟩] W (RetV W (.agg #[.bool vt, .int .i64 vn, .string Z])) from by rw [HZ.out]; have q := text_c [] (by simp) W; rw [← hv] at q; exact q)
                  have Hc := Lib.hid hc
                  clear hvx hv hc mt mf hf o1 o2 q0 q1 d0 d1 hff hmf hk3 hrl
                  go_wp2_with fail
                  refine (Hc.out w9).mono ?_
                  rintro e w10 ⟨rfl, b10⟩
                  have y10 := Y9.out.below b10 Y9.out.lt
                  have Y10 := Lib.hid y10; have B10 := Lib.hid ((B9'.out).trans (b10.mono (Nat.le_of_lt hv9)))
                  obtain ⟨y0, y1, y2, f0, f1, f2', -⟩ := y10
                  clear b10
                  go_wp2
                  go_meet
                  exact ⟨rfl, B10.out.trans (put3_below _ _ _ _ _), put3_box Y10.out _ _ _⟩
              have d2 : (op == 2) = false := beq_eq_false_iff_ne.2 q2
              by_cases q3 : op = 3
              · subst q3
                have hv : (⟨vt, vn, vs⟩ : V) = num r.length := hvx.trans rfl
                have hrl : r.length = rm := by have := HH.out.hr.1; rw [lvs_length] at this; omega
                rw [hrl] at hv
                have hc := fun W => (show Calls Tryz.prog 31 #[.int .i64 (rm : Int)] W (RetV W (.agg #[.bool vt, .int .i64 vn, .string Z])) from by rw [HZ.out]; have q := num_c (rm : Int) W; rw [← hv] at q; exact q)
                have Hc := Lib.hid hc
                clear hvx hv hc mt mf hf o1 o2 q0 q1 q2 d0 d1 d2 hrl
                go_wp2_with fail
                refine (Hc.out w9).mono ?_
                rintro e w10 ⟨rfl, b10⟩
                have y10 := Y9.out.below b10 Y9.out.lt
                have Y10 := Lib.hid y10; have B10 := Lib.hid ((B9'.out).trans (b10.mono (Nat.le_of_lt hv9)))
                obtain ⟨y0, y1, y2, f0, f1, f2', -⟩ := y10
                clear b10
                go_wp2
                go_meet
                exact ⟨rfl, B10.out.trans (put3_below _ _ _ _ _), put3_box Y10.out _ _ _⟩
              have d3 : (op == 3) = false := beq_eq_false_iff_ne.2 q3
              by_cases q22 : 22 ≤ op
              · have g1 : decide (22 ≤ op) = true := decide_eq_true q22
                have hfl : fo.length = 2 := by
                  rcases HFL.out with e | e
                  · exact absurd (by rw [List.length_map]; exact e) (hf q22)
                  · exact e
                obtain ⟨j, hj, hjl⟩ : ∃ j : Nat, op - 22 = (j : Int) ∧ j < 2 := ⟨(op - 22).toNat, by omega, by omega⟩
                have hfm := vvs_num HFR.out
                obtain ⟨fb, fo2, v, rfl, hfb, k0, k1, k2', hv3⟩ := vvs_at HFR.out (k := j) (by omega)
                have hv : (⟨vt, vn, vs⟩ : V) = v := by
                  rw [hvx]
                  unfold vx
                  rw [if_neg q0, if_neg q1, if_neg q2, if_neg q3, if_pos q22]
                  show fo.getD (op - 22).toNat v0 = v
                  rw [hj, Int.toNat_natCast, List.getD_eq_getElem?_getD, hv3]; rfl
                subst hv
                have k0 := (B9.out.cell (p := ⟨fb, fo2 + j * 3, none⟩) hfb).trans k0
                have k1 := (B9.out.cell (p := ⟨fb, fo2 + j * 3 + 1, none⟩) hfb).trans k1
                have k2' := (B9.out.cell (p := ⟨fb, fo2 + j * 3 + 2, none⟩) hfb).trans k2'
                dsimp only at k0 k1 k2'
                simp only [st] at k2'
                rw [← HZ.out] at k2'
                have hjm : j < fm := by omega
                have g2 : IntKind.i64.wrap (op - 22) = (j : Int) := (IntWalk.i64_in _ (by omega)).trans hj
                obtain ⟨y0, y1, y2, f0, f1, f2', -⟩ := Y9.out
                clear hvx mt mf hf o1 o2 q0 q1 q2 q3 q22 hfl hfm hv3 hj hjl
                go_wp2
                go_meet
                exact ⟨rfl, B9'.out.trans (put3_below _ _ _ _ _), put3_box Y9.out _ _ _⟩
              have g1 : decide (22 ≤ op) = false := decide_eq_false q22
              have hv : (⟨vt, vn, vs⟩ : V) = (doV op l).1 := by
                rw [hvx]
                unfold vx
                rw [if_neg q0, if_neg q1, if_neg q2, if_neg q3, if_neg q22, HTP.out]
              have hlI : ∀ v ∈ l, I v.n := fun v hv => by
                rw [← HTP.out] at hv
                exact Hv.out.2.2 v (List.mem_of_mem_drop hv)
              obtain ⟨er, her⟩ : ∃ er, er = (doV op l).2 := ⟨_, rfl⟩
              have hc := (show Calls Tryz.prog 33 #[.int .i64 op, .slice A3 k2 c3] w9 (RetV w9 (.tuple #[.agg #[.bool vt, .int .i64 vn, .string Z], .int .i64 (er : Int)])) from by
                rw [HZ.out, her]; have q := do_c op A3 k2 c3 l w9 R9.out (by omega) hlI; unfold RetD at q; rw [← hv] at q; exact q)
              have Hc := Lib.hid hc
              clear hvx hv hc mt mf hf o1 o2 q0 q1 q2 q3 q22 hlI her
              go_wp2_with fail
              refine Hc.out.mono ?_
              rintro e w10 ⟨rfl, b10⟩
              have y10 := Y9.out.below b10 Y9.out.lt
              have Y10 := Lib.hid y10; have B10 := Lib.hid ((B9'.out).trans (b10.mono (Nat.le_of_lt hv9)))
              obtain ⟨y0, y1, y2, f0, f1, f2', -⟩ := y10
              clear b10
              go_wp2
              go_meet
              exact ⟨rfl, B10.out.trans (put3_below _ _ _ _ _), put3_box Y10.out _ _ _⟩
            case rest =>
              obtain ⟨rfl, bc, xc⟩ := hcut
              have bcz := bc.size
              have bcw := B7.out.trans (bc.mono B7.out.size)
              have hsz := B7.out.size
              have r11 := (((S7.out.below bc).more bcz).upto (k := z - a) (by omega))
              rw [vvs_take] at r11
              obtain ⟨q, hq⟩ : ∃ q, q = z - a := ⟨_, rfl⟩
              have hq30 : q ≤ 30 := by omega
              have hcut2 := Sl.upto vty A2 z c2 q (by omega) S7.out.2.1 ((z : Int) - (a : Int)) (by omega)
              have e5 : IntKind.i64.wrap ((z : Int) - (a : Int)) = (z : Int) - (a : Int) := IntWalk.i64_in _ (by omega)
              have hlen : (s.take (z - a)).length = q := by rw [List.length_take, ← Hz.out, hq]; omega
              rw [← hq] at r11
              have hS3 := HS3.out
              rw [← hq] at hS3
              have hlS : S2.length = q + 1 := by rw [hS3, List.length_append, ← hq, List.length_singleton] at *; omega
              obtain ⟨s', hs'⟩ : ∃ s', s' = s.take q := ⟨_, rfl⟩
              rw [← hs'] at r11 hS3
              obtain ⟨w11, hw11⟩ : ∃ w11, w11 = wc.alloc (.cells #[] 32) := ⟨_, rfl⟩
              have b11 : Below wc.heap.size wc w11 := by rw [hw11]; exact (Below.refl _ _).alloc (Nat.le_refl _) _
              have o11 : Oc 3 w11 32 wc.heap.size (some ⟨wc.heap.size, 0, none⟩) 0 0 (vvs []) := by rw [hw11]; exact Oc.made0 3 _ _
              have x11 := xc.below b11 xc.lt
              have W11 := Lib.hid hw11; have O11 := Lib.hid o11; have R11 := Lib.hid ((r11.below b11).more b11.size); have X11 := Lib.hid x11; have HlS := Lib.hid hlS; have HS3 := Lib.hid hS3
              have B11 := Lib.hid (bcw.trans (b11.mono (by omega)))
              have hz11 := b11.size
              have hxl := xc.lt
              clear hw11 o11 r11 b11 x11 hlS hS3 hlen hq hs' bc xc bcw
              go_wp2_with (at_builtin; rw [← W11.out]; go_must (refine Sl.wpAppAt vty rfl (.tmp 124) (.tmp 130) rfl (n := 0) (m := q) (N := q) (ws := vvs s') rfl rfl O11.out R11.out (vvs_one _) (Nat.zero_add _) rfl ?hs4 ?hs5 hz11 ?_))
              case hs4 => omega
              case hs5 => omega
              intro A12 c12 w12 ho12 hg12
              have hne : some w7.heap.size ≠ ob (some (⟨wc.heap.size, 0, none⟩ : Addr)) := by
                intro e
                have := (oc_ob O11.out w7.heap.size e.symm).1
                omega
              have x12 := X11.out.keep hg12.size (hg12.heap w7.heap.size (by omega) hne)
              have bg12 := hg12.belowC O11.out hz11
              have B12 := Lib.hid (B11.out.trans (bg12.mono (by omega)))
              have hz12 := hg12.size
              obtain ⟨w13, hw13⟩ : ∃ w13, w13 = w12.alloc (.cells #[.bool vt, .int .i64 vn, .string Z] 32) := ⟨_, rfl⟩
              have b13 : Below w12.heap.size w12 w13 := by rw [hw13]; exact (Below.refl _ _).alloc (Nat.le_refl _) _
              have o13 : Oc 3 w13 32 wc.heap.size A12 q c12 (vvs s') := by rw [hw13]; exact ho12.alloc _
              have r13 : Rc 3 w13 (w12.heap.size + 1) (some ⟨w12.heap.size, 0, none⟩) 1 1 (vvs [⟨vt, vn, vs⟩]) := by
                have q2 := Rc.lit (z := 3) w12 32 #[.bool vt, .int .i64 vn, .string Z] 1 rfl (by simp [maxLen])
                rw [← hw13] at q2
                have e : vvs [⟨vt, vn, vs⟩] = [.bool vt, .int .i64 vn, .string Z] := by rw [HZ.out]; rfl
                rw [e]
                exact q2
              have hz13 : wc.heap.size ≤ w13.heap.size := by have := b13.size; omega
              have W13 := Lib.hid hw13; have O13 := Lib.hid o13; have R13 := Lib.hid r13; have B13 := Lib.hid (B12.out.trans (b13.mono B12.out.size))
              obtain ⟨g0, g1, g2, -, -, -, gl⟩ := x12
              clear hw13 b13 o13 r13 ho12 hg12 bg12 hne
              go_wp2_with (at_builtin; rw [← W13.out]; go_must (refine Sl.wpAppAt vty rfl (.tmp 132) (.tmp 134) rfl (n := q) (m := 1) (N := q + 1) (ws := vvs (s' ++ [⟨vt, vn, vs⟩])) rfl rfl O13.out R13.out (vvs_one _) rfl (vvs_app _ _).symm ?hs6 ?hs7 hz13 ?_))
              case hs6 => omega
              case hs7 => omega
              intro A14 c14 w14 ho14 hg14
              have B14 := Lib.hid (B13.out.trans ((hg14.belowC O13.out hz13).mono (by omega)))
              have RW := Lib.hid (show Rc 3 w14 w14.heap.size A14 (q + 1) c14 (vvs S2) from by rw [HS3.out]; exact ho14.rc)
              clear ho14 hg14 g0 g1 g2
              go_wp2
              go_roundw
              case rel => exact ⟨k + 1, S2, q + 1, f2 - (C : Int), A14, c14, hlt, by go_num, rfl, rfl, Lib.hid HlS.out.symm, h2, H1, RW, B14, N5, HI3⟩
              case measure => simp [intOf]; omega
    · obtain rfl : k = n := by omega
      have hg := Hg.out
      rw [List.drop_of_length_le (by rw [Hpl.out]; exact Nat.le_refl _), ev_nil] at hg
      have HE := Lib.hid (show RetRn w G (.returned (.tuple #[.slice A2 z c2, .int .i64 f2, .bool true])) wr from by
        rw [← hg]; exact ⟨Hb.out, A2, c2, by rw [Hz.out], by rw [← Hz.out]; exact Hs.out⟩)
      clear hg
      go_wp2
      go_ret3
      exact HE.out
end
end Go.Proofs.YtoalncojijmelaaGreatDoor

/-
  The document's Run, One, Yes, Fold.
-/
namespace Go.Proofs.YtoalncojijmelaaGreatDoor
open Go.RowKit Vl Cd Ck

/-- Run, its row readable. -/
def RetRn2 (w : World) (G : List V × Int × Nat) (e : Ending) (w' : World) : Prop :=
  ∃ A c, e = .returned (.tuple #[.slice A G.1.length c, .int .i64 G.2.1, .int .i64 (G.2.2 : Int)]) ∧ Rc 3 w' w'.heap.size A G.1.length c (vvs G.1) ∧ Below w.heap.size w w'
theorem rnv_of (p : List Ins) (r : List (List UInt8)) (fo : List V) (fu : Int) : (ev r fo [] fu p = none ∧ rnv p r fo fu = ([], 0, 12)) ∨ ∃ l n, ev r fo [] fu p = some (l, n) ∧ rnv p r fo fu = (l, n, 0) := by
  unfold rnv
  cases ev r fo [] fu p with
  | none => exact .inl ⟨rfl, rfl⟩
  | some q => obtain ⟨l, n⟩ := q; exact .inr ⟨l, n, rfl, rfl⟩
section
variable (A : Option Addr) (n c : Nat) (p : List Ins) (RA : Option Addr) (rm rc : Nat) (r : List (List UInt8)) (fu : Int) (w : World)
theorem rrun_nil (h : Arg A n c p RA rm rc r w) (hfu : I fu) (hok : (rn [] [] 0 p).2.2 = 0) :
    Calls Tryz.prog 20 #[.slice A n c, .slice RA rm rc, .slice none 0 0, .int .i64 fu] w (RetRn w (ev r [] [] fu p)) :=
  rrun_c A n c p RA rm rc r none 0 0 [] fu w h (Rc.nil 3 w _) rfl (fun v hv => by cases hv) (.inl rfl) hok hfu
set_option maxRecDepth 100000 in
set_option maxHeartbeats 4000000 in
theorem rRun_c (h : Arg A n c p RA rm rc r w) (hfu : I fu) :
    Calls Tryz.prog 8 #[.slice A n c, .slice RA rm rc, .int .i64 fu] w (RetRn2 w (runV p r fu)) := by
  have hst := rstack_c A n c p none 0 0 [] w h.hp h.hn (Rc.nil 1 w _) (by omega)
  have hru := fun (W : World) (hb : Below w.heap.size w W) hok => rrun_nil A n c p RA rm rc r fu W (h.below hb) hfu hok
  have hof := rnv_of p r [] fu
  obtain ⟨G, hG⟩ : ∃ G, G = runV p r fu := ⟨_, rfl⟩
  rw [← hG]
  unfold runV at hG
  have hso := fun q => (sk_ok (p := p) (f := []) q).2
  generalize sk p [] = K at *
  generalize rnv p r [] fu = N at *
  generalize ev r [] [] fu p = E at *
  obtain ⟨s, i, er⟩ := K
  have Hst := Lib.hid hst; have Hru := Lib.hid hru; have HG := Lib.hid hG; have Hso := Lib.hid hso; have Hof := Lib.hid hof
  clear hst hru hG hso h hof
  go_enter Tryz.func8, Tryz.ntmps8
  go_wp2_with fail
  refine Hst.out.mono ?_
  rintro e w1 ⟨A1, c1, rfl, -, b1⟩
  have B1 := Lib.hid b1
  clear b1
  dsimp only
  by_cases h0 : er = 0
  · subst h0
    have hGN : N = G := (HG.out.trans (if_neg (by simp))).symm
    subst hGN
    have Hc := Lib.hid (Hru.out w1 B1.out (Hso.out rfl))
    clear HG Hru Hso
    go_wp2_with fail
    refine Hc.out.mono ?_
    rintro e w2 ⟨b2, h2⟩
    rcases Hof.out with ⟨hE, hN⟩ | ⟨l, m, hE, hN⟩
    · subst hE hN
      dsimp only at h2
      subst h2
      have HF := Lib.hid (show RetRn2 w ([], 0, 12) (.returned (.tuple #[.slice none 0 0, .int .i64 0, .int .i64 12])) w2 from ⟨none, 0, rfl, Rc.nil 3 _ _, B1.out.trans (b2.mono B1.out.size)⟩)
      clear Hof Hc b2
      go_wp2
      go_ret3
      exact HF.out
    · subst hE hN
      dsimp only at h2
      obtain ⟨A2, c2, rfl, hr2⟩ := h2
      have HF := Lib.hid (show RetRn2 w (l, m, 0) (.returned (.tuple #[.slice A2 l.length c2, .int .i64 m, .int .i64 0])) w2 from ⟨A2, c2, rfl, hr2, B1.out.trans (b2.mono B1.out.size)⟩)
      clear Hof Hc b2 hr2
      go_wp2
      go_ret3
      exact HF.out
  · have hGN := HG.out.trans (if_pos h0)
    subst hGN
    have e3 : ((er : Int) != 0) = true := by simp; omega
    have e4 : ((er : Int) == 0) = false := by simp; omega
    clear h0 HG Hru Hso
    go_wp2
    go_ret3
    exact ⟨none, 0, rfl, Rc.nil 3 _ _, B1.out⟩
end
end Go.Proofs.YtoalncojijmelaaGreatDoor

/-
  The document's One.
-/
namespace Go.Proofs.YtoalncojijmelaaGreatDoor
open Go.RowKit Vl Cd Ck

section
variable (A : Option Addr) (n c : Nat) (p : List Ins) (RA : Option Addr) (rm rc : Nat) (r : List (List UInt8)) (fu : Int) (w : World)
set_option maxRecDepth 100000 in
set_option maxHeartbeats 4000000 in
theorem rOne_c (h : Arg A n c p RA rm rc r w) (hfu : I fu) :
    Calls Tryz.prog 10 #[.slice A n c, .slice RA rm rc, .int .i64 fu] w (RetT w (oneV p r fu)) := by
  obtain ⟨w0, hw0⟩ : ∃ w0, w0 = w.alloc (.cells #[.bool false, .int .i64 0, .string ⟨#[]⟩] 32) := ⟨_, rfl⟩
  have b0 : Below w.heap.size w w0 := by rw [hw0]; exact (Below.refl _ _).alloc (Nat.le_refl _) _
  have x0 : Bx w0 w.heap.size (.bool false) (.int .i64 0) (.string ⟨#[]⟩) := by rw [hw0]; exact Bx.made _ _ _ _ _
  have h0 := h.below b0
  have hst := rstack_c A n c p none 0 0 [] w0 h0.hp h0.hn (Rc.nil 1 w0 _) (by omega)
  have hru := fun (W : World) (hb : Below w.heap.size w W) hok => rrun_nil A n c p RA rm rc r fu W (h.below hb) hfu hok
  have hof := rnv_of p r [] fu
  have hln := fun q q0 => rnv_len (p := p) (r := r) (fo := []) (fu := fu) rfl (.inl rfl) q q0
  obtain ⟨G, hG⟩ : ∃ G, G = oneV p r fu := ⟨_, rfl⟩
  rw [← hG]
  unfold oneV at hG
  have hso := fun q => sk_ok (p := p) (f := []) q
  have hso2 := fun q => (show (rn (([] : List V).map (·.t)) [] 0 p).2.2 = 0 from (hso q).2)
  have hso3 := fun q (q1 : (sk p []).1.length = 1) (q0 : (rnv p r [] fu).2.2 = 0) => (show (rnv p r [] fu).1.length = 1 from by
    have e := (hln (hso2 q) q0).2
    have e2 := congrArg List.length e
    rw [List.length_map] at e2
    rw [e2]
    show (rn [] [] 0 p).1.length = 1
    rw [← (hso q).1]; exact q1)
  clear hln
  generalize sk p [] = K at *
  generalize rnv p r [] fu = N at *
  generalize ev r [] [] fu p = E at *
  obtain ⟨s, i, er⟩ := K
  have W0 := Lib.hid hw0; have B0 := Lib.hid b0; have X0 := Lib.hid x0; have Hst := Lib.hid hst; have Hru := Lib.hid (fun W hb q => hru W hb (hso2 q)); have HG := Lib.hid hG; have Hso := Lib.hid hso3; have Hof := Lib.hid hof
  clear hw0 b0 x0 hst hru hG hso hso2 hso3 h h0 hof
  go_enter Tryz.func10, Tryz.ntmps10
  go_wp2_with (rw [← W0.out])
  refine Hst.out.mono ?_
  rintro e w1 ⟨A1, c1, rfl, -, b1⟩
  have x1 := X0.out.below b1 X0.out.lt
  have B1 := Lib.hid (B0.out.trans (b1.mono B0.out.size)); have X1 := Lib.hid x1
  obtain ⟨y0, y1, y2, f0, f1, f2, yl⟩ := x1
  clear b1
  dsimp only at Hso Hru HG ⊢
  by_cases h0 : er = 0
  · subst h0
    have HG2 := Lib.hid (HG.out.trans (if_neg (by simp)))
    clear HG
    by_cases h1 : s.length = 1
    · have hGN := HG2.out.trans (if_neg (by simpa using h1))
      subst hGN
      have d1 : ((s.length : Int) != 1) = false := by simp; omega
      have d2 : ((s.length : Int) == 1) = true := by simp; omega
      have Hs := Lib.hid (Hru.out w1 B1.out rfl)
      have HL := Lib.hid (Hso.out rfl h1)
      clear HG2 Hru Hso h1
      go_wp2_with fail
      refine Hs.out.mono ?_
      rintro e w2 ⟨b2, h2⟩
      have x2 := X1.out.below b2 X1.out.lt
      have B2 := Lib.hid (B1.out.trans (b2.mono B1.out.size)); have X2 := Lib.hid x2
      clear b2 y0 y1 y2 f0 f1 f2
      obtain ⟨y0, y1, y2, f0, f1, f2, -⟩ := x2
      rcases Hof.out with ⟨hE, hN⟩ | ⟨l, m, hE, hN⟩
      · subst hE hN
        dsimp only at h2
        subst h2
        clear Hof Hs HL
        go_wp2
        change bodyPost _ _ _ _ _ (put3 w2 w.heap.size (.bool false) (.int .i64 0) (.string ⟨#[]⟩))
        refine bodyPost_ret (v := .tuple #[vv v0, .int .i64 0, .int .i64 12]) ?_ rfl ⟨rfl, B2.out.trans ((put3_below _ _ _ _ _))⟩
        have s0 := (put3_box X2.out (.bool false) (.int .i64 0) (.string ⟨#[]⟩)).c0
        have s1 := (put3_box X2.out (.bool false) (.int .i64 0) (.string ⟨#[]⟩)).c1
        have s2 := (put3_box X2.out (.bool false) (.int .i64 0) (.string ⟨#[]⟩)).c2
        simp [results, Tryz.results10, go_sem, s0, s1, s2, v0]
      · subst hE hN
        dsimp only at h2
        obtain ⟨A2, c2, rfl, hr2⟩ := h2
        have hl1 := HL.out rfl
        dsimp only at hl1
        obtain ⟨bb, o, v, rfl, hb, a0, a1, a2, hv⟩ := vvs_at hr2 (k := 0) (by omega)
        have hG : fst' (l, m, 0) = (v, m, 0) := by
          unfold fst'
          rw [List.getD_eq_getElem?_getD, hv]; rfl
        rw [hl1]
        have HG := Lib.hid hG
        clear hG hl1 HL Hof Hs hr2 hv
        obtain ⟨t, mm, u⟩ := v
        obtain ⟨Z, hZ, -, -, -⟩ := hide_st u
        dsimp only at a0 a1 a2
        simp only [st, ← hZ] at a2
        simp only [Nat.zero_mul, Nat.add_zero] at a0 a1 a2
        have HZ := Lib.hid hZ
        clear hZ
        go_wp2
        change bodyPost _ _ _ _ _ (put3 w2 w.heap.size (.bool t) (.int .i64 mm) (.string Z))
        refine bodyPost_ret (v := .tuple #[vv ⟨t, mm, u⟩, .int .i64 m, .int .i64 0]) ?_ rfl (by rw [HG.out]; exact ⟨rfl, B2.out.trans ((put3_below _ _ _ _ _))⟩)
        have s0 := (put3_box X2.out (.bool t) (.int .i64 mm) (.string Z)).c0
        have s1 := (put3_box X2.out (.bool t) (.int .i64 mm) (.string Z)).c1
        have s2 := (put3_box X2.out (.bool t) (.int .i64 mm) (.string Z)).c2
        simp [results, Tryz.results10, go_sem, s0, s1, s2, ← HZ.out]
    · have hGN := HG2.out.trans (if_pos (by simpa using h1))
      subst hGN
      have d1 : ((s.length : Int) != 1) = true := by simp; omega
      have d2 : ((s.length : Int) == 1) = false := by simp; omega
      clear HG2 Hru Hso h1 Hof
      go_wp2
      change bodyPost _ _ _ _ _ (put3 w1 w.heap.size (.bool false) (.int .i64 0) (.string ⟨#[]⟩))
      refine bodyPost_ret (v := .tuple #[vv v0, .int .i64 fu, .int .i64 11]) ?_ rfl ⟨rfl, B1.out.trans ((put3_below _ _ _ _ _))⟩
      have s0 := (put3_box X1.out (.bool false) (.int .i64 0) (.string ⟨#[]⟩)).c0
      have s1 := (put3_box X1.out (.bool false) (.int .i64 0) (.string ⟨#[]⟩)).c1
      have s2 := (put3_box X1.out (.bool false) (.int .i64 0) (.string ⟨#[]⟩)).c2
      simp [results, Tryz.results10, go_sem, s0, s1, s2, v0]
  · have hGN := HG.out.trans (if_pos h0)
    subst hGN
    have e3 : ((er : Int) != 0) = true := by simp; omega
    have e4 : ((er : Int) == 0) = false := by simp; omega
    clear h0 HG Hru Hso Hof
    go_wp2
    change bodyPost _ _ _ _ _ (put3 w1 w.heap.size (.bool false) (.int .i64 0) (.string ⟨#[]⟩))
    refine bodyPost_ret (v := .tuple #[vv v0, .int .i64 fu, .int .i64 (er : Int)]) ?_ rfl ⟨rfl, B1.out.trans ((put3_below _ _ _ _ _))⟩
    have s0 := (put3_box X1.out (.bool false) (.int .i64 0) (.string ⟨#[]⟩)).c0
    have s1 := (put3_box X1.out (.bool false) (.int .i64 0) (.string ⟨#[]⟩)).c1
    have s2 := (put3_box X1.out (.bool false) (.int .i64 0) (.string ⟨#[]⟩)).c2
    simp [results, Tryz.results10, go_sem, s0, s1, s2, v0]
end
end Go.Proofs.YtoalncojijmelaaGreatDoor

/-
  The document's Yes.
-/
namespace Go.Proofs.YtoalncojijmelaaGreatDoor
open Go.RowKit Vl Cd Ck

section
variable (A : Option Addr) (n c : Nat) (p : List Ins) (RA : Option Addr) (rm rc : Nat) (r : List (List UInt8)) (fu : Int) (w : World)
set_option maxRecDepth 100000 in
set_option maxHeartbeats 4000000 in
theorem rYes_c (h : Arg A n c p RA rm rc r w) (hfu : I fu) :
    Calls Tryz.prog 12 #[.slice A n c, .slice RA rm rc, .int .i64 fu] w (RetY w (yesV p r fu)) := by
  have hpl := ics_num h.hp
  by_cases hn0 : n = 0
  · subst hn0
    obtain rfl : p = [] := List.eq_nil_of_length_eq_zero hpl
    have HF := Lib.hid (show RetY w (yesV [] r fu) (.returned (.tuple #[.bool true, .int .i64 fu, .int .i64 0])) w from by unfold yesV; rw [if_pos rfl]; exact ⟨rfl, Below.refl _ _⟩)
    clear h hpl
    go_enter Tryz.func12, Tryz.ntmps12
    go_wp2
    go_ret3
    exact HF.out
  · have d0 : ((n : Int) == 0) = false := beq_eq_false_iff_ne.2 (by omega)
    have hpne : p ≠ [] := fun e => hn0 (by rw [e] at hpl; exact hpl.symm)
    have hst := rstack_c A n c p none 0 0 [] w h.hp h.hn (Rc.nil 1 w _) (by omega)
    have hon := fun (W : World) (hb : Below w.heap.size w W) => rOne_c A n c p RA rm rc r fu W (h.below hb) hfu
    obtain ⟨G, hG⟩ : ∃ G, G = yesV p r fu := ⟨_, rfl⟩
    rw [← hG]
    unfold yesV at hG
    rw [if_neg hpne] at hG
    generalize sk p [] = K at *
    generalize oneV p r fu = N at *
    obtain ⟨s, i, er⟩ := K
    have Hst := Lib.hid hst; have Hon := Lib.hid hon; have HG := Lib.hid hG
    clear hst hon hG h hpl hpne hn0
    go_enter Tryz.func12, Tryz.ntmps12
    go_wp2_with fail
    refine Hst.out.mono ?_
    rintro e w1 ⟨A1, c1, rfl, ho, b1⟩
    have B1 := Lib.hid b1; have HO := Lib.hid ho
    clear b1 ho
    dsimp only at HG HO ⊢
    by_cases h0 : er = 0
    · subst h0
      have HG2 := Lib.hid (HG.out.trans (if_neg (by simp)))
      clear HG
      by_cases h1 : s = [false]
      · subst h1
        have HG3 := Lib.hid (HG2.out.trans (if_neg (by simp)))
        clear HG2
        obtain ⟨bb, o, q, rfl, hb, a0, hq⟩ := lvb_at HO.out.rc (k := 0) (by simp)
        obtain rfl : q = false := by simpa using hq.symm
        simp only [Nat.add_zero] at a0
        have Hs := Lib.hid (Hon.out w1 B1.out)
        clear hq Hon
        go_wp2_with fail
        refine Hs.out.mono ?_
        rintro e w2 ⟨rfl, b2⟩
        obtain ⟨⟨t, m, u⟩, n', er⟩ := N
        obtain ⟨Z, hZ, -, -, -⟩ := hide_st u
        dsimp only
        simp only [vv, st, ← hZ]
        obtain ⟨w3, hw3⟩ : ∃ w3, w3 = w2.alloc (.cells #[.bool t, .int .i64 m, .string Z] 32) := ⟨_, rfl⟩
        have b3 : Below w2.heap.size w2 w3 := by rw [hw3]; exact (Below.refl _ _).alloc (Nat.le_refl _) _
        have x3 : Bx w3 w2.heap.size (.bool t) (.int .i64 m) (.string Z) := by rw [hw3]; exact Bx.made _ _ _ _ _
        have bb2 := B1.out.trans (b2.mono B1.out.size)
        have W3 := Lib.hid hw3; have B3 := Lib.hid (bb2.trans (b3.mono bb2.size))
        obtain ⟨c0, c1, c2, -, -, -, -⟩ := x3
        clear hw3 b3 b2 bb2 hZ a0
        by_cases hm : m = 0
        · subst hm
          have HF := Lib.hid (show RetY w G (.returned (.tuple #[.bool false, .int .i64 n', .int .i64 (er : Int)])) w3 from by rw [HG3.out]; exact ⟨by first | rfl | simp, B3.out⟩)
          clear HG3
          go_wp2_with (rw [← W3.out])
          go_ret3
          exact HF.out
        · have d1 : (m == 0) = false := beq_eq_false_iff_ne.2 hm
          have d2 : (m != 0) = true := by rw [bne, d1]; rfl
          have HF := Lib.hid (show RetY w G (.returned (.tuple #[.bool true, .int .i64 n', .int .i64 (er : Int)])) w3 from by rw [HG3.out]; exact ⟨by simp [hm], B3.out⟩)
          clear hm HG3
          go_wp2_with (rw [← W3.out])
          go_ret3
          exact HF.out
      · have HF := Lib.hid (show RetY w G (.returned (.tuple #[.bool false, .int .i64 fu, .int .i64 11])) w1 from by rw [HG2.out, if_pos h1]; exact ⟨rfl, B1.out⟩)
        by_cases hl : s.length = 1
        · match s, hl, h1 with
          | [b], _, h1 =>
            obtain rfl : b = true := by cases b <;> first | rfl | exact absurd rfl h1
            obtain ⟨bb, o, q, rfl, hb, a0, hq⟩ := lvb_at HO.out.rc (k := 0) (by simp)
            obtain rfl : q = true := by simpa using hq.symm
            simp only [Nat.add_zero] at a0
            clear hq Hon HG2 h1
            go_wp2
            go_ret3
            exact HF.out
        · have d1 : ((s.length : Int) != 1) = true := by simp; omega
          have d2 : ((s.length : Int) == 1) = false := by simp; omega
          clear hl h1 HG2 Hon
          go_wp2
          go_ret3
          exact HF.out
    · have HF := Lib.hid (show RetY w G (.returned (.tuple #[.bool false, .int .i64 fu, .int .i64 (er : Int)])) w1 from by rw [HG.out, if_pos h0]; exact ⟨rfl, B1.out⟩)
      have e3 : ((er : Int) != 0) = true := by simp; omega
      have e4 : ((er : Int) == 0) = false := by simp; omega
      clear h0 Hon HG
      go_wp2
      go_ret3
      exact HF.out
end
end Go.Proofs.YtoalncojijmelaaGreatDoor

/-
  The walk of the law EvalRuns.
-/
namespace Go.Proofs.YtoalncojijmelaaGreatDoor
open Go.RowKit Vl Cd Ck

theorem ev_len' {r : List (List UInt8)} {fo : List V} {p : List Ins} {g : Int} (hf : fo.all isV = true) (hf2 : fo.length = 0 ∨ fo.length = 2) (h : (rn (fo.map (·.t)) [] 0 p).2.2 = 0) : (rnv p r fo g).1.length ≤ 30 := by
  unfold rnv
  cases hq : ev r fo [] g p with
  | none => simp
  | some q =>
    obtain ⟨l, n⟩ := q
    have := (ev_kind hf hf2 p [] g 0 rfl h l n hq).2
    have h2 := (rn_len (f := fo.map (·.t)) p [] 0 (by simp)).1
    have h3 := congrArg List.length this
    rw [List.length_map] at h3
    show l.length ≤ 30
    rw [h3]
    exact h2
theorem runV_len' (p : List Ins) (r : List (List UInt8)) (g : Int) : (runV p r g).1.length ≤ 30 := by
  unfold runV
  by_cases h : (sk p []).2.2 ≠ 0
  · rw [if_pos h]; simp
  · rw [if_neg h]
    exact ev_len' (fo := []) rfl (.inl rfl) (sk_ok (p := p) (f := []) (by omega)).2
set_option maxRecDepth 100000 in
set_option maxHeartbeats 8000000 in
theorem evalRuns_walk (A : Option Addr) (n c : Nat) (p : List Ins) (RA : Option Addr) (rm rc : Nat) (r : List (List UInt8)) (fu : Int) (w : World) (hp : Rc 3 w w.heap.size A n c (ics p)) (hn : n ≤ maxLen) (hI : ∀ x ∈ p, I x.op ∧ I x.n) (hr : Rc 1 w w.heap.size RA rm rc (lvs r)) (hz : ∀ q ∈ r, q.length ≤ 140737488355328) (hfu : I fu) (hG : Gl w) :
    Calls Tryz.prog 3 #[.slice A n c, .slice RA rm rc, .int .i64 fu] w (RetV w (.bool true)) := by
  have Hs1 := Lib.hid (small_c A n c p RA rm rc r w hp hn hr hz)
  have HP := Lib.hid hp; have HR := Lib.hid hr; have HI := Lib.hid hI; have HL := Lib.hid hG; have Hfu := Lib.hid hfu
  clear hp hr hI hG hz hn hfu
  go_enter Tryz.func3, Tryz.ntmps3
  go_wp2_with fail
  refine Hs1.out.mono ?_
  rintro e w1 ⟨b, rfl, hb, b1⟩
  cases b
  · clear hb
    have hl1 := HL.out.below' b1
    go_wp2_with fail
    refine (alive_c w1 hl1).mono ?_
    rintro e wf ⟨rfl, bf⟩
    go_wp2
    go_ret
    exact ⟨by first | rfl | simp, b1.trans (bf.mono b1.size)⟩
  obtain ⟨hn, hrm, hrz⟩ := hb rfl
  clear hb Hs1
  have harg : Arg A n c p RA rm rc r w1 := ⟨(HP.out.below b1).more b1.size, by omega, HI.out, (HR.out.below b1).more b1.size, by omega, (fun q hq => by have := hrz q hq; omega), HL.out.below' b1⟩
  have k1 := fun (W : World) (hb : Below w1.heap.size w1 W) => run_c A n c p RA rm rc r fu W (harg.below hb) Hfu.out
  have k2 := fun (W : World) (hb : Below w1.heap.size w1 W) => rRun_c A n c p RA rm rc r fu W (harg.below hb) Hfu.out
  have k3 := fun (W : World) (hb : Below w1.heap.size w1 W) => one_c A n c p RA rm rc r fu W (harg.below hb) Hfu.out
  have k4 := fun (W : World) (hb : Below w1.heap.size w1 W) => rOne_c A n c p RA rm rc r fu W (harg.below hb) Hfu.out
  have k5 := fun (W : World) (hb : Below w1.heap.size w1 W) => yes_fc A n c p RA rm rc r fu W (harg.below hb) Hfu.out
  have k6 := fun (W : World) (hb : Below w1.heap.size w1 W) => rYes_c A n c p RA rm rc r fu W (harg.below hb) Hfu.out
  have k7 := fun (W : World) (hb : Below w1.heap.size w1 W) => alive_c W (harg.hG.below' hb)
  have hl30 := runV_len' p r fu
  generalize runV p r fu = T at *
  generalize oneV p r fu = O at *
  generalize yesV p r fu = Y at *
  obtain ⟨l, n1, e1⟩ := T
  obtain ⟨⟨t, m, u⟩, n2, e2⟩ := O
  obtain ⟨yb, n3, e3⟩ := Y
  obtain ⟨Z, hZ, -, -, -⟩ := hide_st u
  dsimp only at hl30
  obtain ⟨z, hzl⟩ : ∃ z, z = l.length := ⟨_, rfl⟩
  rw [← hzl] at hl30
  unfold RetT at k3 k4
  simp only [vv, st, ← hZ] at k3 k4
  have B1 := Lib.hid b1; have K1 := Lib.hid k1; have K2 := Lib.hid k2; have K3 := Lib.hid k3; have K4 := Lib.hid k4; have K5 := Lib.hid k5; have K6 := Lib.hid k6; have K7 := Lib.hid k7; have Hz := Lib.hid hzl
  clear k1 k2 k3 k4 k5 k6 k7 harg hrz b1 hZ hzl
  go_wp2_with fail
  refine (K1.out w1 (Below.refl _ _)).mono ?_
  rintro e w2 ⟨A2, c2, rfl, ho2, b2⟩
  dsimp only at ho2 ⊢
  rw [← Hz.out] at ho2 ⊢
  have B2 := Lib.hid b2; have R2 := Lib.hid ho2.rc
  clear b2 ho2
  go_wp2_with fail
  refine (K2.out w2 B2.out).mono ?_
  rintro e w3 ⟨A3, c3, rfl, hr3, b3⟩
  dsimp only at hr3 ⊢
  rw [← Hz.out] at hr3 ⊢
  have B3 := Lib.hid (B2.out.trans (b3.mono B2.out.size)); have R2 := Lib.hid ((R2.out.below b3).more b3.size); have R3 := Lib.hid hr3
  clear b3 hr3
  go_wp2_with fail
  refine (K3.out w3 B3.out).mono ?_
  rintro e w4 ⟨rfl, b4⟩
  obtain ⟨w5, hw5⟩ : ∃ w5, w5 = w4.alloc (.cells #[.bool t, .int .i64 m, .string Z] 32) := ⟨_, rfl⟩
  have b5 : Below w4.heap.size w4 w5 := by rw [hw5]; exact (Below.refl _ _).alloc (Nat.le_refl _) _
  have x5 : Bx w5 w4.heap.size (.bool t) (.int .i64 m) (.string Z) := by rw [hw5]; exact Bx.made _ _ _ _ _
  have bb4 := B3.out.trans (b4.mono B3.out.size)
  have bb35 := b4.trans (b5.mono b4.size)
  have B5 := Lib.hid (bb4.trans (b5.mono bb4.size)); have R2 := Lib.hid ((R2.out.below bb35).more bb35.size); have R3 := Lib.hid ((R3.out.below bb35).more bb35.size); have W5 := Lib.hid hw5; have X5 := Lib.hid x5
  clear b4 b5 bb4 bb35 hw5 x5
  dsimp only
  go_wp2_with (rw [← W5.out])
  refine (K4.out w5 B5.out).mono ?_
  rintro e w6 ⟨rfl, b6⟩
  obtain ⟨w7, hw7⟩ : ∃ w7, w7 = w6.alloc (.cells #[.bool t, .int .i64 m, .string Z] 32) := ⟨_, rfl⟩
  have b7 : Below w6.heap.size w6 w7 := by rw [hw7]; exact (Below.refl _ _).alloc (Nat.le_refl _) _
  have x7 : Bx w7 w6.heap.size (.bool t) (.int .i64 m) (.string Z) := by rw [hw7]; exact Bx.made _ _ _ _ _
  have bb6 := B5.out.trans (b6.mono B5.out.size)
  have bb57 := b6.trans (b7.mono b6.size)
  have B7 := Lib.hid (bb6.trans (b7.mono bb6.size)); have R2 := Lib.hid ((R2.out.below bb57).more bb57.size); have R3 := Lib.hid ((R3.out.below bb57).more bb57.size); have W7 := Lib.hid hw7; have X7 := Lib.hid x7
  have X5 := Lib.hid (X5.out.below bb57 X5.out.lt)
  clear b6 b7 bb6 bb57 hw7 x7
  dsimp only
  go_wp2_with (rw [← W7.out])
  refine (K5.out w7 B7.out).mono ?_
  rintro e w8 ⟨rfl, b8⟩
  have B8 := Lib.hid (B7.out.trans (b8.mono B7.out.size)); have R2 := Lib.hid ((R2.out.below b8).more b8.size); have R3 := Lib.hid ((R3.out.below b8).more b8.size); have X5 := Lib.hid (X5.out.below b8 X5.out.lt); have X7 := Lib.hid (X7.out.below b8 X7.out.lt)
  clear b8
  dsimp only
  go_wp2_with fail
  refine (K6.out w8 B8.out).mono ?_
  rintro e w9 ⟨rfl, b9⟩
  have B9 := Lib.hid (B8.out.trans (b9.mono B8.out.size)); have R2 := Lib.hid ((R2.out.below b9).more b9.size); have R3 := Lib.hid ((R3.out.below b9).more b9.size); have X5 := Lib.hid (X5.out.below b9 X5.out.lt); have X7 := Lib.hid (X7.out.below b9 X7.out.lt)
  clear b9
  dsimp only
  go_wp2_with fail
  refine (K7.out w9 B9.out).mono ?_
  rintro e wa ⟨rfl, ba⟩
  have hsm := same_c A2 A3 z c2 c3 wa.heap.size l wa ((R2.out.below ba).more ba.size) ((R3.out.below ba).more ba.size) (by omega)
  have Ba := Lib.hid (B9.out.trans (ba.mono B9.out.size)); have x5 := X5.out.below ba X5.out.lt; have x7 := X7.out.below ba X7.out.lt
  have Hsm := Lib.hid hsm
  clear ba hsm
  go_wp2_with fail
  refine Hsm.out.mono ?_
  rintro e wb ⟨rfl, j, rfl⟩
  have Bb := Lib.hid (below_drewN Ba.out j)
  have x5 := x5.drewN j
  have x7 := x7.drewN j
  generalize wa.drewN j = wb at *
  obtain ⟨c0, c1, c2', -, -, -, -⟩ := x5
  obtain ⟨d0, d1, d2, -, -, -, -⟩ := x7
  go_wp2
  go_ret
  exact ⟨by first | rfl | simp, B1.out.trans (Bb.out.mono B1.out.size)⟩
end Go.Proofs.YtoalncojijmelaaGreatDoor

/-
  The document's Fold.
-/
namespace Go.Proofs.YtoalncojijmelaaGreatDoor
open Go.RowKit Vl Cd Ck

theorem rows_plain (w : World) (xs ys : List Bool) (hx : xs.length ≤ 2) (hy : ys.length ≤ 2) :
    Rc 1 ((w.alloc (.cells (lvb xs).toArray 4)).alloc (.cells (lvb ys).toArray 4)) ((w.alloc (.cells (lvb xs).toArray 4)).alloc (.cells (lvb ys).toArray 4)).heap.size (some ⟨w.heap.size, 0, none⟩) xs.length xs.length (lvb xs) ∧
    Rc 1 ((w.alloc (.cells (lvb xs).toArray 4)).alloc (.cells (lvb ys).toArray 4)) ((w.alloc (.cells (lvb xs).toArray 4)).alloc (.cells (lvb ys).toArray 4)).heap.size (some ⟨w.heap.size + 1, 0, none⟩) ys.length ys.length (lvb ys) ∧
    Below w.heap.size w ((w.alloc (.cells (lvb xs).toArray 4)).alloc (.cells (lvb ys).toArray 4)) := by
  have r1 := Rc.lit (z := 1) w 4 (lvb xs).toArray xs.length (by simp [lvb]) (by simp only [maxLen]; omega)
  have r2 := Rc.lit (z := 1) (w.alloc (.cells (lvb xs).toArray 4)) 4 (lvb ys).toArray ys.length (by simp [lvb]) (by simp only [maxLen]; omega)
  have b2 : Below (w.alloc (.cells (lvb xs).toArray 4)).heap.size (w.alloc (.cells (lvb xs).toArray 4)) ((w.alloc (.cells (lvb xs).toArray 4)).alloc (.cells (lvb ys).toArray 4)) := (Below.refl _ _).alloc (Nat.le_refl _) _
  have r3 := (r1.more (B' := (w.alloc (.cells (lvb xs).toArray 4)).heap.size) (by simp)).below b2
  refine ⟨r3.more (by simp), ?_, ((Below.refl _ _).alloc (Nat.le_refl _) _).alloc (by simp) _⟩
  have q := r2
  have e : (w.alloc (.cells (lvb xs).toArray 4)).heap.size = w.heap.size + 1 := by simp
  rw [e] at q
  exact q.more (by simp)
section
variable (A : Option Addr) (n c : Nat) (p : List Ins) (a b : V) (fu : Int) (w : World)
set_option maxRecDepth 100000 in
set_option maxHeartbeats 8000000 in
theorem rFold_c (h : Arf A n c p a b w) (hfu : I fu) :
    Calls Tryz.prog 15 #[.slice A n c, vv a, vv b, .int .i64 fu] w (RetT w (foldV p a b fu)) := by
  have hva := fun W => is_c a W
  have hvb := fun W => is_c b W
  have hch := fun (W : World) (hb : Below w.heap.size w W) (F E : Option Addr) (hF : Rc 1 W W.heap.size F 2 2 (lvb [a.t, b.t])) (hE : Rc 1 W W.heap.size E 1 1 (lvb [a.t])) => rcheck_c A n c p F 2 2 [a.t, b.t] E 1 1 [a.t] W ((h.hp.below hb).more hb.size) h.hn hF (by omega) hE
  have hru := fun (W : World) (hb : Below w.heap.size w W) (ha : isV a = true) (hb' : isV b = true) (hz : ckd p [a.t, b.t] [a.t] = 0) (F : Option Addr) (hF : Rc 3 W W.heap.size F 2 2 (vvs [a, b])) => rrun_c A n c p none 0 0 [] F 2 2 [a, b] fu W ⟨(h.hp.below hb).more hb.size, h.hn, h.hI, Rc.nil 1 W _, by omega, (fun q hq => by cases hq), h.hG.below' hb⟩ hF (by simp [ha, hb']) (fun v hv => by
    simp at hv; rcases hv with rfl | rfl
    · exact h.ia
    · exact h.ib) (.inr rfl) (sk_ok (ckd_zero hz).1).2 hfu
  have hof := rnv_of p [] [a, b] fu
  have hln := fun (ha : isV a = true) (hb' : isV b = true) (hz : ckd p [a.t, b.t] [a.t] = 0) (q0 : (rnv p [] [a, b] fu).2.2 = 0) => (show (rnv p [] [a, b] fu).1.length = 1 from by
    have e := (rnv_len (p := p) (r := []) (fo := [a, b]) (fu := fu) (by simp [ha, hb']) (.inr rfl) (sk_ok (ckd_zero hz).1).2 q0).2
    have e2 := congrArg List.length e
    rw [List.length_map] at e2
    rw [e2]
    show (rn [a.t, b.t] [] 0 p).1.length = 1
    rw [← (sk_ok (ckd_zero hz).1).1, (ckd_zero hz).2]; rfl)
  obtain ⟨G, hG⟩ : ∃ G, G = foldV p a b fu := ⟨_, rfl⟩
  rw [← hG]
  unfold foldV at hG
  rw [ckv_ckd] at hG
  obtain ⟨K, hK⟩ : ∃ K, K = ckd p [a.t, b.t] [a.t] := ⟨_, rfl⟩
  rw [← hK] at hG hch hru hln
  generalize rnv p [] [a, b] fu = N at *
  generalize ev [] [a, b] [] fu p = E at *
  obtain ⟨ka, hka⟩ : ∃ k, k = isV a := ⟨_, rfl⟩
  obtain ⟨kb, hkb⟩ : ∃ k, k = isV b := ⟨_, rfl⟩
  rw [← hka] at hva hru hG hln
  rw [← hkb] at hvb hru hG hln
  clear h hK hka hkb hfu
  obtain ⟨w1, hw1⟩ : ∃ w1, w1 = ((w.alloc (.cells #[.bool a.t, .int .i64 a.n, st a.s] 32)).alloc (.cells #[.bool b.t, .int .i64 b.n, st b.s] 32)).alloc (.cells #[.bool false, .int .i64 0, .string ⟨#[]⟩] 32) := ⟨_, rfl⟩
  have b1 : Below w.heap.size w w1 := by rw [hw1]; exact (((Below.refl _ _).alloc (Nat.le_refl _) _).alloc (by simp) _).alloc (by simp; omega) _
  have xa : Bx w1 w.heap.size (.bool a.t) (.int .i64 a.n) (st a.s) := by
    rw [hw1]
    exact ((Bx.made w _ _ _ _).below ((Below.refl _ _).alloc (Nat.le_refl _) _) (by simp)).below ((Below.refl _ _).alloc (Nat.le_refl _) _) (by simp; omega)
  have xb : Bx w1 (w.heap.size + 1) (.bool b.t) (.int .i64 b.n) (st b.s) := by
    rw [hw1]
    have q := (Bx.made (w.alloc (.cells #[.bool a.t, .int .i64 a.n, st a.s] 32)) 32 (.bool b.t) (.int .i64 b.n) (st b.s))
    have q2 := q.below ((Below.refl _ _).alloc (Nat.le_refl _) (.cells #[.bool false, .int .i64 0, .string ⟨#[]⟩] 32)) q.lt
    simpa using q2
  have xr : Bx w1 (w.heap.size + 1 + 1) (.bool false) (.int .i64 0) (.string ⟨#[]⟩) := by
    rw [hw1]
    have q := (Bx.made ((w.alloc (.cells #[.bool a.t, .int .i64 a.n, st a.s] 32)).alloc (.cells #[.bool b.t, .int .i64 b.n, st b.s] 32)) 32 (.bool false) (.int .i64 0) (.string ⟨#[]⟩))
    simpa using q
  obtain ⟨ta, na, sa⟩ := a
  obtain ⟨tb, nb, sb⟩ := b
  obtain ⟨X, hX, -, -, -⟩ := hide_st sa
  obtain ⟨Y, hY, -, -, -⟩ := hide_st sb
  dsimp only at hw1 xa xb hch
  have hrw := fun (W : World) => (show Rc 3 (W.alloc (.cells #[.bool ta, .int .i64 na, .string X, .bool tb, .int .i64 nb, .string Y] 32)) (W.heap.size + 1) (some ⟨W.heap.size, 0, none⟩) 2 2 (vvs [⟨ta, na, sa⟩, ⟨tb, nb, sb⟩]) from by
    have q := Rc.lit (z := 3) W 32 #[.bool ta, .int .i64 na, .string X, .bool tb, .int .i64 nb, .string Y] 2 rfl (by simp [maxLen])
    have e : vvs [⟨ta, na, sa⟩, ⟨tb, nb, sb⟩] = [.bool ta, .int .i64 na, .string X, .bool tb, .int .i64 nb, .string Y] := by rw [hX, hY]; rfl
    rw [e]; exact q)
  simp only [vv, st, ← hX, ← hY] at hva hvb hw1 xa xb ⊢
  have W1 := Lib.hid hw1; have B1 := Lib.hid b1; have XA := Lib.hid xa; have XB := Lib.hid xb; have XR := Lib.hid xr; have Hva := Lib.hid hva; have Hvb := Lib.hid hvb; have Hch := Lib.hid hch; have Hru := Lib.hid hru; have HG := Lib.hid hG; have Hrw := Lib.hid hrw; have Hof := Lib.hid hof; have Hln := Lib.hid hln
  have hl1 := xr.lt
  obtain ⟨a0, a1, a2, -, -, -, -⟩ := xa
  clear hw1 b1 xb xr hva hvb hch hru hG hX hY hrw hof hln
  cases ka
  · obtain rfl := HG.out.trans (if_pos (.inl rfl))
    clear HG Hch Hru Hvb Hln
    go_enter Tryz.func15, Tryz.ntmps15
    go_upto_region 1 with (fail)
    rw [← W1.out]
    go_wp2_with fail
    refine (Hva.out w1).mono ?_
    rintro e w2 ⟨rfl, b2⟩
    have xr2 := XR.out.below b2 XR.out.lt
    have XR2 := Lib.hid xr2; have B2 := Lib.hid (B1.out.trans (b2.mono B1.out.size))
    obtain ⟨r0, r1, r2, f0, f1, f2, -⟩ := xr2
    clear b2 a0 a1 a2
    go_wp2
    change bodyPost _ _ _ _ _ (put3 w2 (w.heap.size + 1 + 1) (.bool false) (.int .i64 0) (.string ⟨#[]⟩))
    refine bodyPost_ret (v := .tuple #[vv v0, .int .i64 fu, .int .i64 1]) ?_ rfl ⟨rfl, B2.out.trans ((put3_below _ _ _ _ _).mono (by omega))⟩
    have s0 := (put3_box XR2.out (.bool false) (.int .i64 0) (.string ⟨#[]⟩)).c0
    have s1 := (put3_box XR2.out (.bool false) (.int .i64 0) (.string ⟨#[]⟩)).c1
    have s2 := (put3_box XR2.out (.bool false) (.int .i64 0) (.string ⟨#[]⟩)).c2
    simp [results, Tryz.results15, go_sem, s0, s1, s2, v0]
  · cases kb
    · obtain rfl := HG.out.trans (if_pos (.inr rfl))
      clear HG Hch Hru Hln
      go_enter Tryz.func15, Tryz.ntmps15
      go_upto_region 1 with (fail)
      rw [← W1.out]
      go_wp2_with fail
      refine (Hva.out w1).mono ?_
      rintro e w2 ⟨rfl, b2⟩
      have xr2 := XR.out.below b2 XR.out.lt
      have xb2 := XB.out.below b2 XB.out.lt
      have XR2 := Lib.hid xr2; have B2 := Lib.hid (B1.out.trans (b2.mono B1.out.size))
      obtain ⟨c0, c1, c2, -, -, -, -⟩ := xb2
      clear b2 a0 a1 a2 xr2
      go_wp2_with fail
      refine (Hvb.out w2).mono ?_
      rintro e w3 ⟨rfl, b3⟩
      have xr3 := XR2.out.below b3 XR2.out.lt
      have XR3 := Lib.hid xr3; have B3 := Lib.hid (B2.out.trans (b3.mono B2.out.size))
      obtain ⟨r0, r1, r2, f0, f1, f2, -⟩ := xr3
      clear b3 c0 c1 c2
      go_wp2
      change bodyPost _ _ _ _ _ (put3 w3 (w.heap.size + 1 + 1) (.bool false) (.int .i64 0) (.string ⟨#[]⟩))
      refine bodyPost_ret (v := .tuple #[vv v0, .int .i64 fu, .int .i64 1]) ?_ rfl ⟨rfl, B3.out.trans ((put3_below _ _ _ _ _).mono (by omega))⟩
      have s0 := (put3_box XR3.out (.bool false) (.int .i64 0) (.string ⟨#[]⟩)).c0
      have s1 := (put3_box XR3.out (.bool false) (.int .i64 0) (.string ⟨#[]⟩)).c1
      have s2 := (put3_box XR3.out (.bool false) (.int .i64 0) (.string ⟨#[]⟩)).c2
      simp [results, Tryz.results15, go_sem, s0, s1, s2, v0]
    · have HG := Lib.hid (HG.out.trans (if_neg (by simp)))
      go_enter Tryz.func15, Tryz.ntmps15
      go_upto_region 1 with (fail)
      rw [← W1.out]
      go_wp2_with fail
      refine (Hva.out w1).mono ?_
      rintro e w2 ⟨rfl, b2⟩
      have xr2 := XR.out.below b2 XR.out.lt
      have xb2 := XB.out.below b2 XB.out.lt
      have xa2 := XA.out.below b2 XA.out.lt
      have XR2 := Lib.hid xr2; have XA2 := Lib.hid xa2; have XB2 := Lib.hid xb2; have B2 := Lib.hid (B1.out.trans (b2.mono B1.out.size))
      obtain ⟨c0, c1, c2, -, -, -, -⟩ := xb2
      clear b2 a0 a1 a2 xr2 xa2
      go_wp2_with fail
      refine (Hvb.out w2).mono ?_
      rintro e w3 ⟨rfl, b3⟩
      have xr3 := XR2.out.below b3 XR2.out.lt
      have xb3 := XB2.out.below b3 XB2.out.lt
      have xa3 := XA2.out.below b3 XA2.out.lt
      have XR3 := Lib.hid xr3; have XA3 := Lib.hid xa3; have XB3 := Lib.hid xb3; have B3 := Lib.hid (B2.out.trans (b3.mono B2.out.size))
      obtain ⟨a0, a1, a2, -, -, -, -⟩ := xa3
      clear b3 c0 c1 c2 xr3
      obtain ⟨c0, c1, c2, -, -, -, -⟩ := xb3
      obtain ⟨hf4, hw4, b4⟩ := rows_plain w3 [ta, tb] [ta] (by simp) (by simp)
      obtain ⟨w4, hw4'⟩ : ∃ w4, w4 = (w3.alloc (.cells #[.bool ta, .bool tb] 4)).alloc (.cells #[.bool ta] 4) := ⟨_, rfl⟩
      change Rc 1 ((w3.alloc (.cells #[.bool ta, .bool tb] 4)).alloc (.cells #[.bool ta] 4)) ((w3.alloc (.cells #[.bool ta, .bool tb] 4)).alloc (.cells #[.bool ta] 4)).heap.size (some ⟨w3.heap.size, 0, none⟩) 2 2 (lvb [ta, tb]) at hf4
      change Rc 1 ((w3.alloc (.cells #[.bool ta, .bool tb] 4)).alloc (.cells #[.bool ta] 4)) ((w3.alloc (.cells #[.bool ta, .bool tb] 4)).alloc (.cells #[.bool ta] 4)).heap.size (some ⟨w3.heap.size + 1, 0, none⟩) 1 1 (lvb [ta]) at hw4
      change Below w3.heap.size w3 ((w3.alloc (.cells #[.bool ta, .bool tb] 4)).alloc (.cells #[.bool ta] 4)) at b4
      rw [← hw4'] at hf4 hw4 b4
      have W4 := Lib.hid hw4'.symm
      have qa0 : (w3.alloc (.cells #[.bool ta, .bool tb] 4)).cell? ⟨w.heap.size, 0, none⟩ = some (.bool ta) := (World.cell?_alloc_lt _ _ _ (World.block_lt_of_cell? w3 _ a0)).trans a0
      have xr4 := XR3.out.below b4 XR3.out.lt
      have xb4 := XB3.out.below b4 XB3.out.lt
      have xa4 := XA3.out.below b4 XA3.out.lt
      have XR4 := Lib.hid xr4; have XA4 := Lib.hid xa4; have XB4 := Lib.hid xb4; have B4 := Lib.hid (B3.out.trans (b4.mono B3.out.size))
      have hc4 := Hch.out w4 B4.out _ _ hf4 hw4
      have Hc4 := Lib.hid hc4
      clear b4 xr4 xb4 xa4 hf4 hw4 hw4' hc4
      go_wp2_with (rw [W4.out])
      refine Hc4.out.mono ?_
      rintro e w5 ⟨rfl, b5⟩
      have xr5 := XR4.out.below b5 XR4.out.lt
      have xb5 := XB4.out.below b5 XB4.out.lt
      have xa5 := XA4.out.below b5 XA4.out.lt
      have XR5 := Lib.hid xr5; have B5 := Lib.hid (B4.out.trans (b5.mono B4.out.size))
      clear b5 a0 a1 a2 c0 c1 c2 qa0
      by_cases hK : K = 0
      · subst hK
        have HG2 := HG.out.trans (if_neg (by simp))
        subst HG2
        obtain ⟨w6, hw6⟩ : ∃ w6, w6 = w5.alloc (.cells #[.bool ta, .int .i64 na, .string X, .bool tb, .int .i64 nb, .string Y] 32) := ⟨_, rfl⟩
        have b6 : Below w5.heap.size w5 w6 := by rw [hw6]; exact (Below.refl _ _).alloc (Nat.le_refl _) _
        have z6 : w5.heap.size + 1 = w6.heap.size := by rw [hw6]; simp
        have r6 := Hrw.out w5
        rw [← hw6, z6] at r6
        have bb6 := B5.out.trans (b6.mono B5.out.size)
        have hs := Hru.out w6 bb6 (by first | rfl | trivial) (by first | rfl | trivial) (by first | rfl | trivial) _ r6
        have xr6 := xr5.below b6 xr5.lt
        have Hs := Lib.hid hs; have W6 := Lib.hid hw6; have B6 := Lib.hid bb6; have XR6 := Lib.hid xr6
        have HL := Lib.hid (Hln.out (by first | rfl | trivial) (by first | rfl | trivial) (by first | rfl | trivial))
        obtain ⟨a0, a1, a2, -, -, -, -⟩ := xa5
        obtain ⟨c0, c1, c2, -, -, -, -⟩ := xb5
        clear HG Hru Hch hs xr5 r6 b6 bb6 xr6 hw6 z6 Hln
        go_wp2_with (rw [← W6.out])
        refine Hs.out.mono ?_
        rintro e w7 ⟨b7, h7⟩
        have xr7 := XR6.out.below b7 XR6.out.lt
        have XR7 := Lib.hid xr7; have B7 := Lib.hid (B6.out.trans (b7.mono B6.out.size))
        clear b7 a0 a1 a2 c0 c1 c2
        obtain ⟨y0, y1, y2, f0, f1, f2, -⟩ := xr7
        rcases Hof.out with ⟨hE, hN⟩ | ⟨l, m, hE, hN⟩
        · subst hE hN
          dsimp only at h7
          subst h7
          clear Hof Hs HL
          go_wp2
          change bodyPost _ _ _ _ _ (put3 w7 (w.heap.size + 1 + 1) (.bool false) (.int .i64 0) (.string ⟨#[]⟩))
          refine bodyPost_ret (v := .tuple #[vv v0, .int .i64 0, .int .i64 12]) ?_ rfl ⟨rfl, B7.out.trans ((put3_below _ _ _ _ _).mono (by omega))⟩
          have s0 := (put3_box XR7.out (.bool false) (.int .i64 0) (.string ⟨#[]⟩)).c0
          have s1 := (put3_box XR7.out (.bool false) (.int .i64 0) (.string ⟨#[]⟩)).c1
          have s2 := (put3_box XR7.out (.bool false) (.int .i64 0) (.string ⟨#[]⟩)).c2
          simp [results, Tryz.results15, go_sem, s0, s1, s2, v0]
        · subst hE hN
          dsimp only at h7
          obtain ⟨A2, c2, rfl, hr2⟩ := h7
          have hl1' := HL.out rfl
          dsimp only at hl1'
          obtain ⟨bb, o, v, rfl, hb, a0, a1, a2, hv⟩ := vvs_at hr2 (k := 0) (by omega)
          have hG : fst' (l, m, 0) = (v, m, 0) := by
            unfold fst'
            rw [List.getD_eq_getElem?_getD, hv]; rfl
          rw [hl1']
          have HG := Lib.hid hG
          clear hG hl1' HL Hof Hs hr2 hv
          obtain ⟨t, mm, u⟩ := v
          obtain ⟨Z, hZ, -, -, -⟩ := hide_st u
          dsimp only at a0 a1 a2
          simp only [st, ← hZ] at a2
          simp only [Nat.zero_mul, Nat.add_zero] at a0 a1 a2
          have HZ := Lib.hid hZ
          clear hZ
          go_wp2
          change bodyPost _ _ _ _ _ (put3 w7 (w.heap.size + 1 + 1) (.bool t) (.int .i64 mm) (.string Z))
          refine bodyPost_ret (v := .tuple #[vv ⟨t, mm, u⟩, .int .i64 m, .int .i64 0]) ?_ rfl (by rw [HG.out]; exact ⟨rfl, B7.out.trans ((put3_below _ _ _ _ _).mono (by omega))⟩)
          have s0 := (put3_box XR7.out (.bool t) (.int .i64 mm) (.string Z)).c0
          have s1 := (put3_box XR7.out (.bool t) (.int .i64 mm) (.string Z)).c1
          have s2 := (put3_box XR7.out (.bool t) (.int .i64 mm) (.string Z)).c2
          simp [results, Tryz.results15, go_sem, s0, s1, s2, ← HZ.out]
      · have hGN := HG.out.trans (if_pos hK)
        subst hGN
        have e3 : ((K : Int) != 0) = true := by simp; omega
        have e4 : ((K : Int) == 0) = false := by simp; omega
        obtain ⟨y0, y1, y2, f0, f1, f2, -⟩ := xr5
        clear hK HG Hru Hch xa5 xb5 Hln Hof
        go_wp2
        change bodyPost _ _ _ _ _ (put3 w5 (w.heap.size + 1 + 1) (.bool false) (.int .i64 0) (.string ⟨#[]⟩))
        refine bodyPost_ret (v := .tuple #[vv v0, .int .i64 fu, .int .i64 (K : Int)]) ?_ rfl ⟨rfl, B5.out.trans ((put3_below _ _ _ _ _).mono (by omega))⟩
        have s0 := (put3_box XR5.out (.bool false) (.int .i64 0) (.string ⟨#[]⟩)).c0
        have s1 := (put3_box XR5.out (.bool false) (.int .i64 0) (.string ⟨#[]⟩)).c1
        have s2 := (put3_box XR5.out (.bool false) (.int .i64 0) (.string ⟨#[]⟩)).c2
        simp [results, Tryz.results15, go_sem, s0, s1, s2, v0]
end
end Go.Proofs.YtoalncojijmelaaGreatDoor

/-
  The walk of the law EvalFolds.
-/
namespace Go.Proofs.YtoalncojijmelaaGreatDoor
open Go.RowKit Vl Cd Ck

/-- The seven cells of a sum, a value and fuel. -/
structure Sb (w : World) (g : Nat) (v0 v1 v2 v3 v4 v5 v6 : Value) : Prop where
  c0 : w.cell? ⟨g, 0, none⟩ = some v0
  c1 : w.cell? ⟨g, 1, none⟩ = some v1
  c2 : w.cell? ⟨g, 2, none⟩ = some v2
  c3 : w.cell? ⟨g, 3, none⟩ = some v3
  c4 : w.cell? ⟨g, 4, none⟩ = some v4
  c5 : w.cell? ⟨g, 5, none⟩ = some v5
  c6 : w.cell? ⟨g, 6, none⟩ = some v6
  lt : g < w.heap.size
theorem Sb.made (w : World) (T : TypeId) (v0 v1 v2 v3 v4 v5 v6 : Value) : Sb (w.alloc (.cells #[v0, v1, v2, v3, v4, v5, v6] T)) w.heap.size v0 v1 v2 v3 v4 v5 v6 := ⟨by simp, by simp, by simp, by simp, by simp, by simp, by simp, by simp⟩
theorem Sb.below {w w' : World} {g B : Nat} {v0 v1 v2 v3 v4 v5 v6 : Value} (h : Sb w g v0 v1 v2 v3 v4 v5 v6) (hb : Below B w w') (hg : g < B) : Sb w' g v0 v1 v2 v3 v4 v5 v6 := by
  have c : ∀ k, w'.cell? ⟨g, k, none⟩ = w.cell? ⟨g, k, none⟩ := fun k => by unfold World.cell?; rw [hb.block g hg]
  exact ⟨(c 0).trans h.c0, (c 1).trans h.c1, (c 2).trans h.c2, (c 3).trans h.c3, (c 4).trans h.c4, (c 5).trans h.c5, (c 6).trans h.c6, Nat.lt_of_lt_of_le h.lt hb.size⟩
set_option maxRecDepth 100000 in
set_option maxHeartbeats 8000000 in
theorem evalFolds_walk (A : Option Addr) (n c : Nat) (p : List Ins) (a b : V) (fu : Int) (w : World) (hp : Rc 3 w w.heap.size A n c (ics p)) (hn : n ≤ maxLen) (hI : ∀ x ∈ p, I x.op ∧ I x.n) (ia : I a.n) (ib : I b.n) (hfu : I fu) (hG : Gl w) :
    Calls Tryz.prog 4 #[.slice A n c, .agg #[.bool a.t, .int .i64 a.n, st a.s, .bool b.t, .int .i64 b.n, st b.s, .int .i64 fu]] w (RetV w (.bool true)) := by
  obtain ⟨w0, hw0⟩ : ∃ w0, w0 = w.alloc (.cells #[.bool a.t, .int .i64 a.n, st a.s, .bool b.t, .int .i64 b.n, st b.s, .int .i64 fu] 40) := ⟨_, rfl⟩
  have b0 : Below w.heap.size w w0 := by rw [hw0]; exact (Below.refl _ _).alloc (Nat.le_refl _) _
  have s0 : Sb w0 w.heap.size (.bool a.t) (.int .i64 a.n) (st a.s) (.bool b.t) (.int .i64 b.n) (st b.s) (.int .i64 fu) := by rw [hw0]; exact Sb.made _ _ _ _ _ _ _ _ _
  have hp0 := (hp.below b0).more b0.size
  have hg0 := hG.below' b0
  have hs1 := small_c A n c p none 0 0 [] w0 hp0 hn (Rc.nil 1 w0 _) (fun q hq => by cases hq)
  have k1 := fun (W : World) (hb : Below w0.heap.size w0 W) (hn : n ≤ 1000000) (la : a.s.length ≤ 1000000) (lb : b.s.length ≤ 1000000) => fold_c A n c p a b fu W ⟨(hp0.below hb).more hb.size, hn, hI, ia, ib, la, lb, hg0.below' hb⟩ hfu
  have k2 := fun (W : World) (hb : Below w0.heap.size w0 W) (hn : n ≤ 1000000) (la : a.s.length ≤ 1000000) (lb : b.s.length ≤ 1000000) => rFold_c A n c p a b fu W ⟨(hp0.below hb).more hb.size, hn, hI, ia, ib, la, lb, hg0.below' hb⟩ hfu
  have k3 := fun (W : World) (hb : Below w0.heap.size w0 W) => alive_c W (hg0.below' hb)
  generalize foldV p a b fu = O at *
  obtain ⟨⟨t, m, u⟩, n2, e2⟩ := O
  obtain ⟨ta, na, sa⟩ := a
  obtain ⟨tb, nb, sb⟩ := b
  obtain ⟨X, hX, hXs, -, -⟩ := hide_st sa
  obtain ⟨Y, hY, hYs, -, -⟩ := hide_st sb
  obtain ⟨Z, hZ, -, -, -⟩ := hide_st u
  unfold RetT at k1 k2
  dsimp only at hw0 s0 k1 k2 ⊢
  simp only [vv, st, ← hX, ← hY, ← hZ] at hw0 s0 k1 k2 ⊢
  have hXl : sa.length = X.size := hXs.symm
  have hYl : sb.length = Y.size := hYs.symm
  rw [hXl, hYl] at k1 k2
  have W0 := Lib.hid hw0; have B0 := Lib.hid b0; have S0 := Lib.hid s0; have Hs1 := Lib.hid hs1; have K1 := Lib.hid k1; have K2 := Lib.hid k2; have K3 := Lib.hid k3
  clear hw0 b0 s0 hp0 hg0 hs1 k1 k2 k3 hX hY hZ hXs hYs hXl hYl hp hn hI hG hfu ia ib
  go_enter Tryz.func4, Tryz.ntmps4
  go_wp2_with (rw [← W0.out])
  refine Hs1.out.mono ?_
  rintro e w1 ⟨bo, rfl, hb, b1⟩
  have S1 := Lib.hid (S0.out.below b1 S0.out.lt)
  have B1 := Lib.hid b1
  clear b1
  have BAD := Lib.hid (fun (wf : World) (bf : Below w1.heap.size w1 wf) => (show RetV w (.bool true) (.returned (.bool true)) wf from ⟨rfl, B0.out.trans ((B1.out.trans (bf.mono B1.out.size)).mono B0.out.size)⟩))
  cases bo
  · clear hb
    go_wp2_with fail
    refine (K3.out w1 B1.out).mono ?_
    rintro e wf ⟨rfl, bf⟩
    have HF := Lib.hid (BAD.out wf bf)
    clear bf
    go_wp2
    go_ret
    exact HF.out
  obtain ⟨hn, -, -⟩ := hb rfl
  clear hb Hs1
  obtain ⟨c0, c1, c2, c3, c4, c5, c6, hlt⟩ := S1.out
  by_cases h2 : 2000 < X.size
  · have d1 : decide ((2000 : Int) < (X.size : Int)) = true := decide_eq_true (by omega)
    clear h2
    go_wp2_with fail
    refine (K3.out w1 B1.out).mono ?_
    rintro e wf ⟨rfl, bf⟩
    have HF := Lib.hid (BAD.out wf bf)
    clear bf
    go_wp2
    go_ret
    exact HF.out
  have d1 : decide ((2000 : Int) < (X.size : Int)) = false := decide_eq_false (by omega)
  by_cases h3 : 2000 < Y.size
  · have d2 : decide ((2000 : Int) < (Y.size : Int)) = true := decide_eq_true (by omega)
    clear h2 h3
    go_wp2_with fail
    refine (K3.out w1 B1.out).mono ?_
    rintro e wf ⟨rfl, bf⟩
    have HF := Lib.hid (BAD.out wf bf)
    clear bf
    go_wp2
    go_ret
    exact HF.out
  have d2 : decide ((2000 : Int) < (Y.size : Int)) = false := decide_eq_false (by omega)
  have j1 := fun W hb => K1.out W hb (by omega) (by omega) (by omega)
  have j2 := fun W hb => K2.out W hb (by omega) (by omega) (by omega)
  have K1 := Lib.hid j1; have K2 := Lib.hid j2
  clear h2 h3 j1 j2 BAD
  go_wp2_with fail
  refine (K1.out w1 B1.out).mono ?_
  rintro e w2 ⟨rfl, b2⟩
  obtain ⟨w3, hw3⟩ : ∃ w3, w3 = w2.alloc (.cells #[.bool t, .int .i64 m, .string Z] 32) := ⟨_, rfl⟩
  have b3 : Below w2.heap.size w2 w3 := by rw [hw3]; exact (Below.refl _ _).alloc (Nat.le_refl _) _
  have x3 : Bx w3 w2.heap.size (.bool t) (.int .i64 m) (.string Z) := by rw [hw3]; exact Bx.made _ _ _ _ _
  have bb2 := B1.out.trans (b2.mono B1.out.size)
  have bb13 := b2.trans (b3.mono b2.size)
  have S3 := Lib.hid (S1.out.below bb13 S1.out.lt)
  have B3 := Lib.hid (bb2.trans (b3.mono bb2.size)); have W3 := Lib.hid hw3; have X3 := Lib.hid x3
  clear b2 b3 bb2 bb13 hw3 x3 c0 c1 c2 c3 c4 c5 c6 hlt
  obtain ⟨c0, c1, c2, c3, c4, c5, c6, hlt⟩ := S3.out
  dsimp only
  go_wp2_with (rw [← W3.out])
  refine (K2.out w3 B3.out).mono ?_
  rintro e w4 ⟨rfl, b4⟩
  obtain ⟨w5, hw5⟩ : ∃ w5, w5 = w4.alloc (.cells #[.bool t, .int .i64 m, .string Z] 32) := ⟨_, rfl⟩
  have b5 : Below w4.heap.size w4 w5 := by rw [hw5]; exact (Below.refl _ _).alloc (Nat.le_refl _) _
  have x5 : Bx w5 w4.heap.size (.bool t) (.int .i64 m) (.string Z) := by rw [hw5]; exact Bx.made _ _ _ _ _
  have bb4 := B3.out.trans (b4.mono B3.out.size)
  have bb35 := b4.trans (b5.mono b4.size)
  have X3 := Lib.hid (X3.out.below bb35 X3.out.lt)
  have B5 := Lib.hid (bb4.trans (b5.mono bb4.size)); have W5 := Lib.hid hw5; have X5 := Lib.hid x5
  clear b4 b5 bb4 bb35 hw5 x5 c0 c1 c2 c3 c4 c5 c6 hlt
  dsimp only
  go_wp2_with (rw [← W5.out])
  refine (K3.out w5 B5.out).mono ?_
  rintro e w6 ⟨rfl, b6⟩
  have x3 := X3.out.below b6 X3.out.lt
  have x5 := X5.out.below b6 X5.out.lt
  have B6 := Lib.hid (B5.out.trans (b6.mono B5.out.size))
  obtain ⟨c0, c1, c2, -, -, -, -⟩ := x3
  obtain ⟨d0, d1, d2, -, -, -, -⟩ := x5
  clear b6
  go_wp2
  go_ret
  exact ⟨by first | rfl | simp, B0.out.trans (B6.out.mono B0.out.size)⟩
end Go.Proofs.YtoalncojijmelaaGreatDoor
