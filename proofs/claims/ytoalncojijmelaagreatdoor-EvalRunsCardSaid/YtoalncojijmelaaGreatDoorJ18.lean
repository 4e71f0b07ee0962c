/-
  Joined: Ef Eg Eh Ei Ej El Em En Ek.
-/
import Derived.Test.YtoalncojijmelaaGreatDoorJ17
import Derived.Deep.RegionHeld3
import Derived.Deep.Cut
import Derived.Test.YtoalncojijmelaaGreatDoorJ11
import Derived.Test.YtoalncojijmelaaGreatDoorJ7
/-
  The action that operates.
-/
namespace Go.Proofs.YtoalncojijmelaaGreatDoor
open Go.RowKit Vl Cd Ck

theorem region_via {α : Type} {P : Program} {id : Nat} {ops : Array Oper} {dr : Bool} {a : Act} {w : World} {Q : Exit → Act → World → Prop} (F : α → Act → Act) (Φ : α → World → Prop)
    (h1 : (Code.region id ops dr).wp P (fun e a' w' => e = Exit.normal ∧ ∃ x, a' = F x a ∧ Φ x w') a w) (h2 : ∀ x w', Φ x w' → Q Exit.normal (F x a) w') : (Code.region id ops dr).wp P Q a w :=
  Code.wp_mono (fun e a' w' ⟨he, x, ha, hp⟩ => by subst he ha; exact h2 x w' hp) h1
theorem Bx.drewN {w : World} {g : Nat} {v0 v1 v2 : Value} (h : Bx w g v0 v1 v2) (k : Nat) : Bx (w.drewN k) g v0 v1 v2 := ⟨h.c0, h.c1, h.c2, h.f0, h.f1, h.f2, h.lt⟩
theorem op_end {w w1 w4 : World} {g B : Nat} {R : Value} {a b : V} {fu : Int} {s : List V} {v : V} {A A4 : Option Addr} {n r c c4 : Nat} (hl : s.length = r) (hm : Mc w g R a b (.int .i64 fu) (.slice A n c)) (ho : Oc 3 w 32 B A r c (vvs s)) (hgB : g < B) (hBs : B ≤ w.heap.size)
    (hb : Below w.heap.size w w1) (hown4 : Oc 3 w4 32 B A4 (r + 1) c4 (vvs (s ++ [v]))) (hg4 : Grows w1 w4 A A4) :
    RetM w g B R a b fu (s ++ [v]) (.returned (.tuple #[])) (w4.setCell ⟨g, 8, none⟩ (.slice A4 (r + 1) c4)) := by
  have e : (s ++ [v]).length = r + 1 := by simp [hl]
  have hm4 := ((hm.below hb hm.lt).grows hg4 (oc_low (ho.mono hgB))).set8 (.slice A4 (r + 1) c4)
  have hB1 : B ≤ w1.heap.size := Nat.le_trans hBs hb.size
  refine ⟨rfl, ⟨A4, c4, by rw [e]; exact hm4, by rw [e]; exact oc_setLow hown4 hgB _, hgB, by have := hg4.size; simp; omega⟩, ((Xg.of (hb.mono hBs) hgB).trans (Xg.of (hg4.belowC (ho.keep hb) hB1) hgB)).set _ _⟩
set_option maxRecDepth 100000 in
set_option maxHeartbeats 4000000 in
theorem operate_c (x : Ins) (g B : Nat) (R : Value) (a b : V) (fu : Int) (s : List V) (w : World) (h : Mac w g B R a b fu s) (hs : s.length ≤ 30) (hk : ar x.op ≤ s.length) (hI : ∀ v ∈ s, I v.n) (hG : Gl w) :
    Calls Tryz.prog 47 #[iv x, .pointer (some ⟨g, 0, none⟩)] w (RetM w g B R a b fu (s.take (s.length - ar x.op) ++ [(doV x.op (tp s x.op)).1])) := by
  have hlt := h.lt
  obtain ⟨A, c, hm, ho, hgB, hBs⟩ := h
  have hr := (ho.rc.from_ (k := s.length - ar x.op) (by omega))
  rw [vvs_drop] at hr
  have htop := fun W (hb : Below w.heap.size w W) => top_c g R a b (.int .i64 fu) A s.length c (ar x.op) W (hm.below hb hlt) (by omega) hk
  have hdo := fun W (hb : Below w.heap.size w W) => pDo_c x.op _ _ _ (tp s x.op) W (hG.below' hb) ((hr.below hb).more hb.size) (by omega) (fun v hv => hI v (List.mem_of_mem_drop hv))
  have har := fun W => pArity_c x.op W
  obtain ⟨rv, hrv⟩ : ∃ rv, rv = (doV x.op (tp s x.op)).1 := ⟨_, rfl⟩
  obtain ⟨re, hre⟩ : ∃ re, re = (doV x.op (tp s x.op)).2 := ⟨_, rfl⟩
  have hdo := fun W hb => (show Calls Tryz.prog _ _ W (fun e w' => e = .returned (.tuple #[vv rv, .int .i64 (re : Int)]) ∧ Below W.heap.size W w') from by rw [hrv, hre]; exact hdo W hb)
  rw [← hrv]
  obtain ⟨k, hk'⟩ : ∃ k, k = ar x.op := ⟨_, rfl⟩
  rw [← hk'] at htop hdo har hk ⊢
  obtain ⟨A1, hA1⟩ : ∃ A1, A1 = (if c = s.length - k then A else A.map (·.add ((s.length - k) * 3))) := ⟨_, rfl⟩
  obtain ⟨n1, hn1⟩ : ∃ n1, n1 = s.length - (s.length - k) := ⟨_, rfl⟩
  obtain ⟨d1, hd1⟩ : ∃ d1, d1 = c - (s.length - k) := ⟨_, rfl⟩
  rw [← hA1, ← hn1, ← hd1] at htop hdo
  obtain ⟨op, nn, t⟩ := x
  obtain ⟨X, hX, -, -, -⟩ := hide_st t
  dsimp only at har htop hdo hk
  simp only [iv, st, ← hX]
  obtain ⟨w1, hw1⟩ : ∃ w1, w1 = w.alloc (.cells #[.int .i64 op, .int .i64 nn, .string X] 65) := ⟨_, rfl⟩
  have b1 : Below w.heap.size w w1 := by rw [hw1]; exact (Below.refl _ _).alloc (Nat.le_refl _) _
  have x1 : Bx w1 w.heap.size (.int .i64 op) (.int .i64 nn) (.string X) := by rw [hw1]; exact Bx.made _ _ _ _ _
  obtain ⟨vt, vn, vs⟩ := rv
  obtain ⟨Y, hY, -, -, -⟩ := hide_st vs
  simp only [vv, st, ← hY] at hdo
  have W1 := Lib.hid hw1; have B1 := Lib.hid b1; have X1 := Lib.hid x1; have Har := Lib.hid har; have Htop := Lib.hid htop; have Hdo := Lib.hid hdo; have HM := Lib.hid hm; have HO := Lib.hid ho; have HY := Lib.hid hY
  obtain ⟨c0, c1, c2, -, -, -, -⟩ := x1
  clear hw1 b1 hX hY har htop hdo hr hm ho hA1 hn1 hd1 hrv hre hk' hI hG
  go_enter Tryz.func47, Tryz.ntmps47
  go_wp2_with (rw [← W1.out])
  refine (Har.out w1).mono ?_
  rintro e w2 ⟨rfl, b2⟩
  have x2 := X1.out.below b2 X1.out.lt
  have B2 := Lib.hid (B1.out.trans (b2.mono B1.out.size))
  clear b2 c0 c1 c2
  obtain ⟨c0, c1, c2, -, -, -, xlt⟩ := x2
  go_upto_region 2 with (fail)
  have ea := World.new_ne w2 _ c0
  refine region_via (α := Nat) (fun gp a => Act.put (Act.put (Act.put (Act.put (Act.put (Act.put (Act.put (Act.put (Act.put (Act.put (Act.put (a) (some 11) (.pointer (some ⟨w.heap.size, 0, none⟩))) (some 12) (.int .i64 op)) (some 13) (.pointer (some ⟨g, 0, none⟩))) (some 14) (.int .i64 (k : Int))) (some 15) (.slice A1 n1 d1)) (some 16) (.tuple #[.agg #[.bool vt, .int .i64 vn, .string Y], .int .i64 (re : Int)])) (some 10) (.tuple #[.agg #[.bool vt, .int .i64 vn, .string Y], .int .i64 (re : Int)])) (some 17) (.agg #[.bool vt, .int .i64 vn, .string Y])) (some 18) (.int .i64 (re : Int))) (some 5) (.pointer (some ⟨gp, 0, none⟩))) (some 6) (.int .i64 (re : Int))) (fun gp w' => Bx w' gp (.bool vt) (.int .i64 vn) (.string Y) ∧ Below w.heap.size w w') ?_ ?_
  · go_region_held3 (fun w' => w'.cell? ⟨w.heap.size, 0, none⟩ = some (.int .i64 op)) (go_keep)
      (first | (go_at_call 39; refine (Htop.out _ (by first | exact below_drewN B2.out 1 | exact below_drewN B2.out _ | exact below_drewN (B2.out.trans ((Below.refl _ _).alloc B2.out.size _)) 1 | exact below_drewN (B2.out.trans ((Below.refl _ _).alloc B2.out.size _)) _)).mono ?_; rintro e w4 ⟨rfl, j, rfl⟩)
             | (go_at_call 58; refine (Hdo.out _ (by first | exact below_drewN B2.out 1 | exact below_drewN B2.out _ | exact below_drewN (B2.out.trans ((Below.refl _ _).alloc B2.out.size _)) 1 | exact below_drewN (B2.out.trans ((Below.refl _ _).alloc B2.out.size _)) _)).mono ?_; rintro e w5 ⟨rfl, b5⟩; have BB := Lib.hid (show Below w.heap.size w w5 from by first | exact (below_drewN B2.out _).trans (b5.mono (by simpa using B2.out.size)) | exact (below_drewN (B2.out.trans ((Below.refl _ _).alloc B2.out.size _)) _).trans (b5.mono (by have := B2.out.size; simp; omega))); have e5 : w5.cell? ⟨w.heap.size, 0, none⟩ = some (.int .i64 op) := (b5.cell (p := ⟨w.heap.size, 0, none⟩) (by simp; omega)).trans (by first | exact c0 | exact (World.cell?_alloc_lt _ _ _ xlt).trans c0); have eb := World.new_ne w5 _ e5; (first | (have y5 := Bx.below (Bx.drewN (Bx.made w2 32 (.bool false) (.int .i64 0) (.string ⟨#[]⟩)) _) b5 (by simp); have Y5 := Lib.hid y5; obtain ⟨k0, k1, k2, l0, l1, l2, kl⟩ := y5) | skip)))
    all_goals
      first
        | (refine ⟨rfl, w2.heap.size, (by first | rfl | simp only [Act.put, List.setIfInBounds_toArray, List.set_cons_zero, List.set_cons_succ]), ?_, ?_⟩
           · exact put3_box Y5.out _ _ _
           · exact BB.out.trans ((put3_below _ _ _ _ _).mono B2.out.size))
        | (refine ⟨rfl, w5.heap.size, (by first | rfl | simp only [Act.put, List.setIfInBounds_toArray, List.set_cons_zero, List.set_cons_succ]), Bx.made _ _ _ _ _, ?_⟩
           exact BB.out.trans ((Below.refl _ _).alloc BB.out.size _))
  · rintro gp w6 ⟨x6, hb6⟩
    try simp only [Act.put, List.setIfInBounds_toArray, List.set_cons_zero, List.set_cons_succ]
    have m6 := HM.out.below hb6 hlt
    have hlt6 := m6.lt
    have hB6 := Nat.le_trans hBs hb6.size
    obtain ⟨x0, x1, x2, -, -, -, xl⟩ := x6
    obtain ⟨-, -, -, -, -, -, -, -, c8, -, f8, -⟩ := m6
    have o6 := (HO.out.keep hb6).upto (k := s.length - k) (by omega)
    rw [vvs_take] at o6
    obtain ⟨w7, hw7⟩ : ∃ w7, w7 = (w6.alloc (.cells #[.bool vt, .int .i64 vn, .string Y] 32)).drewN 1 := ⟨_, rfl⟩
    have b7 : Below w.heap.size w w7 := by rw [hw7]; exact below_drewN (hb6.trans ((Below.refl _ _).alloc hb6.size _)) 1
    have r7 : Rc 3 ((w6.alloc (.cells #[.bool vt, .int .i64 vn, .string Y] 32)).drewN 1) (w6.heap.size + 1) (some ⟨w6.heap.size, 0, none⟩) 1 1 (vvs [⟨vt, vn, vs⟩]) := by
      have q := (Rc.lit (z := 3) w6 32 #[.bool vt, .int .i64 vn, .string Y] 1 rfl (by simp [maxLen])).drewN 1
      have e : vvs [⟨vt, vn, vs⟩] = [.bool vt, .int .i64 vn, .string Y] := by rw [HY.out]; rfl
      rw [e]
      exact q
    have ho0 := HO.out.upto (k := s.length - k) (by omega)
    rw [vvs_take] at ho0
    have HE := Lib.hid (fun (A4 : Option Addr) (c4 : Nat) (w4 : World) h1 h2 => op_end (v := ⟨vt, vn, vs⟩) (A4 := A4) (c4 := c4) (w4 := w4) (w1 := w7) (show (s.take (s.length - k)).length = s.length - k by rw [List.length_take]; omega) HM.out ho0 hgB hBs b7 h1 h2)
    have M7 := Lib.hid (HM.out.below b7 hlt)
    rw [hw7] at HE M7
    have hcut := Sl.upto vty A s.length c (s.length - k) (by omega) HO.out.rc.2.1 ((s.length : Int) - (k : Int)) (by omega)
    have e1 : IntKind.i64.wrap ((s.length : Int) - (k : Int)) = (s.length : Int) - (k : Int) := IntWalk.i64_in _ (by omega)
    have O6 := Lib.hid o6; have R7 := Lib.hid r7
    have hr30 : s.length - k ≤ 30 := by omega
    clear hw7 hb6 o6 b7 r7 ho0 ea c0 c1 c2 Htop Hdo Har HY
    generalize s.length - k = r at *
    generalize s.take r = s' at *
    go_wp2_with fail
    go_region_law (refine Sl.stepAppAt vty (by rfl) (.tmp 31) (.tmp 33) rfl (n := r) (m := 1) (N := r + 1) (ws := vvs (s' ++ [⟨vt, vn, vs⟩])) rfl rfl (base := B) ((O6.out.alloc _).drewN 1) R7.out (vvs_one _) rfl (vvs_app _ _).symm (by omega) (by omega) (by simp; omega) ?_; intro A4 c4 w8 hown8 hg8; obtain ⟨-, -, -, -, -, -, -, -, k8, -, l8, hlt8⟩ := M7.out.grows hg8 (oc_low (HO.out.mono hgB)))
    all_goals (
      have Hf := Lib.hid (HE.out A4 c4 w8 hown8 hg8)
      clear hown8 hg8 k8 l8
      go_wp2
      go_end0
      exact Hf.out)
end Go.Proofs.YtoalncojijmelaaGreatDoor

/-
  Whatever an instruction's action is: the machine's step; the machine's execution.
-/
namespace Go.Proofs.YtoalncojijmelaaGreatDoor
open Go.RowKit Vl Cd Ck

theorem may_text {x : Ins} (h : x.op = 1) (hm : may x = true) : x.s.length ≤ 1000000 := by
  unfold may at hm
  rw [if_neg (by omega), if_pos h] at hm
  simp at hm; omega
theorem nx_push {r : List (List UInt8)} {fo s : List V} {x : Ins} {v : V} (h0 : ar x.op = 0) (hv : vx r fo s x = v) : nx r fo s x = s ++ [v] := by
  unfold nx
  rw [h0, Nat.sub_zero, List.take_length, hv]
theorem act_c (x : Ins) (g B : Nat) (RA : Option Addr) (rn rc : Nat) (r : List (List UInt8)) (a b : V) (fo : List V) (fu : Int) (s : List V) (w : World) (hr : Rc 1 w g RA rn rc (lvs r)) (hz : ∀ q ∈ r, q.length ≤ 1000000) (hfo : fo = [] ∨ fo = [a, b])
    (hst : (stp (fo.map (·.t)) (s.map (·.t)) x).2 = 0) (hI : ∀ v ∈ s, I v.n) (hs : s.length ≤ 30) (hG : Gl w) (h : Mac w g B (.slice RA rn rc) a b fu s) :
    Calls Tryz.prog (actN x.op) #[iv x, .pointer (some ⟨g, 0, none⟩)] w (RetM w g B (.slice RA rn rc) a b fu (nx r fo s x)) := by
  obtain ⟨hm, hf, hc⟩ := stp_ok hst
  obtain ⟨o1, o2⟩ := may_ops hm
  unfold actN
  by_cases q0 : x.op = 0
  · rw [if_pos q0, nx_push (v := num x.n) (by rw [q0]; rfl) (by unfold vx; rw [if_pos q0])]
    exact pushNum_c x g B _ a b fu s w h hs
  rw [if_neg q0]
  by_cases q1 : x.op = 1
  · rw [if_pos q1, nx_push (v := txt x.s) (by rw [q1]; rfl) (by unfold vx; rw [if_neg q0, if_pos q1])]
    exact pushText_c x g B _ a b fu s w (may_text q1 hm) h hs
  rw [if_neg q1]
  by_cases q2 : x.op = 2
  · rw [if_pos q2, nx_push (v := fld r x.n) (by rw [q2]; rfl) (by unfold vx; rw [if_neg q0, if_neg q1, if_pos q2])]
    exact pushField_c x g B RA rn rc r a b fu s w (may_fld q2 hm).1 hz hr h hs
  rw [if_neg q2]
  by_cases q3 : x.op = 3
  · rw [if_pos q3, nx_push (v := num r.length) (by rw [q3]; rfl) (by unfold vx; rw [if_neg q0, if_neg q1, if_neg q2, if_pos q3])]
    exact pushCount_c x g B RA rn rc r a b fu s w hr h hs
  rw [if_neg q3]
  have hfo2 : 22 ≤ x.op → fo = [a, b] := fun q => by
    rcases hfo with e | e
    · exact absurd (by rw [e]; rfl) (hf q)
    · exact e
  by_cases q22 : x.op = 22
  · rw [if_pos q22, nx_push (v := a) (by rw [q22]; rfl) (by unfold vx; rw [if_neg q0, if_neg q1, if_neg q2, if_neg q3, if_pos (by omega), hfo2 (by omega), q22]; rfl)]
    exact pushSum_c x g B _ a b fu s w h hs
  rw [if_neg q22]
  by_cases q23 : x.op = 23
  · rw [if_pos q23, nx_push (v := b) (by rw [q23]; rfl) (by unfold vx; rw [if_neg q0, if_neg q1, if_neg q2, if_neg q3, if_pos (by omega), hfo2 (by omega), q23]; rfl)]
    exact pushItem_c x g B _ a b fu s w h hs
  rw [if_neg q23]
  have e : nx r fo s x = s.take (s.length - ar x.op) ++ [(doV x.op (tp s x.op)).1] := by
    unfold nx vx
    rw [if_neg q0, if_neg q1, if_neg q2, if_neg q3, if_neg (by omega)]
  rw [e]
  refine operate_c x g B _ a b fu s w h hs ?_ hI hG
  rcases hc with ⟨hc, _⟩ | ⟨_, hc, _⟩
  · rw [hc]; omega
  · rw [List.length_map] at hc; exact hc
theorem ar_fits {f : List Bool} {s : List V} {x : Ins} (h : (stp f (s.map (·.t)) x).2 = 0) : ar x.op ≤ s.length := by
  obtain ⟨-, -, hc⟩ := stp_ok h
  rcases hc with ⟨hc, _⟩ | ⟨_, hc, _⟩
  · rw [hc]; omega
  · rw [List.length_map] at hc; exact hc

/-- What execute comes to. -/
def RetX (w : World) (g B : Nat) (R : Value) (a b : V) (G : Option (List V × Int)) (e : Ending) (w' : World) : Prop :=
  Xg g B w w' ∧ match G with
  | none => e = .returned (.int .i64 12) ∧ Mac w' g B R a b 0 []
  | some (l, n) => e = .returned (.int .i64 0) ∧ Mac w' g B R a b n l
def ExRelV (w : World) (g B n : Nat) (R : Value) (a b : V) (r : List (List UInt8)) (fo : List V) (p : List Ins) (G : Option (List V × Int)) (F : Int) (i : Value) (wr : World) : Prop :=
  ∃ (k : Nat) (s : List V) (fu : Int), k ≤ n ∧ i = .int .i64 (k : Int) ∧ Hid (ev r fo s fu (p.drop k) = G) ∧ Hid ((rn (fo.map (·.t)) (s.map (·.t)) k (p.drop k)).2.2 = 0) ∧ Hid (Mac wr g B R a b fu s) ∧ Hid (Xg g B w wr) ∧ Hid (s.length ≤ 30 ∧ s.all isV = true ∧ ∀ v ∈ s, I v.n) ∧ Hid (fu ≤ F ∧ I fu)
theorem fo_len {a b : V} {fo : List V} (h : fo = [] ∨ fo = [a, b]) : fo.length = 0 ∨ fo.length = 2 := by
  rcases h with rfl | rfl <;> simp
set_option maxRecDepth 100000 in
set_option maxHeartbeats 4000000 in
theorem mexec_c (A : Option Addr) (n c : Nat) (p : List Ins) (g B : Nat) (RA : Option Addr) (rm rc : Nat) (r : List (List UInt8)) (a b : V) (fo : List V) (fu : Int) (w : World) (hp : Rc 3 w g A n c (ics p)) (hn : n ≤ 1000000) (hpI : ∀ x ∈ p, I x.n) (hr : Rc 1 w g RA rm rc (lvs r)) (hrl : rm ≤ 1000000) (hz : ∀ q ∈ r, q.length ≤ 1000000)
    (hfo : fo = [] ∨ fo = [a, b]) (hfv : fo.all isV = true) (hfI : ∀ v ∈ fo, I v.n) (hok : (rn (fo.map (·.t)) [] 0 p).2.2 = 0) (hfu : I fu) (hG : Gl w) (hg1 : 1 < g) (h : Mac w g B (.slice RA rm rc) a b fu []) :
    Calls Tryz.prog 18 #[.pointer (some ⟨g, 0, none⟩), .slice A n c] w (RetX w g B (.slice RA rm rc) a b (ev r fo [] fu p)) := by
  have hpl := ics_num hp
  have hrl2 : r.length ≤ 1000000 := by have := hr.1; rw [lvs_length] at this; omega
  obtain ⟨G, hGG⟩ : ∃ G, G = ev r fo [] fu p := ⟨_, rfl⟩
  rw [← hGG]
  have HG := Lib.hid (show ev r fo [] fu (p.drop 0) = G from hGG.symm)
  have HK := Lib.hid (show (rn (fo.map (·.t)) (([] : List V).map (·.t)) 0 (p.drop 0)).2.2 = 0 from hok)
  have HP := Lib.hid hp; have HI := Lib.hid hpI; have HR := Lib.hid hr; have HZ := Lib.hid hz; have HF := Lib.hid hfo; have HFV := Lib.hid hfv; have HFI := Lib.hid hfI; have HL := Lib.hid hG; have HS := Lib.hid h; have Hpl := Lib.hid hpl; have HRL := Lib.hid hrl2; have HU := Lib.hid (And.intro (Int.le_refl fu) hfu)
  clear hp hpI hr hz hfo hfv hfI hG h hpl hrl2 hok hGG hfu hrl
  go_enter Tryz.func18, Tryz.ntmps18
  go_wp2
  go_loopw [11] (fun i wr => ExRelV w g B n (.slice RA rm rc) a b r fo p G fu i wr) (fun i _ => n - (intOf i).toNat)
  case atStart => exact ⟨0, [], fu, Nat.zero_le _, rfl, HG, HK, HS, Lib.hid (Xg.refl _ _ _), Lib.hid ⟨by simp, rfl, fun v hv => by cases hv⟩, HU⟩
  case round =>
    obtain ⟨k, s, f2, hk, rfl, Hg, Hk, Hs, Hb, Hv, Hf2⟩ := hrel
    by_cases hlt : k < n
    · obtain ⟨bb, o, x, rfl, hb, a0, a1, a2, hx⟩ := ics_at (HP.out.below Hb.out.1) hlt
      have hcons : p.drop k = x :: p.drop (k + 1) := drop_cons' Hpl.out hlt hx
      have hg := Hg.out
      have hkk := Hk.out
      rw [hcons] at hg hkk
      obtain ⟨h0, h1⟩ := rn_ok hkk
      obtain ⟨n1, n2, n3, n4⟩ := nx_kind (r := r) Hv.out.2.1 HFV.out (fo_len HF.out) h0
      have hxm : x ∈ p := List.mem_of_getElem? hx
      have n5 := nx_I (r := r) (fo := fo) HRL.out (HI.out x hxm) Hv.out.2.1 Hv.out.2.2 HFI.out
      have n6 : (nx r fo s x).length ≤ 30 := by
        have := stp_len (f := fo.map (·.t)) (s := s.map (·.t)) (x := x) (by rw [List.length_map]; exact Hv.out.1)
        rw [← n2, List.length_map] at this
        exact this
      rw [← n2] at h1
      have hc47 := cst_le x.op Hv.out.2.1
      have hc1 := cst_pos s x.op
      obtain ⟨w7, hw7⟩ : ∃ w7, w7 = wr.alloc (.cells #[.int .i64 x.op, .int .i64 x.n, st x.s] 44) := ⟨_, rfl⟩
      have b7 : Below wr.heap.size wr w7 := by rw [hw7]; exact (Below.refl _ _).alloc (Nat.le_refl _) _
      have x7 : Bx w7 wr.heap.size (.int .i64 x.op) (.int .i64 x.n) (st x.s) := by rw [hw7]; exact Bx.made _ _ _ _ _
      have hs7 := Hs.out.below b7
      have hgw := Hs.out.lt
      have hgB := Hs.out.lo.1
      have hb7 := Hb.out.trans (Xg.of (b7.mono Hs.out.lo.2) hgB)
      have hz7 : ∀ v ∈ s, v.s.length ≤ 1000 := fun v hv => isV_len (List.all_eq_true.1 Hv.out.2.1 v hv)
      have hB7 := hs7.lo.2
      obtain ⟨A7, c7, hm7, ho7, -, -⟩ := hs7
      have hco := costOf_c x g (.slice RA rm rc) a b (.int .i64 f2) A7 s.length c7 s w7 hm7 ho7.rc (by have := Hv.out.1; omega) n3 hz7
      have hac := fun (W : World) (hb' : Xg g B w W) (fu' : Int) (hM : Mac W g B (.slice RA rm rc) a b fu' s) => act_c x g B RA rm rc r a b fo fu' s W (HR.out.below hb'.1) HZ.out HF.out h0 Hv.out.2.2 Hv.out.1 (HL.out.below hb'.1 hg1) hM
      have haf := fun W => action_c x W
      have hen := actN_enter x.op
      have hgo := fun hq => (ev_go (r := r) (fo := fo) (s := s) (g := f2) (x := x) (p.drop (k + 1)) hq).symm.trans hg
      have hgs := fun hq => (ev_stop (r := r) (fo := fo) (s := s) (g := f2) (x := x) (p.drop (k + 1)) hq).symm.trans hg
      obtain ⟨C, hC⟩ : ∃ C, C = cst s x.op := ⟨_, rfl⟩
      rw [← hC] at hco hgo hgs hc47 hc1
      obtain ⟨an, han⟩ : ∃ an, an = actN x.op := ⟨_, rfl⟩
      rw [← han] at hac haf hen
      generalize nx r fo s x = s2 at *
      obtain ⟨op, nn, t⟩ := x
      obtain ⟨X, hX, -, -, -⟩ := hide_st t
      dsimp only at a0 a1 a2 hw7 x7
      unfold st at a2 hw7 x7
      rw [← hX] at a2 hw7 x7
      simp only [iv, st, ← hX] at hco hac haf
      have hlt7 := hm7.lt
      have W7 := Lib.hid hw7; have X7 := Lib.hid x7; have B7 := Lib.hid hb7; have M7 := Lib.hid (show Mac w7 g B (.slice RA rm rc) a b f2 s from ⟨A7, c7, hm7, ho7, hgB, hB7⟩)
      have Hco := Lib.hid hco; have Hac := Lib.hid hac; have Haf := Lib.hid haf; have Hgo := Lib.hid hgo; have Hgs := Lib.hid hgs; have H1 := Lib.hid h1; have N5 := Lib.hid (And.intro n6 (And.intro n1 n5)); have Hen := Lib.hid hen
      obtain ⟨c0, c1, c2, -, -, -, -⟩ := x7
      clear hw7 b7 hb7 hco hac haf hgo hgs h1 h0 n1 n2 n3 n4 n5 n6 hz7 hm7 ho7 hg hkk hcons hx hxm hX hC han hen
      go_wp2_with (rw [← W7.out])
      refine Hco.out.mono ?_
      rintro e w8 ⟨rfl, b8⟩
      have x8 := X7.out.below b8 X7.out.lt
      have B8 := Lib.hid (B7.out.trans (Xg.of (b8.mono hB7) hgB)); have m8 := M7.out.below b8
      have X8 := Lib.hid x8
      have Bw8 := Lib.hid b8.size
      clear b8 c0 c1 c2
      obtain ⟨A8, c8', hm8, ho8, -, hB8⟩ := m8
      have M8 := Lib.hid (And.intro hm8 ho8)
      obtain ⟨-, -, -, -, -, -, -, c7, c8, f7, f8, hlt8⟩ := hm8
      obtain ⟨c0, c1, c2, -, -, -, xlt⟩ := x8
      clear ho8
      by_cases hfc : f2 < (C : Int)
      · have d1 : decide (f2 < (C : Int)) = true := decide_eq_true hfc
        have hGn := Hgs.out hfc
        have HF2 := Lib.hid (show RetX w g B (.slice RA rm rc) a b G (.returned (.int .i64 12)) ((w8.setCell ⟨g, 7, none⟩ (.int .i64 0)).setCell ⟨g, 8, none⟩ (.slice none 0 0)) from by
          rw [← hGn]
          exact ⟨(B8.out.set _ _).set _ _, rfl, none, 0, (M8.out.1.set7 _).set8 _, Oc.nil 3 _ _ _, hgB, by simpa using hB8⟩)
        have m9 := M8.out.1.set7 (.int .i64 0)
        obtain ⟨-, -, -, -, -, -, -, -, k8, -, l8, -⟩ := m9
        clear hGn hfc
        go_wp2
        go_ret
        exact HF2.out
      · have d1 : decide (f2 < (C : Int)) = false := decide_eq_false hfc
        have hIf := Hf2.out.2
        have e1 : IntKind.i64.wrap (f2 - (C : Int)) = f2 - (C : Int) := IntWalk.i64_in _ (by unfold I at hIf; omega)
        have HI3 := Lib.hid (show f2 - (C : Int) ≤ fu ∧ I (f2 - (C : Int)) from ⟨by have := Hf2.out.1; omega, by unfold I at hIf ⊢; omega⟩)
        have h2 := Lib.hid (Hgo.out (by omega))
        obtain ⟨w9, hw9⟩ : ∃ w9, w9 = w8.setCell ⟨g, 7, none⟩ (.int .i64 (f2 - (C : Int))) := ⟨_, rfl⟩
        have m9 := M8.out.1.set7 (.int .i64 (f2 - (C : Int)))
        have o9 := oc_setLow M8.out.2 (p := ⟨g, 7, none⟩) hgB (.int .i64 (f2 - (C : Int)))
        have B9 := Lib.hid (show Xg g B w w9 by rw [hw9]; exact B8.out.set _ _)
        have x9 := X8.out.keep (w' := w9) (by rw [hw9]; simp) (by rw [hw9]; exact Below.heap_setCell _ _ _ _ (show wr.heap.size ≠ g by omega))
        rw [← hw9] at m9 o9
        have M9 := Lib.hid (show Mac w9 g B (.slice RA rm rc) a b (f2 - (C : Int)) s from ⟨_, _, m9, o9, hgB, by rw [hw9]; simpa using hB8⟩)
        have W9 := Lib.hid hw9
        have hlt9 := m9.lt
        clear hw9 hfc hIf m9 o9 c0 c1 c2
        obtain ⟨c0, c1, c2, -, -, -, -⟩ := x9
        go_wp2_with (rw [← W9.out])
        refine (Haf.out w9).mono ?_
        rintro e w10 ⟨rfl, b10⟩
        have B10 := Lib.hid (B9.out.trans (Xg.of (b10.mono M9.out.lo.2) hgB)); have M10 := Lib.hid (M9.out.below b10)
        have hen := Hen.out
        clear b10 c0 c1 c2
        go_wp2_with fail
        refine (Hac.out w10 B10.out (f2 - (C : Int)) M10.out).mono ?_
        rintro e w11 ⟨rfl, m11, b11⟩
        have B11 := Lib.hid (B10.out.trans b11); have M11 := Lib.hid m11
        clear b11 m11 hen
        go_wp2
        go_roundw
        case rel => exact ⟨k + 1, s2, f2 - (C : Int), hlt, by go_num, h2, H1, M11, B11, N5, HI3⟩
        case measure => simp [intOf]; omega
    · obtain rfl : k = n := by omega
      have hg := Hg.out
      rw [List.drop_of_length_le (by rw [Hpl.out]; exact Nat.le_refl _), ev_nil] at hg
      have HE := Lib.hid (show RetX w g B (.slice RA rm rc) a b G (.returned (.int .i64 0)) wr from by
        rw [← hg]; exact ⟨Hb.out, rfl, Hs.out⟩)
      clear hg
      go_wp2
      go_ret
      exact HE.out
end Go.Proofs.YtoalncojijmelaaGreatDoor

/-
  The program's Run; the single value.
-/
namespace Go.Proofs.YtoalncojijmelaaGreatDoor
open Go.RowKit Vl Cd Ck

theorem sk_ok {p : List Ins} {f : List Bool} (h : (sk p f).2.2 = 0) : sk p f = rn f [] 0 p ∧ (rn f [] 0 p).2.2 = 0 := by
  unfold sk at h ⊢
  by_cases hb : bad p f = 0
  · rw [if_pos hb] at h ⊢; exact ⟨rfl, h⟩
  · rw [if_neg hb] at h; exact absurd h hb
theorem retX_rnv {w : World} {g B : Nat} {R : Value} {a b : V} {p : List Ins} {r : List (List UInt8)} {fo : List V} {fu : Int} {e : Ending} {w' : World} (h : RetX w g B R a b (ev r fo [] fu p) e w') :
    e = .returned (.int .i64 ((rnv p r fo fu).2.2 : Int)) ∧ Mac w' g B R a b (rnv p r fo fu).2.1 (rnv p r fo fu).1 ∧ Xg g B w w' := by
  obtain ⟨hb, h⟩ := h
  unfold rnv
  cases hq : ev r fo [] fu p with
  | none => rw [hq] at h; exact ⟨h.1, h.2, hb⟩
  | some q => obtain ⟨l, n⟩ := q; rw [hq] at h; exact ⟨h.1, h.2, hb⟩
theorem rnv_err (p : List Ins) (r : List (List UInt8)) (fo : List V) (fu : Int) : (rnv p r fo fu).2.2 = 0 ∨ rnv p r fo fu = ([], 0, 12) := by
  unfold rnv
  cases ev r fo [] fu p with
  | none => exact .inr rfl
  | some q => exact .inl rfl
/-- What Run hands over. -/
def RetRun (w : World) (G : List V × Int × Nat) (e : Ending) (w' : World) : Prop :=
  ∃ A c, e = .returned (.tuple #[.slice A G.1.length c, .int .i64 G.2.1, .int .i64 (G.2.2 : Int)]) ∧ Oc 3 w' 32 w.heap.size A G.1.length c (vvs G.1) ∧ Below w.heap.size w w'
/-- A program and a record, as arguments. -/
structure Arg (A : Option Addr) (n c : Nat) (p : List Ins) (RA : Option Addr) (rm rc : Nat) (r : List (List UInt8)) (w : World) : Prop where
  hp : Rc 3 w w.heap.size A n c (ics p)
  hn : n ≤ 1000000
  hI : ∀ x ∈ p, Vl.I x.op ∧ Vl.I x.n
  hr : Rc 1 w w.heap.size RA rm rc (lvs r)
  hm : rm ≤ 1000000
  hz : ∀ q ∈ r, q.length ≤ 1000000
  hG : Gl w
theorem Arg.below {A : Option Addr} {n c : Nat} {p : List Ins} {RA : Option Addr} {rm rc : Nat} {r : List (List UInt8)} {w w' : World} (h : Arg A n c p RA rm rc r w) (hb : Below w.heap.size w w') : Arg A n c p RA rm rc r w' :=
  ⟨(h.hp.below hb).more hb.size, h.hn, h.hI, (h.hr.below hb).more hb.size, h.hm, h.hz, h.hG.below' hb⟩
section
variable (A : Option Addr) (n c : Nat) (p : List Ins) (RA : Option Addr) (rm rc : Nat) (r : List (List UInt8)) (fu : Int) (w : World)
theorem exec_at (h : Arg A n c p RA rm rc r w) (a b : V) (fo : List V) (hfo : fo = [] ∨ fo = [a, b]) (hfv : fo.all isV = true) (hfI : ∀ v ∈ fo, I v.n) (hok : (rn (fo.map (·.t)) [] 0 p).2.2 = 0) (hfu : I fu)
    (g B : Nat) (hg : w.heap.size ≤ g) (hgB : g < B) (W : World) (hBs : B ≤ W.heap.size) (hb : Below w.heap.size w W) (hm : Mc W g (.slice RA rm rc) a b (.int .i64 fu) (.slice none 0 0)) :
    Calls Tryz.prog 18 #[.pointer (some ⟨g, 0, none⟩), .slice A n c] W (fun e w' => e = .returned (.int .i64 ((rnv p r fo fu).2.2 : Int)) ∧ Mac w' g B (.slice RA rm rc) a b (rnv p r fo fu).2.1 (rnv p r fo fu).1 ∧ Xg g B W w') :=
  (mexec_c A n c p g B RA rm rc r a b fo fu W ((h.hp.below hb).more hg) h.hn (fun x hx => (h.hI x hx).2) ((h.hr.below hb).more hg) h.hm h.hz hfo hfv hfI hok hfu (h.hG.below' hb) (Nat.lt_of_lt_of_le h.hG.lt hg) ⟨none, 0, hm, Oc.nil 3 _ _ _, hgB, hBs⟩).mono fun _ _ q => retX_rnv q
set_option maxRecDepth 100000 in
set_option maxHeartbeats 2000000 in
theorem run_c (h : Arg A n c p RA rm rc r w) (hfu : I fu) :
    Calls Tryz.prog 7 #[.slice A n c, .slice RA rm rc, .int .i64 fu] w (RetRun w (runV p r fu)) := by
  have hst := stack_c A n c p none 0 0 [] w h.hp h.hn (fun x hx => (h.hI x hx).1) (Rc.nil 1 w _) (by omega)
  have hex := fun hok => exec_at A n c p RA rm rc r fu w h v0 v0 [] (.inl rfl) rfl (fun v hv => by cases hv) hok hfu
  obtain ⟨G, hG⟩ : ∃ G, G = runV p r fu := ⟨_, rfl⟩
  rw [← hG]
  unfold runV at hG
  have hso := fun q => (sk_ok (p := p) (f := []) q).2
  generalize sk p [] = K at *
  generalize rnv p r [] fu = N at *
  obtain ⟨s, i, er⟩ := K
  have Hst := Lib.hid hst; have Hex := Lib.hid hex; have HG := Lib.hid hG; have Hso := Lib.hid hso
  clear hst hex hG hso h
  go_enter Tryz.func7, Tryz.ntmps7
  go_wp2_with fail
  refine Hst.out.mono ?_
  rintro e w1 ⟨A1, c1, rfl, -, b1⟩
  have B1 := Lib.hid b1
  clear b1
  dsimp only
  by_cases h0 : er = 0
  · subst h0
    have hGN : N = G := (HG.out.trans (if_neg (by simp))).symm
    subst hGN
    obtain ⟨w2, hw2⟩ : ∃ w2, w2 = w1.alloc (.cells #[.slice RA rm rc, .bool false, .int .i64 0, .string ⟨#[]⟩, .bool false, .int .i64 0, .string ⟨#[]⟩, .int .i64 fu, .slice none 0 0] 51) := ⟨_, rfl⟩
    have b2 : Below w1.heap.size w1 w2 := by rw [hw2]; exact (Below.refl _ _).alloc (Nat.le_refl _) _
    have m2 : Mc w2 w1.heap.size (.slice RA rm rc) v0 v0 (.int .i64 fu) (.slice none 0 0) := by rw [hw2]; exact Mc.made _ _ _ v0 v0 _ _
    have bb2 := B1.out.trans (b2.mono B1.out.size)
    have hc := Hex.out (Hso.out rfl) w1.heap.size (w1.heap.size + 1) B1.out.size (by omega) w2 (by rw [hw2]; simp) bb2 m2
    have W2 := Lib.hid hw2; have BB2 := Lib.hid bb2; have Hc := Lib.hid hc
    clear hw2 b2 m2 bb2 hc HG
    go_wp2_with (rw [← W2.out])
    refine Hc.out.mono ?_
    rintro e w3 ⟨rfl, m3, b3⟩
    obtain ⟨A3, c3, m3, o3, -, -⟩ := m3
    have HF := Lib.hid (fun j => show RetRun w N (.returned (.tuple #[.slice A3 N.1.length c3, .int .i64 N.2.1, .int .i64 (N.2.2 : Int)])) (w3.drewN j) from ⟨A3, c3, rfl, (o3.mono (Nat.le_trans B1.out.size (Nat.le_succ _))), below_drewN (BB2.out.trans (b3.1.mono B1.out.size)) _⟩)
    obtain ⟨-, -, -, -, -, -, -, k7, k8, -, -, hlt⟩ := m3
    clear o3 b3
    obtain ⟨l, n', er⟩ := N
    dsimp only at k7 k8 ⊢
    go_wp2_with fail
    go_quiet (fail)
    go_wp2
    go_ret3
    exact HF.out _
  · obtain rfl := HG.out.trans (if_pos h0)
    have e3 : ((er : Int) != 0) = true := by simp; omega
    have e4 : ((er : Int) == 0) = false := by simp; omega
    clear h0
    go_wp2
    go_ret3
    exact ⟨none, 0, rfl, Oc.nil 3 _ _ _, B1.out⟩
end
end Go.Proofs.YtoalncojijmelaaGreatDoor

/-
  The single value that a program leaves.
-/
namespace Go.Proofs.YtoalncojijmelaaGreatDoor
open Go.RowKit Vl Cd Ck

theorem rnv_len {p : List Ins} {r : List (List UInt8)} {fo : List V} {fu : Int} (hf : fo.all isV = true) (hf2 : fo.length = 0 ∨ fo.length = 2) (h : (rn (fo.map (·.t)) [] 0 p).2.2 = 0) (h0 : (rnv p r fo fu).2.2 = 0) :
    (rnv p r fo fu).1.all isV = true ∧ (rnv p r fo fu).1.map (·.t) = (rn (fo.map (·.t)) [] 0 p).1 := by
  unfold rnv at h0 ⊢
  cases hq : ev r fo [] fu p with
  | none => rw [hq] at h0; cases h0
  | some q =>
    obtain ⟨l, n⟩ := q
    exact ev_kind hf hf2 p [] fu 0 rfl h l n hq
/-- What a function hands over that returns a value, fuel and an error. -/
def RetT (w : World) (G : V × Int × Nat) (e : Ending) (w' : World) : Prop := e = .returned (.tuple #[vv G.1, .int .i64 G.2.1, .int .i64 (G.2.2 : Int)]) ∧ Below w.heap.size w w'
section
variable (A : Option Addr) (n c : Nat) (p : List Ins) (RA : Option Addr) (rm rc : Nat) (r : List (List UInt8)) (fu : Int) (w : World)
set_option maxRecDepth 100000 in
set_option maxHeartbeats 4000000 in
theorem single_c (h : Arg A n c p RA rm rc r w) (hfu : I fu) (a b : V) (fo : List V) (hfo : fo = [] ∨ fo = [a, b]) (hfv : fo.all isV = true) (hfI : ∀ v ∈ fo, I v.n) (hok : (rn (fo.map (·.t)) [] 0 p).2.2 = 0) (h1 : (rn (fo.map (·.t)) [] 0 p).1.length = 1) :
    Calls Tryz.prog 21 #[.slice A n c, .agg #[.slice RA rm rc, .bool a.t, .int .i64 a.n, st a.s, .bool b.t, .int .i64 b.n, st b.s, .int .i64 fu, .slice none 0 0]] w (RetT w (fst' (rnv p r fo fu))) := by
  have hex := exec_at A n c p RA rm rc r fu w h a b fo hfo hfv hfI hok hfu
  have hln := fun h0 => rnv_len (r := r) (fu := fu) hfv (fo_len hfo) hok h0
  have her := rnv_err p r fo fu
  generalize rnv p r fo fu = N at *
  obtain ⟨w1, hw1⟩ : ∃ w1, w1 = w.alloc (.cells #[.slice RA rm rc, .bool a.t, .int .i64 a.n, st a.s, .bool b.t, .int .i64 b.n, st b.s, .int .i64 fu, .slice none 0 0] 51) := ⟨_, rfl⟩
  have z1 : w1.heap.size = w.heap.size + 1 := by rw [hw1]; simp
  have b1 : Below w.heap.size w w1 := by rw [hw1]; exact (Below.refl _ _).alloc (Nat.le_refl _) _
  have m1 : Mc w1 w.heap.size (.slice RA rm rc) a b (.int .i64 fu) (.slice none 0 0) := by rw [hw1]; exact Mc.made _ _ _ _ _ _ _
  obtain ⟨w2, hw2⟩ : ∃ w2, w2 = w1.alloc (.cells #[.bool false, .int .i64 0, .string ⟨#[]⟩] 32) := ⟨_, rfl⟩
  have z2 : w2.heap.size = w.heap.size + 2 := by rw [hw2]; simp [z1]
  have b2 : Below w1.heap.size w1 w2 := by rw [hw2]; exact (Below.refl _ _).alloc (Nat.le_refl _) _
  have x2 : Bx w2 (w.heap.size + 1) (.bool false) (.int .i64 0) (.string ⟨#[]⟩) := by rw [hw2, ← z1]; exact Bx.made _ _ _ _ _
  have m2 := m1.below b2 m1.lt
  have bb2 := b1.trans (b2.mono (by omega))
  have hc := hex w.heap.size (w.heap.size + 2) (Nat.le_refl _) (by omega) w2 (by omega) bb2 m2
  obtain ⟨at', an, as'⟩ := a
  obtain ⟨bt', bn, bs'⟩ := b
  obtain ⟨X, hX, -, -, -⟩ := hide_st as'
  obtain ⟨Y, hY, -, -, -⟩ := hide_st bs'
  dsimp only at hw1 ⊢
  simp only [st, ← hX, ← hY] at hw1 ⊢
  have W1 := Lib.hid hw1; have W2 := Lib.hid hw2; have X2 := Lib.hid x2; have BB2 := Lib.hid bb2; have Hc := Lib.hid hc; have Hln := Lib.hid hln; have Her := Lib.hid her; have H1 := Lib.hid h1; have Z1 := Lib.hid z1
  clear hw1 hw2 x2 bb2 hc hln her hex b1 b2 m1 m2 h hok h1 hX hY hfv hfI
  go_enter Tryz.func21, Tryz.ntmps21
  go_wp2_with (first | rw [← W1.out] | (rw [← W2.out]) | (rw [Z1.out]))
  refine Hc.out.mono ?_
  rintro e w3 ⟨rfl, m3, b3⟩
  have x3 := X2.out.keep b3.1.size (b3.2 (w.heap.size + 1) (by omega) (by omega))
  have B3 := Lib.hid (BB2.out.trans (b3.1))
  have X3 := Lib.hid x3
  obtain ⟨A3, c3, m3, o3, -, -⟩ := m3
  obtain ⟨l, n', er⟩ := N
  dsimp only at m3 o3
  have O3 := Lib.hid o3
  obtain ⟨-, -, -, -, -, -, -, k7, k8, -, -, hlt⟩ := m3
  clear o3 b3
  obtain ⟨x0, x1, x2, f0, f1, f2, xl⟩ := x3
  have hz := X2.out.lt
  by_cases h0 : er = 0
  · subst h0
    obtain ⟨l1, l2⟩ := Hln.out rfl
    dsimp only at l1 l2
    have hl1 : l.length = 1 := by have := H1.out; rw [← l2, List.length_map] at this; exact this
    obtain ⟨bb, o, v, rfl, hb, a0, a1, a2, hv⟩ := vvs_at (O3.out.rc) (k := 0) (by omega)
    have hG : fst' (l, n', 0) = (v, n', 0) := by
      unfold fst'
      rw [List.getD_eq_getElem?_getD, hv]; rfl
    have HGG := Lib.hid hG
    rw [hl1] at k8
    clear Hln H1 l1 l2 hl1 hG hv Her
    obtain ⟨t, m, s⟩ := v
    obtain ⟨Z, hZ, -, -, -⟩ := hide_st s
    dsimp only at a0 a1 a2
    simp only [st, ← hZ] at a2
    simp only [Nat.zero_mul, Nat.add_zero] at a0 a1 a2
    have HZ := Lib.hid hZ
    clear hZ
    go_wp2_with fail
    go_region
    obtain ⟨w4, hw4⟩ : ∃ w4, w4 = (put3 w3 (w.heap.size + 1) (.bool t) (.int .i64 m) (.string Z)).drewN 1 := ⟨_, rfl⟩
    have x4 : Bx w4 (w.heap.size + 1) (.bool t) (.int .i64 m) (.string Z) := by rw [hw4]; exact (put3_box X3.out _ _ _).drewN 1
    have b4 : Below w.heap.size w w4 := by rw [hw4]; exact below_drewN (B3.out.trans ((put3_below _ _ _ _ _).mono (by omega))) 1
    change Exit.then _ _ _ _ ((put3 w3 (w.heap.size + 1) (.bool t) (.int .i64 m) (.string Z)).drewN 1)
    rw [← hw4]
    obtain ⟨x0, x1, x2, -, -, -, -⟩ := x4
    clear hw4
    go_wp2
    refine bodyPost_ret (v := .tuple #[vv ⟨t, m, s⟩, .int .i64 n', .int .i64 0]) ?_ rfl (by rw [HGG.out]; exact ⟨rfl, b4⟩)
    simp [results, Tryz.results21, go_sem, x0, x1, x2, HZ.out]
  · have hN := (Her.out).resolve_left h0
    injection hN with hl hN
    injection hN with hn he
    subst hl hn he
    clear h0 Hln H1 Her
    go_wp2_with fail
    go_region
    obtain ⟨w4, hw4⟩ : ∃ w4, w4 = (put3 w3 (w.heap.size + 1) (.bool false) (.int .i64 0) (.string ⟨#[]⟩)).drewN 1 := ⟨_, rfl⟩
    have x4 : Bx w4 (w.heap.size + 1) (.bool false) (.int .i64 0) (.string ⟨#[]⟩) := by rw [hw4]; exact (put3_box X3.out _ _ _).drewN 1
    have b4 : Below w.heap.size w w4 := by rw [hw4]; exact below_drewN (B3.out.trans ((put3_below _ _ _ _ _).mono (by omega))) 1
    change Exit.then _ _ _ _ ((put3 w3 (w.heap.size + 1) (.bool false) (.int .i64 0) (.string ⟨#[]⟩)).drewN 1)
    rw [← hw4]
    obtain ⟨x0, x1, x2, -, -, -, -⟩ := x4
    clear hw4
    go_wp2
    refine bodyPost_ret (v := .tuple #[vv v0, .int .i64 0, .int .i64 12]) ?_ rfl ⟨rfl, b4⟩
    simp [results, Tryz.results21, go_sem, x0, x1, x2, v0]
end
end Go.Proofs.YtoalncojijmelaaGreatDoor

/-
  The program's One.
-/
namespace Go.Proofs.YtoalncojijmelaaGreatDoor
open Go.RowKit Vl Cd Ck

section
variable (A : Option Addr) (n c : Nat) (p : List Ins) (RA : Option Addr) (rm rc : Nat) (r : List (List UInt8)) (fu : Int) (w : World)
set_option maxRecDepth 100000 in
set_option maxHeartbeats 4000000 in
theorem one_c (h : Arg A n c p RA rm rc r w) (hfu : I fu) :
    Calls Tryz.prog 9 #[.slice A n c, .slice RA rm rc, .int .i64 fu] w (RetT w (oneV p r fu)) := by
  obtain ⟨w0, hw0⟩ : ∃ w0, w0 = w.alloc (.cells #[.bool false, .int .i64 0, .string ⟨#[]⟩] 32) := ⟨_, rfl⟩
  have b0 : Below w.heap.size w w0 := by rw [hw0]; exact (Below.refl _ _).alloc (Nat.le_refl _) _
  have x0 : Bx w0 w.heap.size (.bool false) (.int .i64 0) (.string ⟨#[]⟩) := by rw [hw0]; exact Bx.made _ _ _ _ _
  have h0 := h.below b0
  have hst := stack_c A n c p none 0 0 [] w0 h0.hp h0.hn (fun x hx => (h0.hI x hx).1) (Rc.nil 1 w0 _) (by omega)
  have hsi := fun (W : World) (hb : Below w.heap.size w W) hok h1 => (show Calls Tryz.prog 21 #[.slice A n c, .agg #[.slice RA rm rc, .bool false, .int .i64 0, .string ⟨#[]⟩, .bool false, .int .i64 0, .string ⟨#[]⟩, .int .i64 fu, .slice none 0 0]] W (RetT W (fst' (rnv p r [] fu))) from
    single_c A n c p RA rm rc r fu W (h.below hb) hfu v0 v0 [] (.inl rfl) rfl (fun v hv => by cases hv) hok h1)
  obtain ⟨G, hG⟩ : ∃ G, G = oneV p r fu := ⟨_, rfl⟩
  rw [← hG]
  unfold oneV at hG
  have hso := fun q => sk_ok (p := p) (f := []) q
  have hso2 := fun q => (show (rn (([] : List V).map (·.t)) [] 0 p).2.2 = 0 from (hso q).2)
  have hso3 := fun q (q1 : (sk p []).1.length = 1) => (show (rn (([] : List V).map (·.t)) [] 0 p).1.length = 1 from by show (rn [] [] 0 p).1.length = 1; rw [← (hso q).1]; exact q1)
  generalize sk p [] = K at *
  generalize fst' (rnv p r [] fu) = N at *
  obtain ⟨s, i, er⟩ := K
  have W0 := Lib.hid hw0; have B0 := Lib.hid b0; have X0 := Lib.hid x0; have Hst := Lib.hid hst; have Hsi := Lib.hid (fun W hb q q1 => hsi W hb (hso2 q) (hso3 q q1)); have HG := Lib.hid hG
  clear hw0 b0 x0 hst hsi hG hso hso2 hso3 h h0
  go_enter Tryz.func9, Tryz.ntmps9
  go_wp2_with (rw [← W0.out])
  refine Hst.out.mono ?_
  rintro e w1 ⟨A1, c1, rfl, -, b1⟩
  have x1 := X0.out.below b1 X0.out.lt
  have B1 := Lib.hid (B0.out.trans (b1.mono B0.out.size)); have X1 := Lib.hid x1
  obtain ⟨y0, y1, y2, f0, f1, f2, yl⟩ := x1
  clear b1
  dsimp only at Hsi HG ⊢
  by_cases h0 : er = 0
  · subst h0
    have HG2 := Lib.hid (HG.out.trans (if_neg (by simp)))
    clear HG
    by_cases h1 : s.length = 1
    · have hGN : N = G := (HG2.out.trans (if_neg (by simpa using h1))).symm
      subst hGN
      have d1 : ((s.length : Int) != 1) = false := by simp; omega
      have d2 : ((s.length : Int) == 1) = true := by simp; omega
      have Hs := Lib.hid (Hsi.out w1 B1.out rfl h1)
      clear HG2 Hsi h1
      go_wp2_with fail
      refine Hs.out.mono ?_
      rintro e w2 ⟨rfl, b2⟩
      have x2 := X1.out.below b2 X1.out.lt
      have B2 := Lib.hid (B1.out.trans (b2.mono B1.out.size)); have X2 := Lib.hid x2
      clear b2 y0 y1 y2 f0 f1 f2
      obtain ⟨y0, y1, y2, f0, f1, f2, -⟩ := x2
      obtain ⟨⟨t, m, u⟩, n', er⟩ := N
      obtain ⟨Z, hZ, -, -, -⟩ := hide_st u
      have HZ := Lib.hid hZ
      dsimp only
      simp only [vv, st, ← hZ]
      clear hZ
      go_wp2
      change bodyPost _ _ _ _ _ (put3 w2 w.heap.size (.bool t) (.int .i64 m) (.string Z))
      refine bodyPost_ret (v := .tuple #[vv ⟨t, m, u⟩, .int .i64 n', .int .i64 (er : Int)]) ?_ rfl ⟨rfl, B2.out.trans (put3_below _ _ _ _ _)⟩
      have s0 := (put3_box X2.out (.bool t) (.int .i64 m) (.string Z)).c0
      have s1 := (put3_box X2.out (.bool t) (.int .i64 m) (.string Z)).c1
      have s2 := (put3_box X2.out (.bool t) (.int .i64 m) (.string Z)).c2
      simp [results, Tryz.results9, go_sem, s0, s1, s2, ← HZ.out]
    · have hGN := HG2.out.trans (if_pos (by simpa using h1))
      subst hGN
      have d1 : ((s.length : Int) != 1) = true := by simp; omega
      have d2 : ((s.length : Int) == 1) = false := by simp; omega
      clear HG2 Hsi h1
      go_wp2
      change bodyPost _ _ _ _ _ (put3 w1 w.heap.size (.bool false) (.int .i64 0) (.string ⟨#[]⟩))
      refine bodyPost_ret (v := .tuple #[vv v0, .int .i64 fu, .int .i64 11]) ?_ rfl ⟨rfl, B1.out.trans (put3_below _ _ _ _ _)⟩
      have s0 := (put3_box X1.out (.bool false) (.int .i64 0) (.string ⟨#[]⟩)).c0
      have s1 := (put3_box X1.out (.bool false) (.int .i64 0) (.string ⟨#[]⟩)).c1
      have s2 := (put3_box X1.out (.bool false) (.int .i64 0) (.string ⟨#[]⟩)).c2
      simp [results, Tryz.results9, go_sem, s0, s1, s2, v0]
  · have hGN := HG.out.trans (if_pos h0)
    subst hGN
    have e3 : ((er : Int) != 0) = true := by simp; omega
    have e4 : ((er : Int) == 0) = false := by simp; omega
    clear h0 HG Hsi
    go_wp2
    change bodyPost _ _ _ _ _ (put3 w1 w.heap.size (.bool false) (.int .i64 0) (.string ⟨#[]⟩))
    refine bodyPost_ret (v := .tuple #[vv v0, .int .i64 fu, .int .i64 (er : Int)]) ?_ rfl ⟨rfl, B1.out.trans (put3_below _ _ _ _ _)⟩
    have s0 := (put3_box X1.out (.bool false) (.int .i64 0) (.string ⟨#[]⟩)).c0
    have s1 := (put3_box X1.out (.bool false) (.int .i64 0) (.string ⟨#[]⟩)).c1
    have s2 := (put3_box X1.out (.bool false) (.int .i64 0) (.string ⟨#[]⟩)).c2
    simp [results, Tryz.results9, go_sem, s0, s1, s2, v0]
end
end Go.Proofs.YtoalncojijmelaaGreatDoor

/-
  The program's Yes, isValue, Fold.
-/
namespace Go.Proofs.YtoalncojijmelaaGreatDoor
open Go.RowKit Vl Cd Ck

/-- What Yes hands over. -/
def RetY (w : World) (G : Bool × Int × Nat) (e : Ending) (w' : World) : Prop := e = .returned (.tuple #[.bool G.1, .int .i64 G.2.1, .int .i64 (G.2.2 : Int)]) ∧ Below w.heap.size w w'
theorem ckd_zero {p : List Ins} {f want : List Bool} (h : ckd p f want = 0) : (sk p f).2.2 = 0 ∧ (sk p f).1 = want := by
  unfold ckd at h
  by_cases h1 : (sk p f).2.2 ≠ 0
  · rw [if_pos h1] at h; exact absurd h h1
  · rw [if_neg h1] at h
    by_cases h2 : (sk p f).1 = want
    · exact ⟨by omega, h2⟩
    · rw [if_neg h2] at h; cases h
theorem yes_ckd {p : List Ins} {r : List (List UInt8)} {fu : Int} (hp : p ≠ []) : yesV p r fu = if ckd p [] [false] = 0 then (decide ((fst' (rnv p r [] fu)).1.n ≠ 0), (fst' (rnv p r [] fu)).2.1, (fst' (rnv p r [] fu)).2.2) else (false, fu, ckd p [] [false]) := by
  unfold yesV ckd oneV
  rw [if_neg hp]
  generalize sk p [] = K
  obtain ⟨s, i, er⟩ := K
  dsimp only
  by_cases h1 : er = 0
  · subst h1
    by_cases h2 : s = [false]
    · subst h2; simp
    · simp [h2]
  · simp [h1]
section
variable (A : Option Addr) (n c : Nat) (p : List Ins) (RA : Option Addr) (rm rc : Nat) (r : List (List UInt8)) (fu : Int) (w : World)
set_option maxRecDepth 100000 in
set_option maxHeartbeats 4000000 in
theorem yes_fc (h : Arg A n c p RA rm rc r w) (hfu : I fu) :
    Calls Tryz.prog 11 #[.slice A n c, .slice RA rm rc, .int .i64 fu] w (RetY w (yesV p r fu)) := by
  have hpl := ics_num h.hp
  by_cases hn0 : n = 0
  · subst hn0
    obtain rfl : p = [] := List.eq_nil_of_length_eq_zero hpl
    have HF := Lib.hid (show RetY w (yesV [] r fu) (.returned (.tuple #[.bool true, .int .i64 fu, .int .i64 0])) w from by unfold yesV; rw [if_pos rfl]; exact ⟨rfl, Below.refl _ _⟩)
    clear h hpl
    go_enter Tryz.func11, Tryz.ntmps11
    go_wp2
    go_ret3
    exact HF.out
  · have d0 : ((n : Int) == 0) = false := beq_eq_false_iff_ne.2 (by omega)
    have hpne : p ≠ [] := fun e => hn0 (by rw [e] at hpl; exact hpl.symm)
    obtain ⟨w0, hw0⟩ : ∃ w0, w0 = w.alloc (.cells #[.bool false] 4) := ⟨_, rfl⟩
    have z0 : w.heap.size + 1 = w0.heap.size := by rw [hw0]; simp
    have b0 : Below w.heap.size w w0 := by rw [hw0]; exact (Below.refl _ _).alloc (Nat.le_refl _) _
    have r0 : Rc 1 w0 w0.heap.size (some ⟨w.heap.size, 0, none⟩) 1 1 (lvb [false]) := by rw [← z0, hw0]; exact Rc.lit w _ (lvb [false]).toArray 1 rfl (by simp [maxLen])
    have h0 := h.below b0
    have hch := check_c A n c p none 0 0 [] _ 1 1 [false] w0 h0.hp h0.hn (fun x hx => (h0.hI x hx).1) (Rc.nil 1 w0 _) (by omega) r0
    have hsi := fun (W : World) (hb : Below w.heap.size w W) (hz : ckd p [] [false] = 0) => (show Calls Tryz.prog 21 #[.slice A n c, .agg #[.slice RA rm rc, .bool false, .int .i64 0, .string ⟨#[]⟩, .bool false, .int .i64 0, .string ⟨#[]⟩, .int .i64 fu, .slice none 0 0]] W (RetT W (fst' (rnv p r [] fu))) from
      single_c A n c p RA rm rc r fu W (h.below hb) hfu v0 v0 [] (.inl rfl) rfl (fun v hv => by cases hv) (sk_ok (ckd_zero hz).1).2 (by
        show (rn [] [] 0 p).1.length = 1
        rw [← (sk_ok (ckd_zero hz).1).1, (ckd_zero hz).2]; rfl))
    rw [yes_ckd hpne]
    obtain ⟨K, hK⟩ : ∃ K, K = ckd p [] [false] := ⟨_, rfl⟩
    rw [← hK] at hch hsi ⊢
    generalize fst' (rnv p r [] fu) = N at *
    obtain ⟨G, hG⟩ : ∃ G : Bool × Int × Nat, G = if K = 0 then (decide (N.1.n ≠ 0), N.2.1, N.2.2) else (false, fu, K) := ⟨_, rfl⟩
    rw [← hG]
    have HG := Lib.hid hG
    clear hG
    have W0 := Lib.hid hw0; have B0 := Lib.hid b0; have Hch := Lib.hid hch; have Hsi := Lib.hid hsi
    clear hw0 z0 b0 r0 h0 hch hsi hK h hpl hpne hn0
    go_enter Tryz.func11, Tryz.ntmps11
    go_wp2_with (rw [← W0.out])
    refine Hch.out.mono ?_
    rintro e w1 ⟨rfl, b1⟩
    have B1 := Lib.hid (B0.out.trans (b1.mono B0.out.size))
    clear b1
    by_cases hk : K = 0
    · subst hk
      have Hs := Lib.hid (Hsi.out w1 B1.out rfl)
      clear Hsi
      go_wp2_with fail
      refine Hs.out.mono ?_
      rintro e w2 ⟨rfl, b2⟩
      obtain ⟨⟨t, m, u⟩, n', er⟩ := N
      obtain ⟨Z, hZ, -, -, -⟩ := hide_st u
      dsimp only
      simp only [vv, st, ← hZ]
      obtain ⟨w3, hw3⟩ : ∃ w3, w3 = w2.alloc (.cells #[.bool t, .int .i64 m, .string Z] 32) := ⟨_, rfl⟩
      have b3 : Below w2.heap.size w2 w3 := by rw [hw3]; exact (Below.refl _ _).alloc (Nat.le_refl _) _
      have x3 : Bx w3 w2.heap.size (.bool t) (.int .i64 m) (.string Z) := by rw [hw3]; exact Bx.made _ _ _ _ _
      have bb2 := B1.out.trans (b2.mono B1.out.size)
      have W3 := Lib.hid hw3; have B3 := Lib.hid (bb2.trans (b3.mono bb2.size))
      obtain ⟨c0, c1, c2, -, -, -, -⟩ := x3
      clear hw3 b3 b2 bb2 hZ
      by_cases hm : m = 0
      · subst hm
        have HF := Lib.hid (show RetY w G (.returned (.tuple #[.bool false, .int .i64 n', .int .i64 (er : Int)])) w3 from by rw [HG.out, if_pos (by first | rfl | trivial)]; exact ⟨by first | rfl | simp, B3.out⟩)
        go_wp2_with (rw [← W3.out])
        go_ret3
        exact HF.out
      · have d1 : (m == 0) = false := beq_eq_false_iff_ne.2 hm
        have d2 : (m != 0) = true := by rw [bne, d1]; rfl
        have HM := Lib.hid hm
        clear hm
        have HF := Lib.hid (show RetY w G (.returned (.tuple #[.bool true, .int .i64 n', .int .i64 (er : Int)])) w3 from by rw [HG.out, if_pos (by first | rfl | trivial)]; exact ⟨by simp [HM.out], B3.out⟩)
        go_wp2_with (rw [← W3.out])
        go_ret3
        exact HF.out
    · have HF := Lib.hid (show RetY w G (.returned (.tuple #[.bool false, .int .i64 fu, .int .i64 (K : Int)])) w1 from by rw [HG.out, if_neg hk]; exact ⟨rfl, B1.out⟩)
      have e3 : ((K : Int) != 0) = true := by simp; omega
      have e4 : ((K : Int) == 0) = false := by simp; omega
      clear hk Hsi
      go_wp2
      go_ret3
      exact HF.out
end
end Go.Proofs.YtoalncojijmelaaGreatDoor

/-
  The program's isValue.
-/
namespace Go.Proofs.YtoalncojijmelaaGreatDoor
open Go.RowKit Vl Cd Ck

set_option maxRecDepth 100000 in
set_option maxHeartbeats 2000000 in
theorem eisv_c (v : V) (hs : v.s.length ≤ 1000000) (w : World) : Calls Tryz.prog 23 #[vv v] w (RetV w (.bool (isV v))) := by
  obtain ⟨t, n, s⟩ := v
  dsimp only at hs
  obtain ⟨o, ho⟩ : ∃ o, o = isV ⟨t, n, s⟩ := ⟨_, rfl⟩
  rw [← ho]
  unfold isV at ho
  dsimp only at ho ⊢
  obtain ⟨X, hX⟩ : ∃ X : ByteArray, X = ⟨s.toArray⟩ := ⟨_, rfl⟩
  have hte := fun W => ptext_c s hs W
  have hnu := fun W => pnum_c n W
  simp only [vv, st, ← hX] at hte ⊢
  obtain ⟨w1, hw1⟩ : ∃ w1, w1 = w.alloc (.cells #[.bool t, .int .i64 n, .string X] 32) := ⟨_, rfl⟩
  have b1 : Below w.heap.size w w1 := by rw [hw1]; exact (Below.refl _ _).alloc (Nat.le_refl _) _
  have x1 : Bx w1 w.heap.size (.bool t) (.int .i64 n) (.string X) := by rw [hw1]; exact Bx.made _ _ _ _ _
  have W1 := Lib.hid hw1; have B1 := Lib.hid b1; have X1 := Lib.hid x1
  obtain ⟨c0, c1, c2, -, -, -, xl⟩ := x1
  have KEEP := Lib.hid (fun (W : World) (hb : Below w1.heap.size w1 W) => X1.out.below hb X1.out.lt)
  clear hw1 b1
  cases t
  · rw [if_neg (by simp)] at ho
    have Hnu := Lib.hid hnu
    clear hnu hte
    by_cases hz : s = []
    · subst hz
      have hoo : o = true := by rw [ho]; rfl
      subst hoo
      have hX2 : X = ⟨#[]⟩ := by rw [hX]
      subst hX2
      clear ho hX
      go_enter Tryz.func23, Tryz.ntmps23
      go_wp2_with (rw [← W1.out])
      go_region_held3 (fun w' => w'.cell? ⟨w.heap.size, 0, none⟩ = some (.bool false) ∧ w'.cell? ⟨w.heap.size, 1, none⟩ = some (.int .i64 n) ∧ w'.cell? ⟨w.heap.size, 2, none⟩ = some (.string ⟨#[]⟩)) (go_keep)
        ((go_at_call 36; refine (Hnu.out _).mono ?_; rintro e w4 ⟨rfl, b4⟩; have hb4 : Below w1.heap.size w1 w4 := (below_drewN (Below.refl _ _) 1).trans b4; have q4 := KEEP.out w4 hb4; have BB4 := Lib.hid hb4; obtain ⟨k0, k1, k2, -, -, -, -⟩ := q4))
      all_goals (go_wp2; go_ret; exact ⟨by first | rfl | simp, B1.out.trans (BB4.out.mono B1.out.size)⟩)
    · have hoo : o = false := by rw [ho]; simpa using hz
      subst hoo
      have d1 : s.isEmpty = false := by cases s <;> first | exact absurd rfl hz | rfl
      have d2 : (s == []) = false := by simpa using hz
      rw [hX] at W1 c2 KEEP ⊢
      clear ho hX hz
      go_enter Tryz.func23, Tryz.ntmps23
      go_wp2_with (rw [← W1.out])
      go_region_held3 (fun w' => w'.cell? ⟨w.heap.size, 0, none⟩ = some (.bool false) ∧ w'.cell? ⟨w.heap.size, 1, none⟩ = some (.int .i64 n) ∧ w'.cell? ⟨w.heap.size, 2, none⟩ = some (.string ⟨s.toArray⟩)) (go_keep)
        ((go_at_call 36; refine (Hnu.out _).mono ?_; rintro e w4 ⟨rfl, b4⟩; have hb4 : Below w1.heap.size w1 w4 := (below_drewN (Below.refl _ _) 1).trans b4; have q4 := KEEP.out w4 hb4; have BB4 := Lib.hid hb4; obtain ⟨k0, k1, k2, -, -, -, -⟩ := q4))
      all_goals (go_wp2; go_ret; refine ⟨?_, B1.out.trans (BB4.out.mono B1.out.size)⟩; first | rfl | simp [d1, d2])
  · rw [if_pos rfl] at ho
    clear hnu
    by_cases hz : n = 0 ∧ s.length ≤ 1000
    · obtain ⟨rfl, hl⟩ := hz
      have hoo : o = true := by rw [ho]; simp [hl]
      subst hoo
      rw [List.take_of_length_le hl, ← hX] at hte
      have Hte := Lib.hid hte
      clear ho hX hl hs hte
      go_enter Tryz.func23, Tryz.ntmps23
      go_wp2_with (rw [← W1.out])
      go_region_held3 (fun w' => w'.cell? ⟨w.heap.size, 0, none⟩ = some (.bool true) ∧ w'.cell? ⟨w.heap.size, 1, none⟩ = some (.int .i64 0) ∧ w'.cell? ⟨w.heap.size, 2, none⟩ = some (.string X)) (go_keep)
        ((go_at_call 35; refine (Hte.out _).mono ?_; rintro e w4 ⟨rfl, b4⟩; have hb4 : Below w1.heap.size w1 w4 := (below_drewN (Below.refl _ _) 1).trans b4; have q4 := KEEP.out w4 hb4; have BB4 := Lib.hid hb4; obtain ⟨k0, k1, k2, -, -, -, -⟩ := q4))
      all_goals (go_wp2; go_ret; refine ⟨?_, B1.out.trans (BB4.out.mono B1.out.size)⟩; first | rfl | simp)
    · have hoo : o = false := by rw [ho]; simp; omega
      subst hoo
      obtain ⟨u, hu⟩ : ∃ u, u = s.take 1000 := ⟨_, rfl⟩
      rw [← hu] at hte
      simp only [hX] at hte
      rw [hX] at W1 c2 KEEP ⊢
      have Hte := Lib.hid hte
      by_cases hn : n = 0
      · subst hn
        have d2 : (s == u) = false := by
          rw [beq_eq_false_iff_ne]
          intro e
          have := congrArg List.length e
          rw [hu, List.length_take] at this
          omega
        clear ho hX hz hs hu hte
        go_enter Tryz.func23, Tryz.ntmps23
        go_wp2_with (rw [← W1.out])
        go_region_held3 (fun w' => w'.cell? ⟨w.heap.size, 0, none⟩ = some (.bool true) ∧ w'.cell? ⟨w.heap.size, 1, none⟩ = some (.int .i64 0) ∧ w'.cell? ⟨w.heap.size, 2, none⟩ = some (.string ⟨s.toArray⟩)) (go_keep)
          ((go_at_call 35; refine (Hte.out _).mono ?_; rintro e w4 ⟨rfl, b4⟩; have hb4 : Below w1.heap.size w1 w4 := (below_drewN (Below.refl _ _) 1).trans b4; have q4 := KEEP.out w4 hb4; have BB4 := Lib.hid hb4; obtain ⟨k0, k1, k2, -, -, -, -⟩ := q4))
        all_goals (go_wp2; go_ret; refine ⟨?_, B1.out.trans (BB4.out.mono B1.out.size)⟩; first | rfl | simp [d2])
      · have d1 : (n == 0) = false := by simpa using hn
        clear ho hX hz hs hu hte hn
        go_enter Tryz.func23, Tryz.ntmps23
        go_wp2_with (rw [← W1.out])
        go_region_held3 (fun w' => w'.cell? ⟨w.heap.size, 0, none⟩ = some (.bool true) ∧ w'.cell? ⟨w.heap.size, 1, none⟩ = some (.int .i64 n) ∧ w'.cell? ⟨w.heap.size, 2, none⟩ = some (.string ⟨s.toArray⟩)) (go_keep)
          ((go_at_call 35; refine (Hte.out _).mono ?_; rintro e w4 ⟨rfl, b4⟩; have hb4 : Below w1.heap.size w1 w4 := (below_drewN (Below.refl _ _) 1).trans b4; have q4 := KEEP.out w4 hb4; have BB4 := Lib.hid hb4; obtain ⟨k0, k1, k2, -, -, -, -⟩ := q4))
        all_goals (go_wp2; go_ret; refine ⟨?_, B1.out.trans (BB4.out.mono B1.out.size)⟩; first | rfl | simp [d1])
end Go.Proofs.YtoalncojijmelaaGreatDoor

/-
  The program's Fold.
-/
namespace Go.Proofs.YtoalncojijmelaaGreatDoor
open Go.RowKit Vl Cd Ck

theorem ckv_ckd (p : List Ins) (f want : List Bool) : ckv p f want = ckd p f want := rfl
/-- What Fold is handed. -/
structure Arf (A : Option Addr) (n c : Nat) (p : List Ins) (a b : V) (w : World) : Prop where
  hp : Rc 3 w w.heap.size A n c (ics p)
  hn : n ≤ 1000000
  hI : ∀ x ∈ p, Vl.I x.op ∧ Vl.I x.n
  ia : Vl.I a.n
  ib : Vl.I b.n
  la : a.s.length ≤ 1000000
  lb : b.s.length ≤ 1000000
  hG : Gl w
theorem Arf.below {A : Option Addr} {n c : Nat} {p : List Ins} {a b : V} {w w' : World} (h : Arf A n c p a b w) (hb : Below w.heap.size w w') : Arf A n c p a b w' :=
  ⟨(h.hp.below hb).more hb.size, h.hn, h.hI, h.ia, h.ib, h.la, h.lb, h.hG.below' hb⟩
theorem rows_two (w : World) (xs ys : List Bool) (hx : xs.length ≤ 2) (hy : ys.length ≤ 2) :
    Rc 1 (((w.alloc (.cells (lvb xs).toArray 4)).alloc (.cells (lvb ys).toArray 4)).drewN 1) (((w.alloc (.cells (lvb xs).toArray 4)).alloc (.cells (lvb ys).toArray 4)).drewN 1).heap.size (some ⟨w.heap.size, 0, none⟩) xs.length xs.length (lvb xs) ∧
    Rc 1 (((w.alloc (.cells (lvb xs).toArray 4)).alloc (.cells (lvb ys).toArray 4)).drewN 1) (((w.alloc (.cells (lvb xs).toArray 4)).alloc (.cells (lvb ys).toArray 4)).drewN 1).heap.size (some ⟨w.heap.size + 1, 0, none⟩) ys.length ys.length (lvb ys) ∧
    Below w.heap.size w (((w.alloc (.cells (lvb xs).toArray 4)).alloc (.cells (lvb ys).toArray 4)).drewN 1) := by
  have r1 := Rc.lit (z := 1) w 4 (lvb xs).toArray xs.length (by simp [lvb]) (by simp only [maxLen]; omega)
  have r2 := Rc.lit (z := 1) (w.alloc (.cells (lvb xs).toArray 4)) 4 (lvb ys).toArray ys.length (by simp [lvb]) (by simp only [maxLen]; omega)
  have b2 : Below (w.alloc (.cells (lvb xs).toArray 4)).heap.size (w.alloc (.cells (lvb xs).toArray 4)) ((w.alloc (.cells (lvb xs).toArray 4)).alloc (.cells (lvb ys).toArray 4)) := (Below.refl _ _).alloc (Nat.le_refl _) _
  have r3 := (r1.more (B' := (w.alloc (.cells (lvb xs).toArray 4)).heap.size) (by simp)).below b2
  refine ⟨(r3.drewN 1).more (by simp), ?_, below_drewN (((Below.refl _ _).alloc (Nat.le_refl _) _).alloc (by simp) _) 1⟩
  have q := (r2.drewN 1)
  have e : (w.alloc (.cells (lvb xs).toArray 4)).heap.size = w.heap.size + 1 := by simp
  rw [e] at q
  exact q.more (by simp)
section
variable (A : Option Addr) (n c : Nat) (p : List Ins) (a b : V) (fu : Int) (w : World)
set_option maxRecDepth 100000 in
set_option maxHeartbeats 8000000 in
theorem fold_c (h : Arf A n c p a b w) (hfu : I fu) :
    Calls Tryz.prog 14 #[.slice A n c, vv a, vv b, .int .i64 fu] w (RetT w (foldV p a b fu)) := by
  have hva := fun W => eisv_c a h.la W
  have hvb := fun W => eisv_c b h.lb W
  have hch := fun (W : World) (hb : Below w.heap.size w W) (F E : Option Addr) (hF : Rc 1 W W.heap.size F 2 2 (lvb [a.t, b.t])) (hE : Rc 1 W W.heap.size E 1 1 (lvb [a.t])) => check_c A n c p F 2 2 [a.t, b.t] E 1 1 [a.t] W ((h.hp.below hb).more hb.size) h.hn (fun x hx => (h.hI x hx).1) hF (by omega) hE
  have hsi := fun (W : World) (hb : Below w.heap.size w W) (ha : isV a = true) (hb' : isV b = true) (hz : ckd p [a.t, b.t] [a.t] = 0) => single_c A n c p none 0 0 [] fu W ⟨(h.hp.below hb).more hb.size, h.hn, h.hI, Rc.nil 1 W _, by omega, (fun q hq => by cases hq), h.hG.below' hb⟩ hfu a b [a, b] (.inr rfl) (by simp [ha, hb']) (fun v hv => by
    simp at hv; rcases hv with rfl | rfl
    · exact h.ia
    · exact h.ib) (sk_ok (ckd_zero hz).1).2 (by
      show (rn [a.t, b.t] [] 0 p).1.length = 1
      rw [← (sk_ok (ckd_zero hz).1).1, (ckd_zero hz).2]; rfl)
  obtain ⟨G, hG⟩ : ∃ G, G = foldV p a b fu := ⟨_, rfl⟩
  rw [← hG]
  unfold foldV at hG
  rw [ckv_ckd] at hG
  obtain ⟨K, hK⟩ : ∃ K, K = ckd p [a.t, b.t] [a.t] := ⟨_, rfl⟩
  rw [← hK] at hG hch hsi
  generalize fst' (rnv p [] [a, b] fu) = N at *
  obtain ⟨ka, hka⟩ : ∃ k, k = isV a := ⟨_, rfl⟩
  obtain ⟨kb, hkb⟩ : ∃ k, k = isV b := ⟨_, rfl⟩
  rw [← hka] at hva hsi hG
  rw [← hkb] at hvb hsi hG
  clear h hK hka hkb hfu
  obtain ⟨w1, hw1⟩ : ∃ w1, w1 = ((w.alloc (.cells #[.bool a.t, .int .i64 a.n, st a.s] 32)).alloc (.cells #[.bool b.t, .int .i64 b.n, st b.s] 32)).alloc (.cells #[.bool false, .int .i64 0, .string ⟨#[]⟩] 32) := ⟨_, rfl⟩
  have b1 : Below w.heap.size w w1 := by rw [hw1]; exact (((Below.refl _ _).alloc (Nat.le_refl _) _).alloc (by simp) _).alloc (by simp; omega) _
  have xa : Bx w1 w.heap.size (.bool a.t) (.int .i64 a.n) (st a.s) := by
    rw [hw1]
    exact ((Bx.made w _ _ _ _).below ((Below.refl _ _).alloc (Nat.le_refl _) _) (by simp)).below ((Below.refl _ _).alloc (Nat.le_refl _) _) (by simp; omega)
  have xb : Bx w1 (w.heap.size + 1) (.bool b.t) (.int .i64 b.n) (st b.s) := by
    rw [hw1]
    have q := (Bx.made (w.alloc (.cells #[.bool a.t, .int .i64 a.n, st a.s] 32)) 32 (.bool b.t) (.int .i64 b.n) (st b.s))
    have q2 := q.below ((Below.refl _ _).alloc (Nat.le_refl _) (.cells #[.bool false, .int .i64 0, .string ⟨#[]⟩] 32)) q.lt
    simpa using q2
  have xr : Bx w1 (w.heap.size + 1 + 1) (.bool false) (.int .i64 0) (.string ⟨#[]⟩) := by
    rw [hw1]
    have q := (Bx.made ((w.alloc (.cells #[.bool a.t, .int .i64 a.n, st a.s] 32)).alloc (.cells #[.bool b.t, .int .i64 b.n, st b.s] 32)) 32 (.bool false) (.int .i64 0) (.string ⟨#[]⟩))
    simpa using q
  obtain ⟨ta, na, sa⟩ := a
  obtain ⟨tb, nb, sb⟩ := b
  obtain ⟨X, hX, -, -, -⟩ := hide_st sa
  obtain ⟨Y, hY, -, -, -⟩ := hide_st sb
  dsimp only at hw1 xa xb hch
  simp only [vv, st, ← hX, ← hY] at hva hvb hsi hw1 xa xb ⊢
  have W1 := Lib.hid hw1; have B1 := Lib.hid b1; have XA := Lib.hid xa; have XB := Lib.hid xb; have XR := Lib.hid xr; have Hva := Lib.hid hva; have Hvb := Lib.hid hvb; have Hch := Lib.hid hch; have Hsi := Lib.hid hsi; have HG := Lib.hid hG
  have hl1 := xr.lt
  obtain ⟨a0, a1, a2, -, -, -, -⟩ := xa
  clear hw1 b1 xb xr hva hvb hch hsi hG hX hY
  cases ka
  · obtain rfl := HG.out.trans (if_pos (.inl rfl))
    clear HG Hch Hsi Hvb
    go_enter Tryz.func14, Tryz.ntmps14
    go_upto_region 1 with (fail)
    rw [← W1.out]
    go_wp2_with fail
    refine (Hva.out w1).mono ?_
    rintro e w2 ⟨rfl, b2⟩
    have xr2 := XR.out.below b2 XR.out.lt
    have XR2 := Lib.hid xr2; have B2 := Lib.hid (B1.out.trans (b2.mono B1.out.size))
    obtain ⟨r0, r1, r2, f0, f1, f2, -⟩ := xr2
    clear b2 a0 a1 a2
    go_wp2
    change bodyPost _ _ _ _ _ (put3 w2 (w.heap.size + 1 + 1) (.bool false) (.int .i64 0) (.string ⟨#[]⟩))
    refine bodyPost_ret (v := .tuple #[vv v0, .int .i64 fu, .int .i64 1]) ?_ rfl ⟨rfl, B2.out.trans ((put3_below _ _ _ _ _).mono (by omega))⟩
    have s0 := (put3_box XR2.out (.bool false) (.int .i64 0) (.string ⟨#[]⟩)).c0
    have s1 := (put3_box XR2.out (.bool false) (.int .i64 0) (.string ⟨#[]⟩)).c1
    have s2 := (put3_box XR2.out (.bool false) (.int .i64 0) (.string ⟨#[]⟩)).c2
    simp [results, Tryz.results14, go_sem, s0, s1, s2, v0]
  · cases kb
    · obtain rfl := HG.out.trans (if_pos (.inr rfl))
      clear HG Hch Hsi
      go_enter Tryz.func14, Tryz.ntmps14
      go_upto_region 1 with (fail)
      rw [← W1.out]
      go_wp2_with fail
      refine (Hva.out w1).mono ?_
      rintro e w2 ⟨rfl, b2⟩
      have xr2 := XR.out.below b2 XR.out.lt
      have xb2 := XB.out.below b2 XB.out.lt
      have XR2 := Lib.hid xr2; have B2 := Lib.hid (B1.out.trans (b2.mono B1.out.size))
      obtain ⟨c0, c1, c2, -, -, -, -⟩ := xb2
      clear b2 a0 a1 a2 xr2
      go_wp2_with fail
      refine (Hvb.out w2).mono ?_
      rintro e w3 ⟨rfl, b3⟩
      have xr3 := XR2.out.below b3 XR2.out.lt
      have XR3 := Lib.hid xr3; have B3 := Lib.hid (B2.out.trans (b3.mono B2.out.size))
      obtain ⟨r0, r1, r2, f0, f1, f2, -⟩ := xr3
      clear b3 c0 c1 c2
      go_wp2
      change bodyPost _ _ _ _ _ (put3 w3 (w.heap.size + 1 + 1) (.bool false) (.int .i64 0) (.string ⟨#[]⟩))
      refine bodyPost_ret (v := .tuple #[vv v0, .int .i64 fu, .int .i64 1]) ?_ rfl ⟨rfl, B3.out.trans ((put3_below _ _ _ _ _).mono (by omega))⟩
      have s0 := (put3_box XR3.out (.bool false) (.int .i64 0) (.string ⟨#[]⟩)).c0
      have s1 := (put3_box XR3.out (.bool false) (.int .i64 0) (.string ⟨#[]⟩)).c1
      have s2 := (put3_box XR3.out (.bool false) (.int .i64 0) (.string ⟨#[]⟩)).c2
      simp [results, Tryz.results14, go_sem, s0, s1, s2, v0]
    · have HG := Lib.hid (HG.out.trans (if_neg (by simp)))
      go_enter Tryz.func14, Tryz.ntmps14
      go_upto_region 1 with (fail)
      rw [← W1.out]
      go_wp2_with fail
      refine (Hva.out w1).mono ?_
      rintro e w2 ⟨rfl, b2⟩
      have xr2 := XR.out.below b2 XR.out.lt
      have xb2 := XB.out.below b2 XB.out.lt
      have xa2 := XA.out.below b2 XA.out.lt
      have XR2 := Lib.hid xr2; have XA2 := Lib.hid xa2; have XB2 := Lib.hid xb2; have B2 := Lib.hid (B1.out.trans (b2.mono B1.out.size))
      obtain ⟨c0, c1, c2, -, -, -, -⟩ := xb2
      clear b2 a0 a1 a2 xr2 xa2
      go_wp2_with fail
      refine (Hvb.out w2).mono ?_
      rintro e w3 ⟨rfl, b3⟩
      have xr3 := XR2.out.below b3 XR2.out.lt
      have xb3 := XB2.out.below b3 XB2.out.lt
      have xa3 := XA2.out.below b3 XA2.out.lt
      have XR3 := Lib.hid xr3; have XA3 := Lib.hid xa3; have XB3 := Lib.hid xb3; have B3 := Lib.hid (B2.out.trans (b3.mono B2.out.size))
      obtain ⟨a0, a1, a2, -, -, -, -⟩ := xa3
      clear b3 c0 c1 c2 xr3
      obtain ⟨c0, c1, c2, -, -, -, -⟩ := xb3
      go_upto_region 3 with (fail)
      refine region_via (α := Nat × Nat) (fun x a => Act.put (Act.put (Act.put (Act.put (Act.put (Act.put (Act.put (Act.put (Act.put (Act.put a (some 24) (.pointer (some ⟨w.heap.size, 0, none⟩))) (some 25) (.bool ta)) (some 26) (.pointer (some ⟨w.heap.size + 1, 0, none⟩))) (some 27) (.bool tb)) (some 28) (.slice (some ⟨x.1, 0, none⟩) 2 2)) (some 29) (.pointer (some ⟨w.heap.size, 0, none⟩))) (some 30) (.bool ta)) (some 31) (.slice (some ⟨x.2, 0, none⟩) 1 1)) (some 11) (.slice (some ⟨x.1, 0, none⟩) 2 2)) (some 12) (.slice (some ⟨x.2, 0, none⟩) 1 1))
        (fun x w' => Rc 1 w' w'.heap.size (some ⟨x.1, 0, none⟩) 2 2 (lvb [ta, tb]) ∧ Rc 1 w' w'.heap.size (some ⟨x.2, 0, none⟩) 1 1 (lvb [ta]) ∧ Below w3.heap.size w3 w') ?_ ?_
      · have na' := World.new_ne w3 _ a0
        have nc' := World.new_ne w3 _ c0
        go_region_held3 (fun w' => w'.cell? ⟨w.heap.size, 0, none⟩ = some (.bool ta) ∧ w'.cell? ⟨w.heap.size + 1, 0, none⟩ = some (.bool tb)) (go_keep) (fail)
        · exact ⟨rfl, (w3.heap.size, w3.heap.size + 1), rfl, (rows_two w3 [ta, tb] [ta] (by simp) (by simp)).1, (rows_two w3 [ta, tb] [ta] (by simp) (by simp)).2.1, (rows_two w3 [ta, tb] [ta] (by simp) (by simp)).2.2⟩
        · exact ⟨rfl, (w3.heap.size + 1, w3.heap.size), rfl, (rows_two w3 [ta] [ta, tb] (by simp) (by simp)).2.1, (rows_two w3 [ta] [ta, tb] (by simp) (by simp)).1, (rows_two w3 [ta] [ta, tb] (by simp) (by simp)).2.2⟩
      · rintro ⟨gf, gw⟩ w4 ⟨hf4, hw4, b4⟩
        have xr4 := XR3.out.below b4 XR3.out.lt
        have xb4 := XB3.out.below b4 XB3.out.lt
        have xa4 := XA3.out.below b4 XA3.out.lt
        have XR4 := Lib.hid xr4; have XA4 := Lib.hid xa4; have XB4 := Lib.hid xb4; have B4 := Lib.hid (B3.out.trans (b4.mono B3.out.size))
        have hc4 := Hch.out w4 B4.out _ _ hf4 hw4
        have Hc4 := Lib.hid hc4
        clear b4 a0 a1 a2 c0 c1 c2 xr4 xb4 xa4 hf4 hw4 hc4
        go_wp2_with fail
        refine Hc4.out.mono ?_
        rintro e w5 ⟨rfl, b5⟩
        have xr5 := XR4.out.below b5 XR4.out.lt
        have xb5 := XB4.out.below b5 XB4.out.lt
        have xa5 := XA4.out.below b5 XA4.out.lt
        have XR5 := Lib.hid xr5; have B5 := Lib.hid (B4.out.trans (b5.mono B4.out.size))
        clear b5
        by_cases hK : K = 0
        · subst hK
          have hGN : N = G := (HG.out.trans (if_neg (by simp))).symm
          subst hGN
          have hs := Hsi.out w5 B5.out (by first | rfl | trivial) (by first | rfl | trivial) (by first | rfl | trivial)
          have Hs := Lib.hid hs
          obtain ⟨a0, a1, a2, -, -, -, -⟩ := xa5
          obtain ⟨c0, c1, c2, -, -, -, -⟩ := xb5
          clear HG Hsi Hch hs xr5
          go_wp2_with fail
          refine Hs.out.mono ?_
          rintro e w6 ⟨rfl, b6⟩
          have xr6 := XR5.out.below b6 XR5.out.lt
          have XR6 := Lib.hid xr6; have B6 := Lib.hid (B5.out.trans (b6.mono B5.out.size))
          clear b6 a0 a1 a2 c0 c1 c2
          obtain ⟨y0, y1, y2, f0, f1, f2, -⟩ := xr6
          obtain ⟨⟨t, m, u⟩, n', er⟩ := N
          obtain ⟨Z, hZ, -, -, -⟩ := hide_st u
          have HZ := Lib.hid hZ
          dsimp only
          simp only [vv, st, ← hZ]
          clear hZ
          go_wp2
          change bodyPost _ _ _ _ _ (put3 w6 (w.heap.size + 1 + 1) (.bool t) (.int .i64 m) (.string Z))
          refine bodyPost_ret (v := .tuple #[vv ⟨t, m, u⟩, .int .i64 n', .int .i64 (er : Int)]) ?_ rfl ⟨rfl, B6.out.trans ((put3_below _ _ _ _ _).mono (by omega))⟩
          have s0 := (put3_box XR6.out (.bool t) (.int .i64 m) (.string Z)).c0
          have s1 := (put3_box XR6.out (.bool t) (.int .i64 m) (.string Z)).c1
          have s2 := (put3_box XR6.out (.bool t) (.int .i64 m) (.string Z)).c2
          simp [results, Tryz.results14, go_sem, s0, s1, s2, ← HZ.out]
        · have hGN := HG.out.trans (if_pos hK)
          subst hGN
          have e3 : ((K : Int) != 0) = true := by simp; omega
          have e4 : ((K : Int) == 0) = false := by simp; omega
          obtain ⟨y0, y1, y2, f0, f1, f2, -⟩ := xr5
          clear hK HG Hsi Hch xa5 xb5
          go_wp2
          change bodyPost _ _ _ _ _ (put3 w5 (w.heap.size + 1 + 1) (.bool false) (.int .i64 0) (.string ⟨#[]⟩))
          refine bodyPost_ret (v := .tuple #[vv v0, .int .i64 fu, .int .i64 (K : Int)]) ?_ rfl ⟨rfl, B5.out.trans ((put3_below _ _ _ _ _).mono (by omega))⟩
          have s0 := (put3_box XR5.out (.bool false) (.int .i64 0) (.string ⟨#[]⟩)).c0
          have s1 := (put3_box XR5.out (.bool false) (.int .i64 0) (.string ⟨#[]⟩)).c1
          have s2 := (put3_box XR5.out (.bool false) (.int .i64 0) (.string ⟨#[]⟩)).c2
          simp [results, Tryz.results14, go_sem, s0, s1, s2, v0]
end
end Go.Proofs.YtoalncojijmelaaGreatDoor

/-
  The law's small and alive; rows of values that are alike.
-/
namespace Go.Proofs.YtoalncojijmelaaGreatDoor
open Go.RowKit Vl Cd Ck

def SmRel (w : World) (n : Nat) (i : Value) (wr : World) : Prop := ∃ k : Nat, k ≤ n ∧ k ≤ 250 ∧ i = .int .i64 (k : Int) ∧ wr = w
set_option maxRecDepth 100000 in
set_option maxHeartbeats 4000000 in
theorem small_c (A : Option Addr) (n c : Nat) (p : List Ins) (RA : Option Addr) (rm rc : Nat) (r : List (List UInt8)) (w : World) (hp : Rc 3 w w.heap.size A n c (ics p)) (hn : n ≤ maxLen) (hr : Rc 1 w w.heap.size RA rm rc (lvs r)) (hz : ∀ q ∈ r, q.length ≤ 140737488355328) :
    Calls Tryz.prog 5 #[.slice A n c, .slice RA rm rc] w fun e w' => ∃ b : Bool, e = .returned (.bool b) ∧ (b = true → n ≤ 250 ∧ rm ≤ 4000 ∧ ∀ q ∈ r, q.length ≤ 4000) ∧ Below w.heap.size w w' := by
  have hrl : r.length = rm := by have := hr.1; rw [lvs_length] at this; omega
  obtain ⟨w1, hw1⟩ : ∃ w1, w1 = w.alloc (.cells #[.slice RA rm rc] 24) := ⟨_, rfl⟩
  have b1 : Below w.heap.size w w1 := by rw [hw1]; exact (Below.refl _ _).alloc (Nat.le_refl _) _
  have r1 : Rc 1 w1 (w.heap.size + 1) (some ⟨w.heap.size, 0, none⟩) 1 1 [.slice RA rm rc] := by rw [hw1]; exact Rc.lit (z := 1) w _ #[.slice RA rm rc] 1 rfl (by simp [maxLen])
  have hl1 : RL w1 (w.heap.size + 1) (some ⟨w.heap.size, 0, none⟩) 1 1 [r] := ⟨_, r1, (Rrs.nil w1 _).snoc ⟨RA, rm, rc, rfl, (hr.below b1).more (Nat.le_succ _)⟩⟩
  have hfe := fewR_c (some ⟨w.heap.size, 0, none⟩) 1 1 (w.heap.size + 1) [r] w1 hl1 (fun x hx => by obtain rfl := List.mem_singleton.1 hx; exact hz) 1 _ rfl
  have hw : wL [r] ≤ 4000 ∧ (([r] : List (List (List UInt8))).length : Int) ≤ 1 → rm ≤ 4000 ∧ ∀ q ∈ r, q.length ≤ 4000 := fun h => by
    have e : wL [r] = wR r := by simp [wL]
    have h1 := wR_len r
    exact ⟨by omega, fun q hq => by have := wR_mem r q hq; omega⟩
  obtain ⟨o, ho⟩ : ∃ o, o = decide (wL [r] ≤ 4000 ∧ (([r] : List (List (List UInt8))).length : Int) ≤ 1) := ⟨_, rfl⟩
  rw [← ho] at hfe
  have Hw := Lib.hid (fun (q : o = true) => hw (of_decide_eq_true (by rw [← ho]; exact q)))
  have W1 := Lib.hid hw1; have B1 := Lib.hid b1; have Hfe := Lib.hid hfe; have HP := Lib.hid hp
  simp only [maxLen] at hn
  clear hw1 b1 r1 hl1 hfe hp hw ho hr hz hrl
  go_enter Tryz.func5, Tryz.ntmps5
  go_wp2
  go_loopw [5] (fun i wr => SmRel w n i wr) (fun i _ => n - (intOf i).toNat)
  case atStart => exact ⟨0, Nat.zero_le _, by omega, rfl, rfl⟩
  case round =>
    obtain ⟨k, hk, hk2, rfl, rfl⟩ := hrel
    by_cases hlt : k < n
    · obtain ⟨b, o2, x, rfl, hb, a0, a1, a2, hx⟩ := ics_at HP.out hlt
      clear hx
      by_cases h25 : k = 250
      · subst h25
        go_wp2
        go_ret
        exact ⟨false, rfl, fun h => (by cases h), Below.refl _ _⟩
      · have d1 : ((k : Int) == 250) = false := beq_eq_false_iff_ne.2 (by omega)
        obtain ⟨op, nn, t⟩ := x
        obtain ⟨X, hX, -, -, -⟩ := hide_st t
        dsimp only at a0 a1 a2
        unfold st at a2
        rw [← hX] at a2
        have hk3 : k + 1 ≤ 250 := by omega
        by_cases h11 : (1100 : Int) < (X.size : Int)
        · have d2 : decide ((1100 : Int) < (X.size : Int)) = true := decide_eq_true h11
          clear h11 hX h25
          go_wp2
          go_ret
          exact ⟨false, rfl, fun h => (by cases h), Below.refl _ _⟩
        · have d2 : decide ((1100 : Int) < (X.size : Int)) = false := decide_eq_false h11
          clear h11 hX h25
          go_wp2
          go_roundw
          case rel => exact ⟨k + 1, hlt, hk3, by go_num, rfl⟩
          case measure => simp [intOf]; omega
    · obtain rfl : k = n := by omega
      go_wp2_with (rw [← W1.out])
      refine Hfe.out.mono ?_
      rintro e w2 ⟨rfl, rfl⟩
      go_wp2
      go_ret
      exact ⟨o, rfl, fun q => ⟨hk2, Hw.out q⟩, B1.out⟩

def p1 : List Ins := [⟨2, 0, []⟩, ⟨10, 0, []⟩]
def p2 : List Ins := [⟨2, 0, []⟩]
theorem one_p1 : oneV p1 [[97, 98, 99]] 5 = (⟨false, 3, []⟩, 3, 0) := by decide +kernel
theorem one_p2 : oneV p2 [] 0 = (⟨false, 0, []⟩, 0, 12) := by decide +kernel
theorem I_p1 : ∀ x ∈ p1, I x.op ∧ I x.n := by unfold I; decide
theorem I_p2 : ∀ x ∈ p2, I x.op ∧ I x.n := by unfold I; decide
set_option maxRecDepth 100000 in
set_option maxHeartbeats 4000000 in
theorem alive_c (w : World) (hG : Gl w) : Calls Tryz.prog 6 #[] w (RetV w (.bool true)) := by
  obtain ⟨w1, hw1⟩ : ∃ w1, w1 = w.alloc (.cells #[.int .i64 2, .int .i64 0, .string ⟨#[]⟩, .int .i64 10, .int .i64 0, .string ⟨#[]⟩] 44) := ⟨_, rfl⟩
  obtain ⟨w2, hw2⟩ : ∃ w2, w2 = w1.alloc (.cells #[.string ⟨#[97, 98, 99]⟩] 9) := ⟨_, rfl⟩
  have z1 : w.heap.size + 1 = w1.heap.size := by rw [hw1]; simp
  have z2 : w1.heap.size + 1 = w2.heap.size := by rw [hw2]; simp
  have b1 : Below w.heap.size w w1 := by rw [hw1]; exact (Below.refl _ _).alloc (Nat.le_refl _) _
  have b2 : Below w1.heap.size w1 w2 := by rw [hw2]; exact (Below.refl _ _).alloc (Nat.le_refl _) _
  have r1 : Rc 3 w1 w1.heap.size (some ⟨w.heap.size, 0, none⟩) 2 2 (ics p1) := by rw [← z1, hw1]; exact Rc.lit w _ (ics p1).toArray 2 rfl (by simp [maxLen])
  have r2 : Rc 1 w2 w2.heap.size (some ⟨w1.heap.size, 0, none⟩) 1 1 (lvs [[97, 98, 99]]) := by rw [← z2, hw2]; exact Rc.lit w1 _ (lvs [[97, 98, 99]]).toArray 1 rfl (by simp [maxLen])
  have h1 := one_c _ 2 2 p1 _ 1 1 [[97, 98, 99]] 5 w2 ⟨(r1.below b2).more b2.size, by omega, I_p1, r2, by omega, (fun q hq => by obtain rfl := List.mem_singleton.1 hq; simp), (hG.below' b1).below' b2⟩ (by unfold I; omega)
  rw [one_p1, ← z1] at h1
  have BB := Lib.hid (b1.trans (b2.mono b1.size))
  have H1 := Lib.hid h1
  have W2 := Lib.hid (show (w.alloc (.cells #[.int .i64 2, .int .i64 0, .string ⟨#[]⟩, .int .i64 10, .int .i64 0, .string ⟨#[]⟩] 44)).alloc (.cells #[.string ⟨#[97, 98, 99]⟩] 9) = w2 by rw [hw2, hw1])
  have HL := Lib.hid hG
  clear h1 hw1 hw2 z1 z2 b1 b2 r1 r2 hG
  go_enter Tryz.func6, Tryz.ntmps6
  go_wp2_with (rw [W2.out])
  refine H1.out.mono ?_
  rintro e w3 ⟨rfl, b3⟩
  obtain ⟨w4, hw4⟩ : ∃ w4, w4 = w3.alloc (.cells #[.bool false, .int .i64 3, .string ⟨#[]⟩] 32) := ⟨_, rfl⟩
  have b4 : Below w3.heap.size w3 w4 := by rw [hw4]; exact (Below.refl _ _).alloc (Nat.le_refl _) _
  have x4 : Bx w4 w3.heap.size (.bool false) (.int .i64 3) (.string ⟨#[]⟩) := by rw [hw4]; exact Bx.made _ _ _ _ _
  have bb3 := BB.out.trans (b3.mono BB.out.size)
  have bb4 := bb3.trans (b4.mono bb3.size)
  obtain ⟨w5, hw5⟩ : ∃ w5, w5 = w4.alloc (.cells #[.int .i64 2, .int .i64 0, .string ⟨#[]⟩] 44) := ⟨_, rfl⟩
  have z5 : w4.heap.size + 1 = w5.heap.size := by rw [hw5]; simp
  have b5 : Below w4.heap.size w4 w5 := by rw [hw5]; exact (Below.refl _ _).alloc (Nat.le_refl _) _
  have r5 : Rc 3 w5 w5.heap.size (some ⟨w4.heap.size, 0, none⟩) 1 1 (ics p2) := by rw [← z5, hw5]; exact Rc.lit w4 _ (ics p2).toArray 1 rfl (by simp [maxLen])
  have bb5 := bb4.trans (b5.mono bb4.size)
  have h2 := one_c _ 1 1 p2 none 0 0 [] 0 w5 ⟨r5, by omega, I_p2, Rc.nil 1 w5 _, by omega, (fun q hq => by cases hq), HL.out.below' bb5⟩ (by unfold I; omega)
  rw [one_p2] at h2
  have x5 := x4.below b5 x4.lt
  have H2 := Lib.hid h2; have W4 := Lib.hid hw4; have W5 := Lib.hid hw5; have B5 := Lib.hid bb5; have X5 := Lib.hid x5
  clear h2 hw4 hw5 z5 b4 b5 r5 b3 bb3 bb4 bb5 x4 x5
  go_wp2_with (first | rw [← W4.out] | rw [← W5.out])
  refine H2.out.mono ?_
  rintro e w6 ⟨rfl, b6⟩
  have x6 := X5.out.below b6 X5.out.lt
  have bb6 := B5.out.trans (b6.mono B5.out.size)
  obtain ⟨w7, hw7⟩ : ∃ w7, w7 = w6.alloc (.cells #[.bool false, .int .i64 0, .string ⟨#[]⟩] 32) := ⟨_, rfl⟩
  have b7 : Below w6.heap.size w6 w7 := by rw [hw7]; exact (Below.refl _ _).alloc (Nat.le_refl _) _
  have x7 := x6.below b7 x6.lt
  rw [hw7] at x7
  have B7 := Lib.hid (bb6.trans (b7.mono bb6.size)); have W7 := Lib.hid hw7
  obtain ⟨c0, c1, c2, -, -, -, -⟩ := x7
  clear hw7 b7 b6 bb6 x6
  go_wp2_with fail
  try rw [← W7.out]
  go_ret
  exact ⟨by first | rfl | simp, B7.out⟩

def EqV (w : World) (n : Nat) (t : Value) (wr : World) : Prop := ∃ k j : Nat, k ≤ n ∧ t = .int .i64 (k : Int) ∧ wr = w.drewN j
set_option maxRecDepth 100000 in
set_option maxHeartbeats 1000000 in
/-- A row of values is like itself. -/
theorem same_c (A D : Option Addr) (n c d B : Nat) (p : List V) (w : World) (hp : Rc 3 w B A n c (vvs p)) (hq : Rc 3 w B D n d (vvs p)) (hn : n ≤ 1000000) :
    Calls Tryz.prog 13 #[.slice A n c, .slice D n d] w fun e w' => e = .returned (.bool true) ∧ ∃ k, w' = w.drewN k := by
  have Hp := Lib.hid hp; have Hq := Lib.hid hq
  clear hp hq
  go_enter Tryz.func13, Tryz.ntmps13
  go_wp2
  go_loopw [5] (fun t wr => EqV w n t wr) (fun t _ => n - (intOf t).toNat)
  case atStart => exact ⟨0, 0, by omega, rfl, rfl⟩
  case round =>
    obtain ⟨k, qq, hk, rfl, rfl⟩ := hrel
    by_cases hlt : k < n
    · obtain ⟨b, o, x, rfl, hb, a0, a1, a2, hx⟩ := vvs_at Hp.out hlt
      obtain ⟨b', o', y, rfl, hb', e0, e1, e2, hy⟩ := vvs_at Hq.out hlt
      obtain rfl : x = y := Option.some.inj (hx.symm.trans hy)
      clear hx hy
      go_wp2
      go_quiet (fail)
      go_wp2
      go_roundw
      case rel => exact ⟨k + 1, qq + nq, hlt, by go_num, rfl⟩
      case measure => simp [intOf]; omega
    · obtain rfl : k = n := by omega
      go_wp2
      go_ret
      exact ⟨rfl, qq, rfl⟩
end Go.Proofs.YtoalncojijmelaaGreatDoor
