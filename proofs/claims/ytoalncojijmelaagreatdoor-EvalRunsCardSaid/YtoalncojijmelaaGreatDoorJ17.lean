/-
  Joined: Ea Eb Ec Ed Ee.
-/
import Derived.Test.YtoalncojijmelaaGreatDoorJ11
import Derived.Test.YtoalncojijmelaaGreatDoorJ16
import Derived.Test.YtoalncojijmelaaGreatDoorJ2
/-
  A machine under way: its nine cells and its row of values.
-/
namespace Go.Proofs.YtoalncojijmelaaGreatDoor
open Go.RowKit Vl Cd Ck

/-- A machine's nine cells. -/
structure Mc (w : World) (g : Nat) (R : Value) (a b : V) (F S : Value) : Prop where
  c0 : w.cell? ⟨g, 0, none⟩ = some R
  c1 : w.cell? ⟨g, 1, none⟩ = some (.bool a.t)
  c2 : w.cell? ⟨g, 2, none⟩ = some (.int .i64 a.n)
  c3 : w.cell? ⟨g, 3, none⟩ = some (st a.s)
  c4 : w.cell? ⟨g, 4, none⟩ = some (.bool b.t)
  c5 : w.cell? ⟨g, 5, none⟩ = some (.int .i64 b.n)
  c6 : w.cell? ⟨g, 6, none⟩ = some (st b.s)
  c7 : w.cell? ⟨g, 7, none⟩ = some F
  c8 : w.cell? ⟨g, 8, none⟩ = some S
  f7 : w.frozen? ⟨g, 7, none⟩ = false
  f8 : w.frozen? ⟨g, 8, none⟩ = false
  lt : g < w.heap.size
theorem Mc.made (w : World) (T : TypeId) (R : Value) (a b : V) (F S : Value) : Mc (w.alloc (.cells #[R, .bool a.t, .int .i64 a.n, st a.s, .bool b.t, .int .i64 b.n, st b.s, F, S] T)) w.heap.size R a b F S := ⟨by simp, by simp, by simp, by simp, by simp, by simp, by simp, by simp, by simp, by simp, by simp, by simp⟩
theorem Mc.keep {w w' : World} {g : Nat} {R : Value} {a b : V} {F S : Value} (h : Mc w g R a b F S) (hs : w.heap.size ≤ w'.heap.size) (hg : w'.heap[g]? = w.heap[g]?) : Mc w' g R a b F S := by
  have c : ∀ k, w'.cell? ⟨g, k, none⟩ = w.cell? ⟨g, k, none⟩ := fun k => by unfold World.cell?; rw [hg]
  have f : ∀ k, w'.frozen? ⟨g, k, none⟩ = w.frozen? ⟨g, k, none⟩ := fun k => by unfold World.frozen?; rw [hg]
  exact ⟨(c 0).trans h.c0, (c 1).trans h.c1, (c 2).trans h.c2, (c 3).trans h.c3, (c 4).trans h.c4, (c 5).trans h.c5, (c 6).trans h.c6, (c 7).trans h.c7, (c 8).trans h.c8, (f 7).trans h.f7, (f 8).trans h.f8, Nat.lt_of_lt_of_le h.lt hs⟩
theorem Mc.below {w w' : World} {g B : Nat} {R : Value} {a b : V} {F S : Value} (h : Mc w g R a b F S) (hb : Below B w w') (hg : g < B) : Mc w' g R a b F S := h.keep hb.size (hb.block g hg)
theorem Mc.grows {w w' : World} {g : Nat} {R : Value} {a b : V} {F S : Value} {A A' : Option Addr} (h : Mc w g R a b F S) (hg : Grows w w' A A') (hne : some g ≠ ob A) : Mc w' g R a b F S := h.keep hg.size (hg.heap g h.lt hne)
theorem Mc.set7 {w : World} {g : Nat} {R : Value} {a b : V} {F S : Value} (h : Mc w g R a b F S) (v : Value) : Mc (w.setCell ⟨g, 7, none⟩ v) g R a b v S := by
  have o : ∀ k, k ≠ 7 → (w.setCell ⟨g, 7, none⟩ v).cell? ⟨g, k, none⟩ = w.cell? ⟨g, k, none⟩ := fun k _ => World.cell?_setCell_other w _ _ _ (by simp)
  exact ⟨(o 0 (by omega)).trans h.c0, (o 1 (by omega)).trans h.c1, (o 2 (by omega)).trans h.c2, (o 3 (by omega)).trans h.c3, (o 4 (by omega)).trans h.c4, (o 5 (by omega)).trans h.c5, (o 6 (by omega)).trans h.c6, World.cell?_setCell_same w _ _ h.c7, (o 8 (by omega)).trans h.c8, by simpa using h.f7, by simpa using h.f8, by simpa using h.lt⟩
theorem Mc.set8 {w : World} {g : Nat} {R : Value} {a b : V} {F S : Value} (h : Mc w g R a b F S) (v : Value) : Mc (w.setCell ⟨g, 8, none⟩ v) g R a b F v := by
  have o : ∀ k, k ≠ 8 → (w.setCell ⟨g, 8, none⟩ v).cell? ⟨g, k, none⟩ = w.cell? ⟨g, k, none⟩ := fun k _ => World.cell?_setCell_other w _ _ _ (by simp)
  exact ⟨(o 0 (by omega)).trans h.c0, (o 1 (by omega)).trans h.c1, (o 2 (by omega)).trans h.c2, (o 3 (by omega)).trans h.c3, (o 4 (by omega)).trans h.c4, (o 5 (by omega)).trans h.c5, (o 6 (by omega)).trans h.c6, (o 7 (by omega)).trans h.c7, World.cell?_setCell_same w _ _ h.c8, by simpa using h.f7, by simpa using h.f8, by simpa using h.lt⟩
theorem Mc.drewN {w : World} {g : Nat} {R : Value} {a b : V} {F S : Value} (h : Mc w g R a b F S) (k : Nat) : Mc (w.drewN k) g R a b F S := ⟨h.c0, h.c1, h.c2, h.c3, h.c4, h.c5, h.c6, h.c7, h.c8, h.f7, h.f8, h.lt⟩

theorem vvs_app (l r : List V) : vvs (l ++ r) = vvs l ++ vvs r := by simp [vvs]
theorem vvs_one' (l : List V) : ∀ v ∈ vvs l, v.oneCell' = true := vvs_one l
theorem vvs_take : ∀ (l : List V) (k : Nat), (vvs l).take (k * 3) = vvs (l.take k)
  | _, 0 => rfl
  | [], k + 1 => by simp [vvs]
  | v :: l, k + 1 => by
    have e : vvs (v :: l) = .bool v.t :: .int .i64 v.n :: st v.s :: vvs l := rfl
    rw [e, show (k + 1) * 3 = k * 3 + 1 + 1 + 1 by omega, List.take_succ_cons, List.take_succ_cons, List.take_succ_cons, vvs_take l k]; rfl
theorem vvs_drop : ∀ (l : List V) (k : Nat), (vvs l).drop (k * 3) = vvs (l.drop k)
  | _, 0 => rfl
  | [], k + 1 => by simp [vvs]
  | v :: l, k + 1 => by
    have e : vvs (v :: l) = .bool v.t :: .int .i64 v.n :: st v.s :: vvs l := rfl
    rw [e, show (k + 1) * 3 = k * 3 + 1 + 1 + 1 by omega, List.drop_succ_cons, List.drop_succ_cons, List.drop_succ_cons, vvs_drop l k]; rfl
theorem vty : Sl Tryz.prog 27 32 (.agg #[.bool false, .int .i64 0, .string ⟨#[]⟩]) 3 32 := ⟨Tryz.underlying27, by kernel_rfl, rfl, by omega⟩
theorem vvs_num {w : World} {B n c : Nat} {A : Option Addr} {l : List V} (h : Rc 3 w B A n c (vvs l)) : l.length = n := by have := h.1; rw [vvs_len] at this; omega

/-- All blocks below B stay but that of g, and all below g do. -/
def Xg (g B : Nat) (w w' : World) : Prop := Below g w w' ∧ ∀ k, k < B → k ≠ g → w'.heap[k]? = w.heap[k]?
theorem Xg.refl (g B : Nat) (w : World) : Xg g B w w := ⟨Below.refl _ _, fun _ _ _ => rfl⟩
theorem Xg.trans {g B : Nat} {a b c : World} (h : Xg g B a b) (k : Xg g B b c) : Xg g B a c := ⟨h.1.trans k.1, fun i h1 h2 => (k.2 i h1 h2).trans (h.2 i h1 h2)⟩
theorem Xg.of {g B : Nat} {w w' : World} (h : Below B w w') (hg : g < B) : Xg g B w w' := ⟨h.mono (Nat.le_of_lt hg), fun k hk _ => h.block k hk⟩
theorem Xg.set {g B : Nat} {a w : World} (h : Xg g B a w) (k : Nat) (v : Value) : Xg g B a (w.setCell ⟨g, k, none⟩ v) := ⟨below_set h.1 (Nat.le_refl _) _ _, fun i h1 h2 => (Below.heap_setCell _ _ _ _ h2).trans (h.2 i h1 h2)⟩
/-- A machine under way: its block, the record, the fold's values, the fuel, the stack (its own from B on). -/
def Mac (w : World) (g B : Nat) (R : Value) (a b : V) (fu : Int) (s : List V) : Prop := ∃ A c, Mc w g R a b (.int .i64 fu) (.slice A s.length c) ∧ Oc 3 w 32 B A s.length c (vvs s) ∧ g < B ∧ B ≤ w.heap.size
theorem Mac.below {w w' : World} {g B : Nat} {R : Value} {a b : V} {fu : Int} {s : List V} (h : Mac w g B R a b fu s) (hb : Below w.heap.size w w') : Mac w' g B R a b fu s := by
  obtain ⟨A, c, h1, h2, h3, h4⟩ := h
  exact ⟨A, c, h1.below hb h1.lt, h2.keep hb, h3, Nat.le_trans h4 hb.size⟩
theorem Mac.lt {w : World} {g B : Nat} {R : Value} {a b : V} {fu : Int} {s : List V} (h : Mac w g B R a b fu s) : g < w.heap.size := by
  obtain ⟨A, c, h1, h2⟩ := h
  exact h1.lt
theorem Mac.lo {w : World} {g B : Nat} {R : Value} {a b : V} {fu : Int} {s : List V} (h : Mac w g B R a b fu s) : g < B ∧ B ≤ w.heap.size := by
  obtain ⟨A, c, h1, h2, h3⟩ := h
  exact h3
/-- What a step on it comes to. -/
def RetM (w : World) (g B : Nat) (R : Value) (a b : V) (fu : Int) (s : List V) (e : Ending) (w' : World) : Prop := e = .returned (.tuple #[]) ∧ Mac w' g B R a b fu s ∧ Xg g B w w'
end Go.Proofs.YtoalncojijmelaaGreatDoor

/-
  The machine's top and push.
-/
namespace Go.Proofs.YtoalncojijmelaaGreatDoor
open Go.RowKit Vl Cd Ck

section
variable {P : Program} {t e : TypeId} {zv : Value} {z y : Nat}
theorem Sl.stepAppAt (u : Sl P t e zv z y) {w : World} {ops : Array Oper} {o : Oper} {a : Act} {K : Act → World → Prop} {Q : Exit → Act → World → Prop} {E : Prop} (hw : Region.wanted o (yielded ops a.tmps) = true) (p q : Operand)
    (ho : o.op = .call { callee := .builtin .append, args := #[p, q], argTypes := #[t, t] })
    {base n c B m d N : Nat} {A D : Option Addr} {vs us ws : List Value} (hx : a.eval p = .slice A n c) (hy : a.eval q = .slice D m d) (hown : Oc z w e base A n c vs) (hr : Rc z w B D m d us) (h1 : ∀ v ∈ us, v.oneCell' = true)
    (hN : n + m = N) (hvs : vs ++ us = ws) (hsm : N * y ≤ 140737488355328) (hnm : N ≤ 140737488355328) (hbase : base ≤ w.heap.size)
    (h : ∀ A' c' w', Oc z w' e base A' N c' ws → Grows w w' A A' → K (a.put o.dst (.slice A' N c')) w') : if Region.wanted o (yielded ops a.tmps) = true then Oper.wp P o a w K Q else E := by
  subst hN hvs
  rw [if_pos hw]
  obtain ⟨A', c', w', hrun, h2, h3⟩ := u.appendAt o.type hown hr h1 hsm hnm hbase
  unfold Oper.wp execOp
  simp only [ho, resolve, invoke, builtin, Sem.run_bind, Sem.run_pure, Result.andThen_ok, List.map_toArray, List.map_cons, List.map_nil, hx, hy, hrun]
  exact h A' c' w' h2 h3
end
set_option maxRecDepth 100000 in
set_option maxHeartbeats 2000000 in
/-- The n values at the top. -/
theorem top_c (g : Nat) (R : Value) (a b : V) (F : Value) (A : Option Addr) (m c k : Nat) (w : World) (h : Mc w g R a b F (.slice A m c)) (hm : m ≤ 1000) (hk : k ≤ m) :
    Calls Tryz.prog 39 #[.pointer (some ⟨g, 0, none⟩), .int .i64 (k : Int)] w fun e w' => e = .returned (.slice (if c = m - k then A else A.map (·.add ((m - k) * 3))) (m - (m - k)) (c - (m - k))) ∧ ∃ j, w' = w.drewN j := by
  obtain ⟨c0, c1, c2, c3, c4, c5, c6, c7, c8, f7, f8, hlt⟩ := h
  have e1 : IntKind.i64.wrap ((m : Int) - (k : Int)) = (m : Int) - (k : Int) := IntWalk.i64_in _ (by omega)
  have hcut := Sl.from_ vty A m c (m - k) (by omega) ((m : Int) - (k : Int)) (by omega)
  generalize (if c = m - k then A else A.map (·.add ((m - k) * 3))) = A1 at *
  generalize m - (m - k) = n1 at *
  generalize c - (m - k) = d1 at *
  clear c0 c1 c2 c3 c4 c5 c6 c7 f7 f8 hlt hk
  go_enter Tryz.func39, Tryz.ntmps39
  go_wp2
  go_quiet (fail)
  go_wp2
  go_ret
  exact ⟨rfl, _, rfl⟩

theorem push_end {w w1 w4 : World} {g B : Nat} {R : Value} {a b : V} {fu : Int} {s : List V} {v : V} {A A4 : Option Addr} {c c4 : Nat} (hm : Mc w g R a b (.int .i64 fu) (.slice A s.length c)) (ho : Oc 3 w 32 B A s.length c (vvs s)) (hgB : g < B) (hBs : B ≤ w.heap.size)
    (hb : Below w.heap.size w w1) (hown4 : Oc 3 w4 32 B A4 (s.length + 1) c4 (vvs (s ++ [v]))) (hg4 : Grows w1 w4 A A4) :
    RetM w g B R a b fu (s ++ [v]) (.returned (.tuple #[])) (w4.setCell ⟨g, 8, none⟩ (.slice A4 (s.length + 1) c4)) := by
  have e : (s ++ [v]).length = s.length + 1 := by simp
  have hm4 := ((hm.below hb hm.lt).grows hg4 (oc_low (ho.mono hgB))).set8 (.slice A4 (s.length + 1) c4)
  have hB1 : B ≤ w1.heap.size := Nat.le_trans hBs hb.size
  refine ⟨rfl, ⟨A4, c4, by rw [e]; exact hm4, by rw [e]; exact oc_setLow hown4 hgB _, hgB, by have := hg4.size; simp; omega⟩, ((Xg.of (hb.mono hBs) hgB).trans (Xg.of (hg4.belowC (ho.keep hb) hB1) hgB)).set _ _⟩
set_option maxRecDepth 100000 in
set_option maxHeartbeats 4000000 in
theorem mpush_c (g B : Nat) (R : Value) (a b : V) (fu : Int) (s : List V) (v : V) (w : World) (h : Mac w g B R a b fu s) (hs : s.length ≤ 30) :
    Calls Tryz.prog 57 #[.pointer (some ⟨g, 0, none⟩), vv v] w (RetM w g B R a b fu (s ++ [v])) := by
  obtain ⟨A, c, hm, ho, hgB, hBs⟩ := h
  have hlt := hm.lt
  obtain ⟨w1, hw1⟩ : ∃ w1, w1 = w.alloc (.cells #[.bool v.t, .int .i64 v.n, st v.s] 32) := ⟨_, rfl⟩
  have b1 : Below w.heap.size w w1 := by rw [hw1]; exact (Below.refl _ _).alloc (Nat.le_refl _) _
  have x1 : Bx w1 w.heap.size (.bool v.t) (.int .i64 v.n) (st v.s) := by rw [hw1]; exact Bx.made _ _ _ _ _
  have m1 := hm.below b1 hlt
  have o1 := ho.keep b1
  have hB1 := Nat.le_trans hBs b1.size
  obtain ⟨t, n, u⟩ := v
  obtain ⟨X, hX, -, -, -⟩ := hide_st u
  dsimp only at hw1 x1
  simp only [vv, st, ← hX] at hw1 x1 ⊢
  obtain ⟨w2, hw2⟩ : ∃ w2, w2 = (w1.alloc (.cells #[.bool t, .int .i64 n, .string X] 32)).drewN 1 := ⟨_, rfl⟩
  have b2 : Below w.heap.size w w2 := by rw [hw2]; exact below_drewN (b1.trans ((Below.refl _ _).alloc (Nat.le_of_lt x1.lt) _)) 1
  have r2 : Rc 3 ((w1.alloc (.cells #[.bool t, .int .i64 n, .string X] 32)).drewN 1) (w1.heap.size + 1) (some ⟨w1.heap.size, 0, none⟩) 1 1 (vvs [⟨t, n, u⟩]) := by
    have q := (Rc.lit (z := 3) w1 32 #[.bool t, .int .i64 n, .string X] 1 rfl (by simp [maxLen])).drewN 1
    have e : vvs [⟨t, n, u⟩] = [.bool t, .int .i64 n, .string X] := by rw [hX]; rfl
    rw [e]
    exact q
  have HE := Lib.hid (fun (A4 : Option Addr) (c4 : Nat) (w4 : World) h1 h2 => push_end (v := ⟨t, n, u⟩) (A4 := A4) (c4 := c4) (w4 := w4) (w1 := w2) hm ho hgB hBs b2 h1 h2)
  have M2 := Lib.hid (hm.below b2 hlt)
  rw [hw2] at HE M2
  have W1 := Lib.hid hw1; have M1 := Lib.hid m1; have O1 := Lib.hid o1; have R2 := Lib.hid r2; have HO := Lib.hid ho
  have hg1 := m1.lt
  obtain ⟨x0, x1, x2, -, -, -, xl⟩ := x1
  obtain ⟨-, -, -, -, -, -, -, -, c8, -, f8, hlt1⟩ := m1
  clear hw1 hw2 hX b1 o1 r2 b2 hm ho
  go_enter Tryz.func57, Tryz.ntmps57
  go_wp2_with (rw [← W1.out])
  go_region_law (refine Sl.stepAppAt vty (by rfl) (.tmp 8) (.tmp 10) rfl (n := s.length) (m := 1) (N := s.length + 1) (ws := vvs (s ++ [⟨t, n, u⟩])) rfl rfl (base := B) ((O1.out.alloc _).drewN 1) R2.out (vvs_one _) rfl (vvs_app _ _).symm (by omega) (by omega) (by simp; omega) ?_; intro A4 c4 w4 hown4 hg4; obtain ⟨-, -, -, -, -, -, -, -, k8, -, l8, hlt4⟩ := M2.out.grows hg4 (oc_low (HO.out.mono hgB)))
  all_goals (
    have Hf := Lib.hid (HE.out A4 c4 w4 hown4 hg4)
    clear hown4 hg4 k8 l8
    go_wp2
    go_end0
    exact Hf.out)
end Go.Proofs.YtoalncojijmelaaGreatDoor

/-
  What an instruction costs.
-/
namespace Go.Proofs.YtoalncojijmelaaGreatDoor
open Go.RowKit Vl Cd Ck

theorem tl_app : ∀ a b : List V, tl (a ++ b) = tl a + tl b
  | [], b => by rw [List.nil_append]; show _ = 0 + _; omega
  | v :: a, b => by rw [List.cons_append, tl, tl, tl_app a b]; omega
theorem tl_snoc {l : List V} {k : Nat} {v : V} (h : l[k]? = some v) : tl (l.take (k + 1)) = tl (l.take k) + v.s.length := by
  rw [List.take_add_one, h, tl_app]; rfl
theorem tl_most : ∀ l : List V, (∀ v ∈ l, v.s.length ≤ 1000) → tl l ≤ 1000 * l.length
  | [], _ => Nat.le_refl _
  | v :: l, h => by
    have h1 := h v (List.mem_cons_self ..)
    have h2 := tl_most l fun x hx => h x (List.mem_cons_of_mem _ hx)
    rw [tl, List.length_cons]; omega
def CoRel (w : World) (n : Nat) (l : List V) (u i : Value) (wr : World) : Prop :=
  ∃ k : Nat, k ≤ n ∧ i = .int .i64 (k : Int) ∧ u = .int .i64 (tl (l.take k) : Int) ∧ Hid (Below w.heap.size w wr)
set_option maxRecDepth 100000 in
set_option maxHeartbeats 4000000 in
theorem costOf_c (x : Ins) (g : Nat) (R : Value) (a b : V) (F : Value) (A : Option Addr) (m c : Nat) (s : List V) (w : World) (h : Mc w g R a b F (.slice A m c)) (ho : Rc 3 w w.heap.size A m c (vvs s)) (hm : m ≤ 1000) (hk : ar x.op ≤ m) (hz : ∀ v ∈ s, v.s.length ≤ 1000) :
    Calls Tryz.prog 27 #[.pointer (some ⟨g, 0, none⟩), iv x] w (RetV w (.int .i64 (cst s x.op : Int))) := by
  have hsl := vvs_num ho
  have hrow := ho.from_ (k := m - ar x.op) (by omega)
  rw [vvs_drop] at hrow
  have htop := fun W (hb : Below w.heap.size w W) => top_c g R a b F A m c (ar x.op) W (h.below hb h.lt) hm hk
  have hcst : cst s x.op = tl (s.drop (m - ar x.op)) / 64 + 1 := by unfold cst tp; rw [hsl]
  have hn3 : m - (m - ar x.op) ≤ 3 := by have := ar_le x.op; omega
  have har := fun W => pArity_c x.op W
  obtain ⟨C, hC⟩ : ∃ C, C = cst s x.op := ⟨_, rfl⟩
  rw [← hC] at hcst ⊢
  generalize ar x.op = k at *
  have hl1 : ∀ v ∈ s.drop (m - k), v.s.length ≤ 1000 := fun v hv => hz v (List.mem_of_mem_drop hv)
  generalize s.drop (m - k) = l at *
  generalize (if c = m - k then A else A.map (·.add ((m - k) * 3))) = A1 at *
  generalize m - (m - k) = n1 at *
  generalize c - (m - k) = d1 at *
  have hll := vvs_num hrow
  obtain ⟨op, nn, t⟩ := x
  obtain ⟨X, hX, -, -, -⟩ := hide_st t
  dsimp only at har htop hk
  simp only [iv, st, ← hX]
  obtain ⟨w1, hw1⟩ : ∃ w1, w1 = w.alloc (.cells #[.int .i64 op, .int .i64 nn, .string X] 44) := ⟨_, rfl⟩
  have b1 : Below w.heap.size w w1 := by rw [hw1]; exact (Below.refl _ _).alloc (Nat.le_refl _) _
  have x1 : Bx w1 w.heap.size (.int .i64 op) (.int .i64 nn) (.string X) := by rw [hw1]; exact Bx.made _ _ _ _ _
  have W1 := Lib.hid hw1; have B1 := Lib.hid b1; have Har := Lib.hid har; have Htop := Lib.hid htop; have HR := Lib.hid hrow; have Hl := Lib.hid hl1; have Hll := Lib.hid hll; have HC := Lib.hid hcst
  obtain ⟨c0, c1, c2, -, -, -, -⟩ := x1
  clear hw1 b1 har htop hrow hl1 hll hcst hX hC hsl h ho hz hk
  go_enter Tryz.func27, Tryz.ntmps27
  go_wp2_with (rw [← W1.out])
  refine (Har.out w1).mono ?_
  rintro e w2 ⟨rfl, b2⟩
  have B2 := Lib.hid (B1.out.trans (b2.mono B1.out.size))
  clear b2 c0 c1 c2
  go_wp2_with fail
  refine (Htop.out w2 B2.out).mono ?_
  rintro e w3 ⟨rfl, j, rfl⟩
  have B3 := Lib.hid (below_drewN B2.out j)
  generalize w2.drewN j = w3 at *
  go_wp2
  go_loopw [5, 14] (fun u i wr => CoRel w n1 l u i wr) (fun _ i _ => n1 - (intOf i).toNat)
  case atStart => exact ⟨0, Nat.zero_le _, rfl, rfl, B3⟩
  case round =>
    obtain ⟨k, hk, rfl, rfl, Hb⟩ := hrel
    by_cases hlt : k < n1
    · obtain ⟨b, o, v, rfl, hb, a0, a1, a2, hv⟩ := vvs_at (HR.out.below Hb.out) hlt
      have hv1 := Hl.out v (List.mem_of_getElem? hv)
      have hsn := tl_snoc hv
      have hmo := tl_most (l.take k) fun x hx => Hl.out x (List.mem_of_mem_take hx)
      have hlk : (l.take k).length ≤ 3 := by rw [List.length_take]; omega
      obtain ⟨tt, nv, tv⟩ := v
      obtain ⟨Y, hY, hYs, -, -⟩ := hide_st tv
      dsimp only at a0 a1 a2 hv1 hsn
      simp only [st, ← hY] at a2
      have e1 : IntKind.i64.wrap ((tl (l.take k) : Int) + (Y.size : Int)) = (tl (l.take (k + 1)) : Int) := by rw [hsn, hYs]; exact (IntWalk.i64_in _ (by omega)).trans (by omega)
      obtain ⟨T0, hT0⟩ : ∃ T, T = tl (l.take k) := ⟨_, rfl⟩
      rw [← hT0] at e1 ⊢
      obtain ⟨w7, hw7⟩ : ∃ w7, w7 = wr.alloc (.cells #[.bool tt, .int .i64 nv, .string Y] 32) := ⟨_, rfl⟩
      have b7 : Below wr.heap.size wr w7 := by rw [hw7]; exact (Below.refl _ _).alloc (Nat.le_refl _) _
      have x7 : Bx w7 wr.heap.size (.bool tt) (.int .i64 nv) (.string Y) := by rw [hw7]; exact Bx.made _ _ _ _ _
      have W7 := Lib.hid hw7; have B7 := Lib.hid (Hb.out.trans (b7.mono Hb.out.size))
      obtain ⟨c0, c1, c2, -, -, -, -⟩ := x7
      clear hw7 b7 hY hYs hv hv1 hsn hmo hlk hT0
      go_wp2_with (rw [← W7.out])
      go_roundw
      case rel => exact ⟨k + 1, hlt, by go_num, rfl, B7⟩
      case measure => simp [intOf]; omega
    · obtain rfl : k = n1 := by omega
      have hmo := tl_most l Hl.out
      have hC := HC.out
      rw [List.take_of_length_le (by rw [Hll.out]; exact Nat.le_refl _)]
      rw [Hll.out] at hmo
      generalize tl l = T at *
      clear HC HR Hl Hll
      go_wp2
      go_ret
      refine ⟨?_, Hb.out⟩
      show Ending.returned (.int .i64 (1 + (T : Int) / 64)) = .returned (.int .i64 (C : Int))
      rw [hC, show (1 + (T : Int) / 64) = ((T / 64 + 1 : Nat) : Int) by omega]
end Go.Proofs.YtoalncojijmelaaGreatDoor

/-
  The action of an instruction; the actions that push.
-/
namespace Go.Proofs.YtoalncojijmelaaGreatDoor
open Go.RowKit Vl Cd Ck

def actN (op : Int) : Nat :=
  if op = 0 then 41 else if op = 1 then 42 else if op = 2 then 43
  else if op = 3 then 44 else if op = 22 then 45 else if op = 23 then 46 else 47
theorem actN_enter (op : Int) : ∀ args w, (callFunc (actN op) args).run Tryz.prog w = .ok (.enter (actN op) args) w := by
  unfold actN
  split
  · exact enters_of Tryz.func41 (by kernel_rfl) rfl
  · split
    · exact enters_of Tryz.func42 (by kernel_rfl) rfl
    · split
      · exact enters_of Tryz.func43 (by kernel_rfl) rfl
      · split
        · exact enters_of Tryz.func44 (by kernel_rfl) rfl
        · split
          · exact enters_of Tryz.func45 (by kernel_rfl) rfl
          · split
            · exact enters_of Tryz.func46 (by kernel_rfl) rfl
            · exact enters_of Tryz.func47 (by kernel_rfl) rfl

set_option maxRecDepth 100000 in
set_option maxHeartbeats 4000000 in
theorem action_c (x : Ins) (w : World) : Calls Tryz.prog 28 #[iv x] w (RetV w (.func (.func (actN x.op)) #[iv x] #[])) := by
  obtain ⟨op, nn, t⟩ := x
  obtain ⟨X, hX, -, -, -⟩ := hide_st t
  simp only [iv, st, ← hX]
  obtain ⟨w1, hw1⟩ : ∃ w1, w1 = w.alloc (.cells #[.int .i64 op, .int .i64 nn, .string X] 65) := ⟨_, rfl⟩
  have b1 : Below w.heap.size w w1 := by rw [hw1]; exact (Below.refl _ _).alloc (Nat.le_refl _) _
  have x1 : Bx w1 w.heap.size (.int .i64 op) (.int .i64 nn) (.string X) := by rw [hw1]; exact Bx.made _ _ _ _ _
  have W1 := Lib.hid hw1; have B1 := Lib.hid b1
  obtain ⟨N, hN⟩ : ∃ N, N = actN op := ⟨_, rfl⟩
  rw [← hN]
  unfold actN at hN
  have HN := Lib.hid hN
  obtain ⟨c0, c1, c2, -, -, -, -⟩ := x1
  clear hw1 b1 hX hN
  by_cases h0 : op = 0
  · subst h0
    obtain rfl := HN.out.trans (if_pos rfl)
    clear HN
    go_enter Tryz.func28, Tryz.ntmps28
    go_wp2_with (rw [← W1.out])
    go_ret
    exact ⟨rfl, B1.out⟩
  have d0 : (op == 0) = false := beq_eq_false_iff_ne.2 h0
  have HN := Lib.hid (HN.out.trans (if_neg h0))
  clear h0
  by_cases h0 : op = 1
  · subst h0
    obtain rfl := HN.out.trans (if_pos rfl)
    clear HN d0
    go_enter Tryz.func28, Tryz.ntmps28
    go_wp2_with (rw [← W1.out])
    go_ret
    exact ⟨rfl, B1.out⟩
  have d1 : (op == 1) = false := beq_eq_false_iff_ne.2 h0
  have HN := Lib.hid (HN.out.trans (if_neg h0))
  clear h0
  by_cases h0 : op = 2
  · subst h0
    obtain rfl := HN.out.trans (if_pos rfl)
    clear HN d0 d1
    go_enter Tryz.func28, Tryz.ntmps28
    go_wp2_with (rw [← W1.out])
    go_ret
    exact ⟨rfl, B1.out⟩
  have d2 : (op == 2) = false := beq_eq_false_iff_ne.2 h0
  have HN := Lib.hid (HN.out.trans (if_neg h0))
  clear h0
  by_cases h0 : op = 3
  · subst h0
    obtain rfl := HN.out.trans (if_pos rfl)
    clear HN d0 d1 d2
    go_enter Tryz.func28, Tryz.ntmps28
    go_wp2_with (rw [← W1.out])
    go_ret
    exact ⟨rfl, B1.out⟩
  have d3 : (op == 3) = false := beq_eq_false_iff_ne.2 h0
  have HN := Lib.hid (HN.out.trans (if_neg h0))
  clear h0
  by_cases h0 : op = 22
  · subst h0
    obtain rfl := HN.out.trans (if_pos rfl)
    clear HN d0 d1 d2 d3
    go_enter Tryz.func28, Tryz.ntmps28
    go_wp2_with (rw [← W1.out])
    go_ret
    exact ⟨rfl, B1.out⟩
  have d4 : (op == 22) = false := beq_eq_false_iff_ne.2 h0
  have HN := Lib.hid (HN.out.trans (if_neg h0))
  clear h0
  by_cases h0 : op = 23
  · subst h0
    obtain rfl := HN.out.trans (if_pos rfl)
    clear HN d0 d1 d2 d3 d4
    go_enter Tryz.func28, Tryz.ntmps28
    go_wp2_with (rw [← W1.out])
    go_ret
    exact ⟨rfl, B1.out⟩
  have d5 : (op == 23) = false := beq_eq_false_iff_ne.2 h0
  obtain rfl := HN.out.trans (if_neg h0)
  clear h0 HN
  go_enter Tryz.func28, Tryz.ntmps28
  go_wp2_with (rw [← W1.out])
  go_ret
  exact ⟨rfl, B1.out⟩

section
variable (x : Ins) (g B : Nat) (R : Value) (a b : V) (fu : Int) (s : List V) (w : World)
theorem push_after (v : V) (h : Mac w g B R a b fu s) (hs : s.length ≤ 30) (W : World) (hb : Below w.heap.size w W) :
    Calls Tryz.prog 57 #[.pointer (some ⟨g, 0, none⟩), vv v] W (RetM w g B R a b fu (s ++ [v])) :=
  (mpush_c g B R a b fu s v W (h.below hb) hs).mono fun _ _ ⟨h1, h2, h3⟩ => ⟨h1, h2, (Xg.of (hb.mono h.lo.2) h.lo.1).trans h3⟩
set_option maxRecDepth 100000 in
set_option maxHeartbeats 2000000 in
theorem pushNum_c (h : Mac w g B R a b fu s) (hs : s.length ≤ 30) : Calls Tryz.prog 41 #[iv x, .pointer (some ⟨g, 0, none⟩)] w (RetM w g B R a b fu (s ++ [num x.n])) := by
  have hpu := push_after g B R a b fu s w (num x.n) h hs
  obtain ⟨op, nn, t⟩ := x
  obtain ⟨X, hX, -, -, -⟩ := hide_st t
  simp only [iv, st, ← hX, vv, num] at hpu ⊢
  obtain ⟨w1, hw1⟩ : ∃ w1, w1 = w.alloc (.cells #[.int .i64 op, .int .i64 nn, .string X] 65) := ⟨_, rfl⟩
  have b1 : Below w.heap.size w w1 := by rw [hw1]; exact (Below.refl _ _).alloc (Nat.le_refl _) _
  have x1 : Bx w1 w.heap.size (.int .i64 op) (.int .i64 nn) (.string X) := by rw [hw1]; exact Bx.made _ _ _ _ _
  have hnu := pnum_c nn w1
  have W1 := Lib.hid hw1; have B1 := Lib.hid b1; have Hpu := Lib.hid hpu; have Hnu := Lib.hid hnu
  obtain ⟨c0, c1, c2, -, -, -, -⟩ := x1
  clear hw1 b1 hX hpu hnu h
  go_enter Tryz.func41, Tryz.ntmps41
  go_wp2_with (rw [← W1.out])
  refine Hnu.out.mono ?_
  rintro e w2 ⟨rfl, b2⟩
  have B2 := Lib.hid (B1.out.trans (b2.mono B1.out.size))
  clear b2 c0 c1 c2
  go_wp2_with fail
  refine (Hpu.out w2 B2.out).mono ?_
  rintro e w3 ⟨rfl, hr⟩
  go_wp2
  go_end0
  exact ⟨rfl, hr⟩
set_option maxRecDepth 100000 in
set_option maxHeartbeats 2000000 in
theorem pushText_c (ht : x.s.length ≤ 1000000) (h : Mac w g B R a b fu s) (hs : s.length ≤ 30) : Calls Tryz.prog 42 #[iv x, .pointer (some ⟨g, 0, none⟩)] w (RetM w g B R a b fu (s ++ [txt x.s])) := by
  have hpu := push_after g B R a b fu s w (txt x.s) h hs
  have hte := fun W => ptext_c x.s ht W
  obtain ⟨op, nn, t⟩ := x
  obtain ⟨X, hX, -, -, -⟩ := hide_st t
  obtain ⟨Y, hY⟩ : ∃ Y : ByteArray, Y = ⟨(t.take 1000).toArray⟩ := ⟨_, rfl⟩
  simp only [iv, st, ← hX, vv, txt, ← hY] at hpu hte ⊢
  obtain ⟨w1, hw1⟩ : ∃ w1, w1 = w.alloc (.cells #[.int .i64 op, .int .i64 nn, .string X] 65) := ⟨_, rfl⟩
  have b1 : Below w.heap.size w w1 := by rw [hw1]; exact (Below.refl _ _).alloc (Nat.le_refl _) _
  have x1 : Bx w1 w.heap.size (.int .i64 op) (.int .i64 nn) (.string X) := by rw [hw1]; exact Bx.made _ _ _ _ _
  have W1 := Lib.hid hw1; have B1 := Lib.hid b1; have Hpu := Lib.hid hpu; have Hte := Lib.hid hte
  obtain ⟨c0, c1, c2, -, -, -, -⟩ := x1
  clear hw1 b1 hX hY hpu hte h
  go_enter Tryz.func42, Tryz.ntmps42
  go_wp2_with (rw [← W1.out])
  refine (Hte.out w1).mono ?_
  rintro e w2 ⟨rfl, b2⟩
  have B2 := Lib.hid (B1.out.trans (b2.mono B1.out.size))
  clear b2 c0 c1 c2
  go_wp2_with fail
  refine (Hpu.out w2 B2.out).mono ?_
  rintro e w3 ⟨rfl, hr⟩
  go_wp2
  go_end0
  exact ⟨rfl, hr⟩
set_option maxRecDepth 100000 in
set_option maxHeartbeats 2000000 in
theorem pushSum_c (h : Mac w g B R a b fu s) (hs : s.length ≤ 30) : Calls Tryz.prog 45 #[iv x, .pointer (some ⟨g, 0, none⟩)] w (RetM w g B R a b fu (s ++ [a])) := by
  have hpu := push_after g B R a b fu s w a h hs
  obtain ⟨w1, hw1⟩ : ∃ w1, w1 = w.alloc (.cells #[.int .i64 x.op, .int .i64 x.n, st x.s] 65) := ⟨_, rfl⟩
  have b1 : Below w.heap.size w w1 := by rw [hw1]; exact (Below.refl _ _).alloc (Nat.le_refl _) _
  have hm := h.below b1
  obtain ⟨op, nn, t⟩ := x
  obtain ⟨X, hX, -, -, -⟩ := hide_st t
  obtain ⟨A, c, hm, -⟩ := hm
  obtain ⟨c0, c1, c2, c3, -, -, -, -, -, -, -, hlt⟩ := hm
  obtain ⟨at', an, as'⟩ := a
  obtain ⟨Y, hY, -, -, -⟩ := hide_st as'
  dsimp only at c1 c2 c3 hw1
  simp only [iv, st, ← hX, vv, ← hY] at hpu c3 hw1 ⊢
  have W1 := Lib.hid hw1; have B1 := Lib.hid b1; have Hpu := Lib.hid hpu
  clear hw1 b1 hX hY hpu h c0
  go_enter Tryz.func45, Tryz.ntmps45
  go_wp2_with (rw [← W1.out])
  refine (Hpu.out w1 B1.out).mono ?_
  rintro e w3 ⟨rfl, hr⟩
  go_wp2
  go_end0
  exact ⟨rfl, hr⟩
set_option maxRecDepth 100000 in
set_option maxHeartbeats 2000000 in
theorem pushItem_c (h : Mac w g B R a b fu s) (hs : s.length ≤ 30) : Calls Tryz.prog 46 #[iv x, .pointer (some ⟨g, 0, none⟩)] w (RetM w g B R a b fu (s ++ [b])) := by
  have hpu := push_after g B R a b fu s w b h hs
  obtain ⟨w1, hw1⟩ : ∃ w1, w1 = w.alloc (.cells #[.int .i64 x.op, .int .i64 x.n, st x.s] 65) := ⟨_, rfl⟩
  have b1 : Below w.heap.size w w1 := by rw [hw1]; exact (Below.refl _ _).alloc (Nat.le_refl _) _
  have hm := h.below b1
  obtain ⟨op, nn, t⟩ := x
  obtain ⟨X, hX, -, -, -⟩ := hide_st t
  obtain ⟨A, c, hm, -⟩ := hm
  obtain ⟨-, -, -, -, c4, c5, c6, -, -, -, -, hlt⟩ := hm
  obtain ⟨at', an, as'⟩ := b
  obtain ⟨Y, hY, -, -, -⟩ := hide_st as'
  dsimp only at c4 c5 c6 hw1
  simp only [iv, st, ← hX, vv, ← hY] at hpu c6 hw1 ⊢
  have W1 := Lib.hid hw1; have B1 := Lib.hid b1; have Hpu := Lib.hid hpu
  clear hw1 b1 hX hY hpu h
  go_enter Tryz.func46, Tryz.ntmps46
  go_wp2_with (rw [← W1.out])
  refine (Hpu.out w1 B1.out).mono ?_
  rintro e w3 ⟨rfl, hr⟩
  go_wp2
  go_end0
  exact ⟨rfl, hr⟩
end
section
variable (x : Ins) (g B : Nat) (RA : Option Addr) (rn rc : Nat) (r : List (List UInt8)) (a b : V) (fu : Int) (s : List V) (w : World)
set_option maxRecDepth 100000 in
set_option maxHeartbeats 2000000 in
theorem pushCount_c (hr : Rc 1 w g RA rn rc (lvs r)) (h : Mac w g B (.slice RA rn rc) a b fu s) (hs : s.length ≤ 30) : Calls Tryz.prog 44 #[iv x, .pointer (some ⟨g, 0, none⟩)] w (RetM w g B (.slice RA rn rc) a b fu (s ++ [num r.length])) := by
  have hrl : r.length = rn := by have := hr.1; rw [lvs_length] at this; omega
  have hpu := push_after g B (.slice RA rn rc) a b fu s w (num r.length) h hs
  rw [hrl] at hpu ⊢
  obtain ⟨w1, hw1⟩ : ∃ w1, w1 = w.alloc (.cells #[.int .i64 x.op, .int .i64 x.n, st x.s] 65) := ⟨_, rfl⟩
  have b1 : Below w.heap.size w w1 := by rw [hw1]; exact (Below.refl _ _).alloc (Nat.le_refl _) _
  have hm := h.below b1
  have hnu := fun W => pnum_c (rn : Int) W
  obtain ⟨op, nn, t⟩ := x
  obtain ⟨X, hX, -, -, -⟩ := hide_st t
  obtain ⟨A, c, hm, -⟩ := hm
  obtain ⟨c0, -, -, -, -, -, -, -, -, -, -, hlt⟩ := hm
  dsimp only at hw1
  simp only [iv, st, ← hX, vv, num] at hpu hw1 ⊢
  have W1 := Lib.hid hw1; have B1 := Lib.hid b1; have Hpu := Lib.hid hpu; have Hnu := Lib.hid hnu
  clear hw1 b1 hX hpu h hnu hr hrl
  go_enter Tryz.func44, Tryz.ntmps44
  go_wp2_with (rw [← W1.out])
  refine (Hnu.out w1).mono ?_
  rintro e w2 ⟨rfl, b2⟩
  have B2 := Lib.hid (B1.out.trans (b2.mono B1.out.size))
  clear b2 c0
  go_wp2_with fail
  refine (Hpu.out w2 B2.out).mono ?_
  rintro e w3 ⟨rfl, hr⟩
  go_wp2
  go_end0
  exact ⟨rfl, hr⟩
end
end Go.Proofs.YtoalncojijmelaaGreatDoor

/-
  The action that pushes a field.
-/
namespace Go.Proofs.YtoalncojijmelaaGreatDoor
open Go.RowKit Vl Cd Ck

set_option maxRecDepth 100000 in
set_option maxHeartbeats 2000000 in
theorem pushField_c (x : Ins) (g B : Nat) (RA : Option Addr) (rn rc : Nat) (r : List (List UInt8)) (a b : V) (fu : Int) (s : List V) (w : World) (h0 : 0 ≤ x.n) (hz : ∀ q ∈ r, q.length ≤ 1000000) (hr : Rc 1 w g RA rn rc (lvs r)) (h : Mac w g B (.slice RA rn rc) a b fu s) (hs : s.length ≤ 30) :
    Calls Tryz.prog 43 #[iv x, .pointer (some ⟨g, 0, none⟩)] w (RetM w g B (.slice RA rn rc) a b fu (s ++ [fld r x.n])) := by
  have hrl : r.length = rn := by have := hr.1; rw [lvs_length] at this; omega
  obtain ⟨w1, hw1⟩ : ∃ w1, w1 = w.alloc (.cells #[.int .i64 x.op, .int .i64 x.n, st x.s] 65) := ⟨_, rfl⟩
  have b1 : Below w.heap.size w w1 := by rw [hw1]; exact (Below.refl _ _).alloc (Nat.le_refl _) _
  have x1 : Bx w1 w.heap.size (.int .i64 x.op) (.int .i64 x.n) (st x.s) := by rw [hw1]; exact Bx.made _ _ _ _ _
  have hm := h.below b1
  have hlt := h.lt
  have hr1 := (hr.below (b1.mono (Nat.le_of_lt hlt)))
  obtain ⟨op, nn, t⟩ := x
  obtain ⟨X, hX, -, -, -⟩ := hide_st t
  obtain ⟨A, c, hm, -⟩ := hm
  obtain ⟨k0, -, -, -, -, -, -, -, -, -, -, hlt1⟩ := hm
  dsimp only at hw1 x1 h0
  by_cases hk : nn < (rn : Int)
  · obtain ⟨k, rfl⟩ : ∃ k : Nat, nn = (k : Int) := ⟨nn.toNat, by omega⟩
    have hkn : k < rn := by omega
    have hkl : k < r.length := by omega
    obtain ⟨bb, o, rfl, hb, hc⟩ := hr1.2.2.2 (by omega)
    have hq := List.getElem?_eq_getElem hkl
    have hcell := hc k _ (lvs_get r k _ hq)
    have hqz := hz _ (List.getElem_mem hkl)
    have hf : fld r (k : Int) = txt r[k] := by
      unfold fld
      rw [if_pos (by omega), Int.toNat_natCast, List.getD_eq_getElem?_getD, hq]; rfl
    have hpu := push_after g B (.slice (some ⟨bb, o, none⟩) rn rc) a b fu s w (fld r (k : Int)) h hs
    rw [hf] at hpu
    show Calls Tryz.prog _ _ w (RetM w g B _ a b fu (s ++ [fld r (k : Int)]))
    rw [hf]
    generalize r[k] = q at *
    have hte := fun W => ptext_c q hqz W
    obtain ⟨Y, hY⟩ : ∃ Y : ByteArray, Y = ⟨(q.take 1000).toArray⟩ := ⟨_, rfl⟩
    obtain ⟨Z, hZ⟩ : ∃ Z : ByteArray, Z = ⟨q.toArray⟩ := ⟨_, rfl⟩
    rw [← hZ] at hcell
    simp only [iv, st, ← hX, vv, txt, ← hY, ← hZ] at hpu hte hw1 x1 ⊢
    have W1 := Lib.hid hw1; have B1 := Lib.hid b1; have Hpu := Lib.hid hpu; have Hte := Lib.hid hte
    obtain ⟨c0, c1, c2, -, -, -, -⟩ := x1
    clear hw1 b1 hX hY hZ hpu hte h hr hr1 hrl hc hq hqz hz hf hkl h0 hk
    go_enter Tryz.func43, Tryz.ntmps43
    go_wp2_with (rw [← W1.out])
    go_quiet (fail)
    go_wp2_with fail
    go_quiet (fail)
    go_wp2_with fail
    refine (Hte.out _).mono ?_
    rintro e w2 ⟨rfl, b2⟩
    have B2 := Lib.hid ((below_drewN B1.out _).trans (b2.mono (by simpa using B1.out.size)))
    clear b2 c0 c1 c2 k0 hcell
    go_wp2_with fail
    refine (Hpu.out w2 B2.out).mono ?_
    rintro e w3 ⟨rfl, hr⟩
    go_wp2
    go_end0
    exact ⟨rfl, hr⟩
  · have d1 : decide (nn < (rn : Int)) = false := decide_eq_false hk
    have hf : fld r nn = txt [] := by
      unfold fld
      rw [if_neg (by omega)]
    have hpu := push_after g B (.slice RA rn rc) a b fu s w (fld r nn) h hs
    rw [hf] at hpu
    show Calls Tryz.prog _ _ w (RetM w g B _ a b fu (s ++ [fld r nn]))
    rw [hf]
    have hte := fun W => (show Calls Tryz.prog 35 #[.string ⟨#[]⟩] W (RetV W (.agg #[.bool true, .int .i64 0, .string ⟨#[]⟩])) from ptext_c [] (by simp) W)
    have hpu := fun W hb => (show Calls Tryz.prog 57 #[.pointer (some ⟨g, 0, none⟩), .agg #[.bool true, .int .i64 0, .string ⟨#[]⟩]] W (RetM w g B (.slice RA rn rc) a b fu (s ++ [txt []])) from hpu W hb)
    simp only [iv, st, ← hX] at hw1 x1 ⊢
    generalize txt [] = V0 at *
    have W1 := Lib.hid hw1; have B1 := Lib.hid b1; have Hpu := Lib.hid hpu; have Hte := Lib.hid hte
    obtain ⟨c0, c1, c2, -, -, -, -⟩ := x1
    clear hw1 b1 hX hpu hte h hr hr1 hrl hz hf h0 hk
    go_enter Tryz.func43, Tryz.ntmps43
    go_wp2_with (rw [← W1.out])
    go_quiet (fail)
    go_wp2_with fail
    refine (Hte.out _).mono ?_
    rintro e w2 ⟨rfl, b2⟩
    have B2 := Lib.hid ((below_drewN B1.out _).trans (b2.mono (by simpa using B1.out.size)))
    clear b2 c0 c1 c2 k0
    go_wp2_with fail
    refine (Hpu.out w2 B2.out).mono ?_
    rintro e w3 ⟨rfl, hr⟩
    go_wp2
    go_end0
    exact ⟨rfl, hr⟩
end Go.Proofs.YtoalncojijmelaaGreatDoor
