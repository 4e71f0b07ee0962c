import Derived.Test.YtkekmokdlgocaaaGreatDoorJW2
import Derived.Test.YtkekmokdlgocaaaGreatDoorJW6
import Derived.Laws.EntriesVeiled
set_option maxRecDepth 100000
set_option maxHeartbeats 4000000
namespace Go.Proofs.YtkekmokdlgocaaaGreatDoor.Csv
open Go.RowKit
theorem sty : Sl Tryz.prog 77 9 (.string ⟨#[]⟩) 1 16 := ⟨Tryz.underlying77, by kernel_rfl, rfl, by omega⟩
theorem bty : U8 Tryz.prog 22 5 9 := ⟨Tryz.underlying22, Tryz.underlying5, Tryz.underlying9, by kernel_rfl⟩
structure Box5 (w : World) (g : Nat) (v0 v1 v2 v3 v4 : Value) : Prop where
 c0 : w.cell? ⟨g, 0,none⟩ = some v0
 c1 : w.cell? ⟨g, 1,none⟩ = some v1
 c2 : w.cell? ⟨g, 2,none⟩ = some v2
 c3 : w.cell? ⟨g, 3,none⟩ = some v3
 c4 : w.cell? ⟨g, 4,none⟩ = some v4
 f0 : w.frozen? ⟨g, 0,none⟩ = false
 f1 : w.frozen? ⟨g, 1,none⟩ = false
 f2 : w.frozen? ⟨g, 2,none⟩ = false
 f3 : w.frozen? ⟨g, 3,none⟩ = false
 f4 : w.frozen? ⟨g, 4,none⟩ = false
 lt : g < w.heap.size
section
variable {w w' : World} {g : Nat} {v0 v1 v2 v3 v4 : Value}
theorem Box5.made (w : World) (T : TypeId) (v0 v1 v2 v3 v4 : Value) : Box5 (w.alloc (.cells #[v0, v1, v2, v3, v4] T)) w.heap.size v0 v1 v2 v3 v4 :=
 ⟨by simp, by simp, by simp, by simp, by simp, by simp, by simp, by simp, by simp, by simp, by simp⟩
theorem Box5.keep (h : Box5 w g v0 v1 v2 v3 v4) (hs : w.heap.size ≤ w'.heap.size) (hg : w'.heap[g]? = w.heap[g]?) : Box5 w' g v0 v1 v2 v3 v4 := by
 have c : ∀ k, w'.cell? ⟨g, k,none⟩ = w.cell? ⟨g, k,none⟩ := fun k => by unfold World.cell?; rw [hg]
 have f : ∀ k, w'.frozen? ⟨g, k,none⟩ = w.frozen? ⟨g, k,none⟩ := fun k => by unfold World.frozen?; rw [hg]
 exact ⟨(c 0).trans h.c0, (c 1).trans h.c1, (c 2).trans h.c2, (c 3).trans h.c3, (c 4).trans h.c4, (f 0).trans h.f0, (f 1).trans h.f1, (f 2).trans h.f2, (f 3).trans h.f3, (f 4).trans h.f4, Nat.lt_of_lt_of_le h.lt hs⟩
theorem Box5.below {B : Nat} (h : Box5 w g v0 v1 v2 v3 v4) (hb : Below B w w') (hg : g < B) : Box5 w' g v0 v1 v2 v3 v4 := h.keep hb.size (hb.block g hg)
theorem Box5.drewN (h : Box5 w g v0 v1 v2 v3 v4) (q : Nat) : Box5 (w.drewN q) g v0 v1 v2 v3 v4 := ⟨h.c0, h.c1, h.c2, h.c3, h.c4, h.f0, h.f1, h.f2, h.f3, h.f4, h.lt⟩
theorem Box5.alloc (h : Box5 w g v0 v1 v2 v3 v4) (o : Obj) : Box5 (w.alloc o) g v0 v1 v2 v3 v4 := h.below ((Below.refl w.heap.size w).alloc (Nat.le_refl _) o) h.lt
theorem Box5.grows {A A' : Option Addr} (h : Box5 w g v0 v1 v2 v3 v4) (hb : Grows w w' A A') (hg : some g ≠ ob A) : Box5 w' g v0 v1 v2 v3 v4 := h.keep hb.size (hb.heap g h.lt hg)
theorem cell_other (w : World) (g i j : Nat) (u : Value) (hij : i ≠ j) : (w.setCell ⟨g, i,none⟩ u).cell? ⟨g, j,none⟩ = w.cell? ⟨g, j,none⟩ := World.cell?_setCell_other w _ _ _ (by simp)
theorem Box5.set0 (h : Box5 w g v0 v1 v2 v3 v4) (v : Value) : Box5 (w.setCell ⟨g, 0,none⟩ v) g v v1 v2 v3 v4 := by
 obtain ⟨c0, c1, c2, c3, c4, f0, f1, f2, f3, f4, hlt⟩ := h
 exact ⟨World.cell?_setCell_same w _ _ c0, by rw [cell_other _ _ _ _ _ (by omega)]; exact c1, by rw [cell_other _ _ _ _ _ (by omega)]; exact c2, by rw [cell_other _ _ _ _ _ (by omega)]; exact c3, by rw [cell_other _ _ _ _ _ (by omega)]; exact c4,
  by simpa using f0, by simpa using f1, by simpa using f2, by simpa using f3, by simpa using f4, by simpa using hlt⟩
theorem Box5.set1 (h : Box5 w g v0 v1 v2 v3 v4) (v : Value) : Box5 (w.setCell ⟨g, 1,none⟩ v) g v0 v v2 v3 v4 := by
 obtain ⟨c0, c1, c2, c3, c4, f0, f1, f2, f3, f4, hlt⟩ := h
 exact ⟨by rw [cell_other _ _ _ _ _ (by omega)]; exact c0, World.cell?_setCell_same w _ _ c1, by rw [cell_other _ _ _ _ _ (by omega)]; exact c2, by rw [cell_other _ _ _ _ _ (by omega)]; exact c3, by rw [cell_other _ _ _ _ _ (by omega)]; exact c4,
  by simpa using f0, by simpa using f1, by simpa using f2, by simpa using f3, by simpa using f4, by simpa using hlt⟩
theorem Box5.set2 (h : Box5 w g v0 v1 v2 v3 v4) (v : Value) : Box5 (w.setCell ⟨g, 2,none⟩ v) g v0 v1 v v3 v4 := by
 obtain ⟨c0, c1, c2, c3, c4, f0, f1, f2, f3, f4, hlt⟩ := h
 exact ⟨by rw [cell_other _ _ _ _ _ (by omega)]; exact c0, by rw [cell_other _ _ _ _ _ (by omega)]; exact c1, World.cell?_setCell_same w _ _ c2, by rw [cell_other _ _ _ _ _ (by omega)]; exact c3, by rw [cell_other _ _ _ _ _ (by omega)]; exact c4,
  by simpa using f0, by simpa using f1, by simpa using f2, by simpa using f3, by simpa using f4, by simpa using hlt⟩
theorem Box5.set3 (h : Box5 w g v0 v1 v2 v3 v4) (v : Value) : Box5 (w.setCell ⟨g, 3,none⟩ v) g v0 v1 v2 v v4 := by
 obtain ⟨c0, c1, c2, c3, c4, f0, f1, f2, f3, f4, hlt⟩ := h
 exact ⟨by rw [cell_other _ _ _ _ _ (by omega)]; exact c0, by rw [cell_other _ _ _ _ _ (by omega)]; exact c1, by rw [cell_other _ _ _ _ _ (by omega)]; exact c2, World.cell?_setCell_same w _ _ c3, by rw [cell_other _ _ _ _ _ (by omega)]; exact c4,
  by simpa using f0, by simpa using f1, by simpa using f2, by simpa using f3, by simpa using f4, by simpa using hlt⟩
theorem Box5.set4 (h : Box5 w g v0 v1 v2 v3 v4) (v : Value) : Box5 (w.setCell ⟨g, 4,none⟩ v) g v0 v1 v2 v3 v := by
 obtain ⟨c0, c1, c2, c3, c4, f0, f1, f2, f3, f4, hlt⟩ := h
 exact ⟨by rw [cell_other _ _ _ _ _ (by omega)]; exact c0, by rw [cell_other _ _ _ _ _ (by omega)]; exact c1, by rw [cell_other _ _ _ _ _ (by omega)]; exact c2, by rw [cell_other _ _ _ _ _ (by omega)]; exact c3, World.cell?_setCell_same w _ _ c4,
  by simpa using f0, by simpa using f1, by simpa using f2, by simpa using f3, by simpa using f4, by simpa using hlt⟩
end
theorem oc_setLow {z : Nat} {w : World} {e : TypeId} {base n c : Nat} {A : Option Addr} {vs : List Value} (h : Oc z w e base A n c vs) {p : Addr} (hp : p.block < base) (v : Value) : Oc z (w.setCell p v) e base A n c vs := ownsRow_setCell_below h hp v
theorem own_none {w : World} {e : TypeId} {base c : Nat} {A : Option Addr} {l : List UInt8} (h : Own w e base A c l) : Own w e base A c [] := by
 unfold Own at h ⊢
 rcases h.2 with ⟨hv, hn⟩ | ⟨g, cap, cur, hv, hb, hg, hnc, hcm, hcs, ht⟩
 ·injection hv with hA hl hc
  subst hA hc
  exact World.ownsRow_nil w base e 1
 ·injection hv with hA hl hc
  subst hA hc
  exact ⟨rfl, .inr ⟨g, c, cur, rfl, hb, hg, Nat.zero_le _, hcm, hcs, by simp [bvs]⟩⟩
def fnN : Cv.St → Nat
 | .bg => 137
 | .un => 175
 | .qu => 174
 | .aq => 207
 | .ar => 237
def fnV (s : Cv.St) (g : Nat) : Value := .func (.func (fnN s)) #[.pointer (some ⟨g, 0,none⟩)] #[]
def cv : Option UInt8 → Value
 | none => .int .i64 (-1)
 | some c => .int .i64 (c.toNat : Int)
def Pz (w : World) (g : Nat) (nx : Value) (r : List (List UInt8)) (f : List UInt8) : Prop :=
 ∃ A c D d, Box5 w g nx (.slice A r.length c) (.slice D f.length d) (.bool false) (.int .i64 0) ∧ Oc 1 w 9 (g + 1) A r.length c (lvs r) ∧ Own w 5 (g + 1) D d f ∧ (ob A = none ∨ ob A ≠ ob D)
def After (w : World) (g : Nat) : Cv.Out → Prop
 | .go s r f => Pz w g (fnV s g) r f
 | .fin r => ∃ nx A c D, Box5 w g nx (.slice A r.length c) D (.bool true) (.int .i64 0) ∧ Oc 1 w 9 (g + 1) A r.length c (lvs r)
 | .bad e => ∃ nx D, Box5 w g nx (.slice none 0 0) D (.bool true) (.int .i64 (e : Int))
def RetS (w : World) (g : Nat) (o : Cv.Out) (e : Ending) (w' : World) : Prop := e = .returned (.tuple #[]) ∧ After w' g o ∧ Below g w w'
theorem Pz.set0 {w : World} {g : Nat} {nx : Value} {r : List (List UInt8)} {f : List UInt8} (h : Pz w g nx r f) (v : Value) : Pz (w.setCell ⟨g, 0,none⟩ v) g v r f := by
 obtain ⟨A, c, D, d, h1, h2, h3, h4⟩ := h
 exact ⟨A, c, D, d, h1.set0 v, oc_setLow h2 (by show g < g + 1; omega) v, h3.setLow (by show g < g + 1; omega) v, h4⟩
theorem below_set {B : Nat} {a w : World} (h : Below B a w) {g : Nat} (hg : B ≤ g) (k : Nat) (v : Value) : Below B a (w.setCell ⟨g, k,none⟩ v) := h.setCell hg v
theorem fail_c (g k : Nat) (w : World) (v0 v1 v2 v3 v4 : Value) (h : Box5 w g v0 v1 v2 v3 v4) :
  Calls Tryz.prog 208 #[.pointer (some ⟨g, 0,none⟩), .int .i64 (k : Int)] w (RetS w g (.bad k)) := by
 have h1 := h.set1 (.slice none 0 0)
 have h2 := h1.set4 (.int .i64 (k : Int))
 have h3 := h2.set3 (.bool true)
 have hf : RetS w g (.bad k) (.returned (.tuple #[])) (((w.setCell ⟨g, 1,none⟩ (.slice none 0 0)).setCell ⟨g, 4,none⟩ (.int .i64 (k : Int))).setCell ⟨g, 3,none⟩ (.bool true)) :=
  ⟨rfl, ⟨_, _, h3⟩, below_set (below_set (below_set (Below.refl g w) (Nat.le_refl _) _ _) (Nat.le_refl _) _ _) (Nat.le_refl _) _ _⟩
 have Hf := ek hf; clear hf h3
 obtain ⟨c0, c1, c2, c3, c4, f0, f1, f2, f3, f4, hlt⟩ := h
 obtain ⟨_, _, _, d3, d4, _, _, _, g3, g4, _⟩ := h1
 obtain ⟨_, _, _, e3, _, _, _, _, k3, _, _⟩ := h2
 go_enter Tryz.func208, Tryz.ntmps208
 go_wp2
 go_end0
 exact Hf.out
theorem own_low {w : World} {e : TypeId} {g d : Nat} {D : Option Addr} {f : List UInt8} (h : Own w e (g + 1) D d f) : some g ≠ ob D := fun e => by
 have := (own_ob h g e.symm).1
 omega
theorem oc_low {z : Nat} {w : World} {e : TypeId} {g n c : Nat} {A : Option Addr} {vs : List Value} (h : Oc z w e (g + 1) A n c vs) : some g ≠ ob A := fun e => by
 have := (oc_ob h g e.symm).1
 omega
theorem ob_apart {w w' : World} {A D D' : Option Addr} (h : Grows w w' D D') (hne : ob A = none ∨ ob A ≠ ob D) (ha : ∀ k, ob A = some k → k < w.heap.size) : ob A = none ∨ ob A ≠ ob D' := by
 rcases hne with h1 | h1
 ·exact .inl h1
 ·refine .inr fun e => ?_
  rcases h.2 with h2 | ⟨k, h2, h3⟩
  ·exact h1 (e.trans h2)
  ·have := ha k (e.trans h2); omega
theorem add_end (g : Nat) (s : Cv.St) (r : List (List UInt8)) (f : List UInt8) (x : UInt8) (w w6 : World) (A A6 D : Option Addr) (c c6 d : Nat) (T : TypeId) (hb : Box5 w g (fnV s g) (.slice A r.length c) (.slice D f.length d) (.bool false) (.int .i64 0))
  (ho : Oc 1 w 9 (g + 1) A r.length c (lvs r)) (hw : Own w 5 (g + 1) D d f) (hne : ob A = none ∨ ob A ≠ ob D) (hown6 : Own w6 5 (g + 1) A6 c6 (f ++ [x])) (hg6 : Grows (w.alloc (.cells #[.int .u8 (x.toNat : Int)] T)) w6 D A6) :
  After (w6.setCell ⟨g, 2,none⟩ (.slice A6 (f ++ [x]).length c6)) g (.go s r (f ++ [x])) ∧ Below g w (w6.setCell ⟨g, 2,none⟩ (.slice A6 (f ++ [x]).length c6)) := by
 have hlt := hb.lt
 have hb6 := ((hb.alloc (.cells #[.int .u8 (x.toNat : Int)] T)).grows hg6 (own_low hw)).set2 (.slice A6 (f ++ [x]).length c6)
 have ho6 := oc_setLow (oc_beside (ho.alloc (.cells #[.int .u8 (x.toNat : Int)] T)) hg6 hne) (p := ⟨g, 2,none⟩) (by show g < g + 1; omega) (.slice A6 (f ++ [x]).length c6)
 have hw6 := hown6.setLow (p := ⟨g, 2,none⟩) (by show g < g + 1; omega) (.slice A6 (f ++ [x]).length c6)
 refine ⟨⟨A, c, A6, c6, hb6, ho6, hw6, ob_apart hg6 hne fun k hk => ?_⟩, below_set ?_ (Nat.le_refl _) _ _⟩
 ·exact (oc_ob (ho.alloc (.cells #[.int .u8 (x.toNat : Int)] T)) k hk).2
 ·have b1 : Below g w (w.alloc (.cells #[.int .u8 (x.toNat : Int)] T)) := (Below.refl _ _).alloc (by omega) _
  exact b1.trans ((hg6.below (hw.alloc (.cells #[.int .u8 (x.toNat : Int)] T)) (by simp; omega)).mono (by omega))
theorem add_c (g : Nat) (s : Cv.St) (r : List (List UInt8)) (f : List UInt8) (x : UInt8) (w : World) (h : Pz w g (fnV s g) r f) (hf : f.length ≤ 1000000) :
  Calls Tryz.prog 209 #[.pointer (some ⟨g, 0,none⟩), .int .i64 (x.toNat : Int)] w (RetS w g (Cv.ad s r f x)) := by
 obtain ⟨A, c, D, d, hb, ho, hw, hne⟩ := h
 have hb' := hb
 obtain ⟨c0, c1, c2, c3, c4, f0, f1, f2, f3, f4, hlt⟩ := hb
 by_cases h1 : f.length = 1000
 ·have hd : ((f.length : Int) == 1000) = true := by simp; omega
  have ha : Cv.ad s r f x = .bad 5 := if_pos h1
  rw [ha]
  have Hb := ek hb'; clear ho hw hne
  go_enter Tryz.func209, Tryz.ntmps209
  go_wp2_with fail
  refine (fail_c g 5 _ _ _ _ _ _ Hb.out).mono ?_
  rintro e w' ⟨rfl, h2, h3⟩
  go_wp2
  go_end0
  exact ⟨rfl, h2, h3⟩
 ·have hd : ((f.length : Int) == 1000) = false := by simp; omega
  have ha : Cv.ad s r f x = .go s r (f ++ [x]) := if_neg h1
  rw [ha]
  have hx : IntKind.u8.wrap (x.toNat : Int) = (x.toNat : Int) := by
   have := x.toNat_lt; rw [IntKind.wrap_u8]; omega
  have Hb := ek hb'; have Ho := ek ho; have Hw := ek hw; have Hne := ek hne; clear ho hw hne
  go_enter Tryz.func209, Tryz.ntmps209
  go_wp2_with (at_builtin; go_must (refine bty.wpAppAt rfl (.tmp 16) (.tmp 19) rfl (l := f) (r := [x]) rfl rfl (Hw.out.alloc _) (Rb.oneI _ _ _ x rfl) ?hs1 ?hs2 ?_))
  case hs1 => simp; omega
  case hs2 => simp; omega
  intro A6 c6 w6 hown6 hg6
  have Hf := ek (add_end g s r f x w w6 A A6 D c c6 d _ Hb.out Ho.out Hw.out Hne.out hown6 hg6)
  have hb6 := (Hb.out.alloc (.cells #[.int .u8 (x.toNat : Int)] 5)).grows hg6 (own_low Hw.out)
  obtain ⟨k0, k1, k2, k3, k4, l0, l1, l2, l3, l4, hlt6⟩ := hb6
  clear hown6 hg6
  go_wp2
  go_end0
  have q := Hf.out
  simp only [List.length_append, List.length_cons, List.length_nil, Nat.zero_add] at q
  exact ⟨rfl, q⟩
section
variable {P : Program} {t e : TypeId} {zv : Value} {z y : Nat}
theorem _root_.Go.Proofs.YtkekmokdlgocaaaGreatDoor.Sl.stepAppAt (u : Sl P t e zv z y) {w : World} {ops : Array Oper} {o : Oper} {a : Act} {K : Act → World → Prop} {Q : Exit → Act → World → Prop} {E : Prop} (hw : Region.wanted o (yielded ops a.tmps) = true) (p q : Operand)
  (ho : o.op = .call { callee := .builtin .append, args := #[p, q], argTypes := #[t, t] })
  {base n c B m d N : Nat} {A D : Option Addr} {vs us ws : List Value} (hx : a.eval p = .slice A n c) (hy : a.eval q = .slice D m d) (hown : Oc z w e base A n c vs) (hr : Rc z w B D m d us) (h1 : ∀ v ∈ us, v.oneCell' = true)
  (hN : n + m = N) (hvs : vs ++ us = ws) (hsm : N * y ≤ 140737488355328) (hnm : N ≤ 140737488355328) (hbase : base ≤ w.heap.size)
  (h : ∀ A' c' w', Oc z w' e base A' N c' ws → Grows w w' A A' → K (a.put o.dst (.slice A' N c')) w') : if Region.wanted o (yielded ops a.tmps) = true then Oper.wp P o a w K Q else E := by
 subst hN hvs
 rw [if_pos hw]
 obtain ⟨A', c', w', hrun, h2, h3⟩ := u.appendAt o.type hown hr h1 hsm hnm hbase
 unfold Oper.wp execOp
 simp only [ho, resolve, invoke, builtin, Sem.run_bind, Sem.run_pure, Result.andThen_ok, List.map_toArray, List.map_cons, List.map_nil, hx, hy, hrun]
 exact h A' c' w' h2 h3
end
theorem _root_.Go.Proofs.YtkekmokdlgocaaaGreatDoor.Rc.str1 (w : World) (T : TypeId) (f : List UInt8) (q : Nat) : Rc 1 ((w.alloc (.cells #[.string ⟨f.toArray⟩] T)).drewN q) (w.heap.size + 1) (some ⟨w.heap.size, 0,none⟩) 1 1 [.string ⟨f.toArray⟩] :=
 (Rc.lit (z := 1) w T #[.string ⟨f.toArray⟩] 1 rfl (by simp [maxLen])).drewN q
theorem upto0 (A : Option Addr) (n c : Nat) (h : n ≤ c) : ∀ W kd, (Instr.slice 22 (.slice A n c) none (some (.int kd 0)) none).run Tryz.prog W = .ok (.slice A 0 c) W := fun W kd => by
 rw [run_slice_h W 22 _ _ _ bty.sl' kd 0 (by omega) (by omega), bty.sz]
 by_cases h0 : c = 0
 ·subst h0
  simp [Result.andThen, sliced]
 ·simp [Result.andThen, sliced, h0]
  cases A <;> simp [Addr.add]
theorem end_end (g : Nat) (nx : Value) (r : List (List UInt8)) (f : List UInt8) (w w4 : World) (A A4 D : Option Addr) (c c4 d : Nat) (T : TypeId) (hb : Box5 w g nx (.slice A r.length c) (.slice D f.length d) (.bool false) (.int .i64 0))
  (ho : Oc 1 w 9 (g + 1) A r.length c (lvs r)) (hw : Own w 5 (g + 1) D d f) (hne : ob A = none ∨ ob A ≠ ob D) (hown4 : Oc 1 w4 9 (g + 1) A4 (r.length + 1) c4 (lvs (r ++ [f]))) (hg4 : Grows ((w.alloc (.cells #[.string ⟨f.toArray⟩] T)).drewN 1) w4 A A4) :
  Pz ((w4.setCell ⟨g, 1,none⟩ (.slice A4 (r.length + 1) c4)).setCell ⟨g, 2,none⟩ (.slice D 0 d)) g nx (r ++ [f]) [] ∧ Below g w ((w4.setCell ⟨g, 1,none⟩ (.slice A4 (r.length + 1) c4)).setCell ⟨g, 2,none⟩ (.slice D 0 d)) := by
 have hlt := hb.lt
 have hlow : g < g + 1 := by omega
 have hb4 := (((((hb.alloc (.cells #[.string ⟨f.toArray⟩] T)).drewN 1).grows hg4 (oc_low ho)).set1 (.slice A4 (r.length + 1) c4)).set2 (.slice D 0 d))
 have ho4 := oc_setLow (oc_setLow hown4 (p := ⟨g, 1,none⟩) hlow (.slice A4 (r.length + 1) c4)) (p := ⟨g, 2,none⟩) hlow (.slice D 0 d)
 have hwa : Own ((w.alloc (.cells #[.string ⟨f.toArray⟩] T)).drewN 1) 5 (g + 1) D d f := (hw.alloc _).drewN 1
 have hne2 : ob D = none ∨ ob D ≠ ob A := by
  rcases hne with h | h
  ·rw [h]
   cases hD : ob D with
   | none => exact .inl rfl
   | some k => exact .inr (by simp)
  ·exact .inr fun e => h e.symm
 have hw4 : Own w4 5 (g + 1) D d f := World.ownsRow.kept hwa hg4.1 (by rw [ownBlock_slice]; exact hne2)
 have hw5 := own_none ((hw4.setLow (p := ⟨g, 1,none⟩) hlow (.slice A4 (r.length + 1) c4)).setLow (p := ⟨g, 2,none⟩) hlow (.slice D 0 d))
 have e : (r ++ [f]).length = r.length + 1 := by simp
 refine ⟨⟨A4, c4, D, d, by rw [e]; exact hb4, by rw [e]; exact ho4, hw5, ?_⟩, below_set (below_set ?_ (Nat.le_refl _) _ _) (Nat.le_refl _) _ _⟩
 ·rcases hg4.2 with h | ⟨k, h, h2⟩
  ·rw [h]; exact hne
  ·refine .inr fun e => ?_
   have := (own_ob hw k (e.symm.trans h)).2
   simp at h2; omega
 ·have b1 : Below g w ((w.alloc (.cells #[.string ⟨f.toArray⟩] T)).drewN 1) := below_drewN ((Below.refl _ _).alloc (by omega) _) 1
  exact b1.trans ((hg4.belowC ((ho.alloc _).drewN 1) (by simp; omega)).mono (by omega))
theorem endField_c (g : Nat) (nx : Value) (r : List (List UInt8)) (f : List UInt8) (w : World) (h : Pz w g nx r f) (hr : r.length ≤ 1000000) :
  Calls Tryz.prog 236 #[.pointer (some ⟨g, 0,none⟩)] w fun e w' => e = .returned (.tuple #[]) ∧ Pz w' g nx (r ++ [f]) [] ∧ Below g w w' := by
 obtain ⟨A, c, D, d, hb, ho, hw, hne⟩ := h
 have hb' := hb
 obtain ⟨c0, c1, c2, c3, c4, f0, f1, f2, f3, f4, hlt⟩ := hb
 have hcv : (convert 22 9 (.slice D f.length d)).run Tryz.prog w.drew = .ok (.string ⟨f.toArray⟩) w.drew := bty.conv (w := w.drew) (B := w.heap.size) hw.rb
 have hup := upto0 D f.length d hw.rb.2.1
 have Hb := ek hb'; have Ho := ek ho; have Hw := ek hw; have Hne := ek hne; clear ho hw hne hb'
 go_enter Tryz.func236, Tryz.ntmps236
 go_wp2
 go_region_law (refine Sl.stepAppAt sty (by rfl) (.tmp 6) (.tmp 12) rfl (n := r.length) (m := 1) (N := r.length + 1) (ws := lvs (r ++ [f])) rfl rfl (base := g + 1) ((Ho.out.alloc _).drewN 1) (Rc.str1 w _ f 1) (by simp [Value.oneCell']) rfl (by simp [lvs]) (by omega) (by omega) (by simp; omega) ?_; intro A4 c4 w4 hown4 hg4; obtain ⟨k0, k1, k2, k3, k4, l0, l1, l2, l3, l4, hlt4⟩ := ((Hb.out.alloc _).drewN 1).grows hg4 (oc_low Ho.out))
 all_goals (
  have Hf := ek (end_end g nx r f w w4 A A4 D c c4 d _ Hb.out Ho.out Hw.out Hne.out hown4 hg4)
  have hb5 := (((Hb.out.alloc (.cells #[.string ⟨f.toArray⟩] 9)).drewN 1).grows hg4 (oc_low Ho.out)).set1 (.slice A4 (r.length + 1) c4)
  obtain ⟨p0, p1, p2, p3, p4, o0, o1, o2, o3, o4, hlt5⟩ := hb5
  clear hown4 hg4 hcv
  go_wp2
  go_end0
  exact ⟨rfl, Hf.out⟩)
theorem nb {x y : UInt8} (h : x ≠ y) : ((x.toNat : Int) == (y.toNat : Int)) = false := by
 rw [beq_eq_false_iff_ne]
 intro e
 exact h (UInt8.toNat_inj.1 (by omega))
theorem afterField_fin (g : Nat) (nx : Value) (r : List (List UInt8)) (f : List UInt8) (k : Int) (hk : k = -1 ∨ k = 10) (w : World) (h : Pz w g nx r f) (hr : r.length ≤ 1000000) :
  Calls Tryz.prog 210 #[.pointer (some ⟨g, 0,none⟩), .int .i64 k] w (RetS w g (.fin (r ++ [f]))) := by
 have hfin : ∀ w1, Pz w1 g nx (r ++ [f]) [] → Below g w w1 → RetS w g (.fin (r ++ [f])) (.returned (.tuple #[])) (w1.setCell ⟨g, 3,none⟩ (.bool true)) := fun w1 hp hb => by
  obtain ⟨A, c, D, d, h1, h2, _, _⟩ := hp
  exact ⟨rfl, ⟨nx, A, c, _, h1.set3 (.bool true), oc_setLow h2 (by show g < g + 1; omega) _⟩, below_set hb (Nat.le_refl _) _ _⟩
 have Hfin := ek hfin; clear hfin
 rcases hk with rfl | rfl
 ·go_enter Tryz.func210, Tryz.ntmps210
  go_wp2_with fail
  refine (endField_c g nx r f _ h hr).mono ?_
  rintro e w1 ⟨rfl, hp, hb⟩
  have Hf := ek (Hfin.out w1 hp hb)
  obtain ⟨A, c, D, d, ⟨c0, c1, c2, c3, c4, f0, f1, f2, f3, f4, hlt⟩, _, _, _⟩ := hp
  go_wp2
  go_end0
  exact Hf.out
 ·go_enter Tryz.func210, Tryz.ntmps210
  go_wp2_with fail
  refine (endField_c g nx r f _ h hr).mono ?_
  rintro e w1 ⟨rfl, hp, hb⟩
  have Hf := ek (Hfin.out w1 hp hb)
  obtain ⟨A, c, D, d, ⟨c0, c1, c2, c3, c4, f0, f1, f2, f3, f4, hlt⟩, _, _, _⟩ := hp
  go_wp2
  go_end0
  exact Hf.out
theorem afterField_c (g : Nat) (nx : Value) (r : List (List UInt8)) (f : List UInt8) (c : Option UInt8) (w : World) (h : Pz w g nx r f) (hr : r.length ≤ 1000000) :
  Calls Tryz.prog 210 #[.pointer (some ⟨g, 0,none⟩), cv c] w (RetS w g (Cv.aF r f c)) := by
 match c with
 | none => exact afterField_fin g nx r f (-1) (.inl rfl) w h hr
 | some x =>
  show Calls Tryz.prog _ #[_, .int .i64 (x.toNat : Int)] w (RetS w g (Cv.aF r f (some x)))
  by_cases h44 : x = 44
  ·subst h44
   show Calls Tryz.prog _ #[_, .int .i64 44] w _
   by_cases h50 : r.length + 1 = 50
   ·have ha : Cv.aF r f (some 44) = .bad 5 := by simp [Cv.aF, h50]
    rw [ha]
    go_enter Tryz.func210, Tryz.ntmps210
    go_wp2_with fail
    refine (endField_c g nx r f _ h hr).mono ?_
    rintro e w1 ⟨rfl, hp, hb⟩
    obtain ⟨A, c, D, d, hbx, _, _, _⟩ := hp
    have e1 : (r ++ [f]).length = 50 := by simp; omega
    rw [e1] at hbx
    have hby := hbx.set0 (fnV .bg g)
    have hb2 := below_set hb (Nat.le_refl g) 0 (fnV .bg g)
    have Hby := ek hby; have Hb2 := ek hb2; clear hb2 hb
    obtain ⟨c0, c1, c2, c3, c4, f0, f1, f2, f3, f4, hlt⟩ := hbx
    obtain ⟨k0, k1, k2, k3, k4, l0, l1, l2, l3, l4, hlt2⟩ := hby
    clear h
    simp only [fnV, fnN] at k0 k1 k2 k3 k4 l0 l1 l2 l3 l4 hlt2
    go_wp2_with fail
    refine (fail_c g 5 _ _ _ _ _ _ Hby.out).mono ?_
    rintro e w' ⟨rfl, h2, h3⟩
    go_wp2
    go_end0
    exact ⟨rfl, h2, Hb2.out.trans h3⟩
   ·have ha : Cv.aF r f (some 44) = .go .bg (r ++ [f]) [] := by simp [Cv.aF, h50]
    rw [ha]
    have h50' : (((r ++ [f]).length : Int) == 50) = false := by simp; omega
    go_enter Tryz.func210, Tryz.ntmps210
    go_wp2_with fail
    refine (endField_c g nx r f _ h hr).mono ?_
    rintro e w1 ⟨rfl, hp, hb⟩
    have hp0 := hp.set0 (fnV .bg g)
    have hb2 := below_set hb (Nat.le_refl g) 0 (fnV .bg g)
    have Hp0 := ek hp0; have Hb2 := ek hb2; clear hb2 hb hp0
    obtain ⟨A, c, D, d, hbx, _, _, _⟩ := hp
    have hby := hbx.set0 (fnV .bg g)
    obtain ⟨c0, c1, c2, c3, c4, f0, f1, f2, f3, f4, hlt⟩ := hbx
    obtain ⟨k0, k1, k2, k3, k4, l0, l1, l2, l3, l4, hlt2⟩ := hby
    clear h
    simp only [fnV, fnN] at k0 k1 k2 k3 k4 l0 l1 l2 l3 l4 hlt2
    go_wp2
    go_end0
    exact ⟨rfl, Hp0.out, Hb2.out⟩
  ·have d44 : ((x.toNat : Int) == 44) = false := nb (y := 44) h44
   by_cases h13 : x = 13
   ·subst h13
    have ha : Cv.aF r f (some 13) = .go .ar r f := rfl
    rw [ha]
    show Calls Tryz.prog _ #[_, .int .i64 13] w _
    have hp0 := h.set0 (fnV .ar g)
    have hb2 := below_set (Below.refl g w) (Nat.le_refl g) 0 (fnV .ar g)
    have Hp0 := ek hp0; have Hb2 := ek hb2; clear hb2 hp0
    obtain ⟨A, c, D, d, ⟨c0, c1, c2, c3, c4, f0, f1, f2, f3, f4, hlt⟩, _, _, _⟩ := h
    go_enter Tryz.func210, Tryz.ntmps210
    go_wp2
    go_end0
    exact ⟨rfl, Hp0.out, Hb2.out⟩
   ·have d13 : ((x.toNat : Int) == 13) = false := nb (y := 13) h13
    by_cases h10 : x = 10
    ·subst h10
     exact afterField_fin g nx r f 10 (.inr rfl) w h hr
    ·have d10 : ((x.toNat : Int) == 10) = false := nb (y := 10) h10
     have dm : ((x.toNat : Int) == -1) = false := by rw [beq_eq_false_iff_ne]; omega
     have ha : Cv.aF r f (some x) = .bad 3 := by simp [Cv.aF, h44, h13, h10]
     rw [ha]
     obtain ⟨A, c, D, d, hbx, _, _, _⟩ := h
     have Hbx := ek hbx; clear hbx
     go_enter Tryz.func210, Tryz.ntmps210
     go_wp2_with fail
     refine (fail_c g 3 _ _ _ _ _ _ Hbx.out).mono ?_
     rintro e w' ⟨rfl, h2, h3⟩
     go_wp2
     go_end0
     exact ⟨rfl, h2, h3⟩
theorem afterReturn_c (g : Nat) (nx : Value) (r : List (List UInt8)) (f : List UInt8) (c : Option UInt8) (w : World) (h : Pz w g nx r f) (hr : r.length ≤ 1000000) :
  Calls Tryz.prog 237 #[.pointer (some ⟨g, 0,none⟩), cv c] w (RetS w g (Cv.arS r f c)) := by
 have hbad : ∀ (k : Int), (k == 10) = false → Calls Tryz.prog 237 #[.pointer (some ⟨g, 0,none⟩), .int .i64 k] w (RetS w g (.bad 3)) := fun k hk => by
  have hk2 : (k != 10) = true := by simp [bne, hk]
  obtain ⟨A, c, D, d, hbx, _, _, _⟩ := h
  have Hbx := ek hbx; clear hbx
  go_enter Tryz.func237, Tryz.ntmps237
  go_wp2_with fail
  refine (fail_c g 3 _ _ _ _ _ _ Hbx.out).mono ?_
  rintro e w' ⟨rfl, h2, h3⟩
  go_wp2
  go_end0
  exact ⟨rfl, h2, h3⟩
 match c with
 | none => exact hbad (-1) rfl
 | some x =>
  by_cases h10 : x = 10
  ·subst h10
   have ha : Cv.arS r f (some 10) = Cv.aF r f (some 10) := rfl
   rw [ha]
   have H := ek (afterField_c g nx r f (some 10) w h hr)
   clear hbad h
   show Calls Tryz.prog _ #[_, .int .i64 10] w _
   go_enter Tryz.func237, Tryz.ntmps237
   go_wp2_with fail
   refine H.out.mono ?_
   rintro e w' ⟨rfl, h2, h3⟩
   go_wp2
   go_end0
   exact ⟨rfl, h2, h3⟩
  ·have ha : Cv.arS r f (some x) = .bad 3 := by simp [Cv.arS, h10]
   rw [ha]
   exact hbad _ (nb (y := 10) h10)
theorem afterQuote_c (g : Nat) (nx : Value) (r : List (List UInt8)) (f : List UInt8) (c : Option UInt8) (w : World) (h : Pz w g nx r f) (hr : r.length ≤ 1000000) (hf : f.length ≤ 1000000) :
  Calls Tryz.prog 207 #[.pointer (some ⟨g, 0,none⟩), cv c] w (RetS w g (Cv.aqS r f c)) := by
 have hother : ∀ (k : Int), (k == 34) = false → ∀ o, Calls Tryz.prog 210 #[.pointer (some ⟨g, 0,none⟩), .int .i64 k] w (RetS w g o) → Calls Tryz.prog 207 #[.pointer (some ⟨g, 0,none⟩), .int .i64 k] w (RetS w g o) := fun k hk o H => by
  have H := ek H
  go_enter Tryz.func207, Tryz.ntmps207
  go_wp2_with fail
  refine H.out.mono ?_
  rintro e w' ⟨rfl, h2, h3⟩
  go_wp2
  go_end0
  exact ⟨rfl, h2, h3⟩
 have H := afterField_c g nx r f c w h hr
 match c, H with
 | none, H => exact hother (-1) rfl _ H
 | some x, H =>
  by_cases h34 : x = 34
  ·subst h34
   have ha : Cv.aqS r f (some 34) = Cv.ad .qu r f 34 := rfl
   rw [ha]
   have hp0 := h.set0 (fnV .qu g)
   have hb2 := below_set (Below.refl g w) (Nat.le_refl g) 0 (fnV .qu g)
   have Hp0 := ek (add_c g .qu r f 34 _ hp0 hf); have Hb2 := ek hb2; clear hb2 hp0
   obtain ⟨A, c, D, d, ⟨c0, c1, c2, c3, c4, f0, f1, f2, f3, f4, hlt⟩, _, _, _⟩ := h
   clear H hother
   show Calls Tryz.prog _ #[_, .int .i64 34] w _
   go_enter Tryz.func207, Tryz.ntmps207
   go_wp2_with fail
   refine Hp0.out.mono ?_
   rintro e w' ⟨rfl, h2, h3⟩
   go_wp2
   go_end0
   exact ⟨rfl, h2, Hb2.out.trans h3⟩
  ·have ha : Cv.aqS r f (some x) = Cv.aF r f (some x) := by simp [Cv.aqS, h34]
   rw [ha]
   exact hother _ (nb (y := 34) h34) _ H
theorem quoted_c (g : Nat) (r : List (List UInt8)) (f : List UInt8) (c : Option UInt8) (w : World) (h : Pz w g (fnV .qu g) r f) (hf : f.length ≤ 1000000) :
  Calls Tryz.prog 174 #[.pointer (some ⟨g, 0,none⟩), cv c] w (RetS w g (Cv.quS r f c)) := by
 match c with
 | none =>
  show Calls Tryz.prog _ #[_, .int .i64 (-1)] w (RetS w g (.bad 3))
  obtain ⟨A, c, D, d, hbx, _, _, _⟩ := h
  have Hbx := ek hbx; clear hbx
  go_enter Tryz.func174, Tryz.ntmps174
  go_wp2_with fail
  refine (fail_c g 3 _ _ _ _ _ _ Hbx.out).mono ?_
  rintro e w' ⟨rfl, h2, h3⟩
  go_wp2
  go_end0
  exact ⟨rfl, h2, h3⟩
 | some x =>
  by_cases h34 : x = 34
  ·subst h34
   have ha : Cv.quS r f (some 34) = .go .aq r f := rfl
   rw [ha]
   have hp0 := h.set0 (fnV .aq g)
   have hb2 := below_set (Below.refl g w) (Nat.le_refl g) 0 (fnV .aq g)
   have Hp0 := ek hp0; have Hb2 := ek hb2; clear hb2 hp0
   obtain ⟨A, c, D, d, ⟨c0, c1, c2, c3, c4, f0, f1, f2, f3, f4, hlt⟩, _, _, _⟩ := h
   show Calls Tryz.prog _ #[_, .int .i64 34] w _
   simp only [fnV, fnN] at c0
   go_enter Tryz.func174, Tryz.ntmps174
   go_wp2
   go_end0
   exact ⟨rfl, Hp0.out, Hb2.out⟩
  ·have ha : Cv.quS r f (some x) = Cv.ad .qu r f x := by simp [Cv.quS, h34]
   rw [ha]
   have d34 : ((x.toNat : Int) == 34) = false := nb (y := 34) h34
   have dm : ((x.toNat : Int) == -1) = false := by rw [beq_eq_false_iff_ne]; omega
   have H := ek (add_c g .qu r f x w h hf)
   clear h
   show Calls Tryz.prog _ #[_, .int .i64 (x.toNat : Int)] w _
   go_enter Tryz.func174, Tryz.ntmps174
   go_wp2_with fail
   refine H.out.mono ?_
   rintro e w' ⟨rfl, h2, h3⟩
   go_wp2
   go_end0
   exact ⟨rfl, h2, h3⟩
theorem unquoted_c (g : Nat) (r : List (List UInt8)) (f : List UInt8) (c : Option UInt8) (w : World) (h : Pz w g (fnV .un g) r f) (hr : r.length ≤ 1000000) (hf : f.length ≤ 1000000) :
    Calls Tryz.prog 175 #[.pointer (some ⟨g, 0,none⟩), cv c] w (RetS w g (Cv.unS r f c)) := by
  have hother : ∀ (k : Int), (k = 44 ∨ k = 34 ∨ k = 10 ∨ k = 13 ∨ k = -1) → ∀ o, Calls Tryz.prog 210 #[.pointer (some ⟨g, 0,none⟩), .int .i64 k] w (RetS w g o) → Calls Tryz.prog 175 #[.pointer (some ⟨g, 0,none⟩), .int .i64 k] w (RetS w g o) := fun k hk o H => by
    have H := ek H
    rcases hk with rfl | rfl | rfl | rfl | rfl <;>
    (go_enter Tryz.func175, Tryz.ntmps175
     go_wp2_with fail
     refine H.out.mono ?_
     rintro e w' ⟨rfl, h2, h3⟩
     go_wp2
     go_end0
     exact ⟨rfl, h2, h3⟩)
  have H := afterField_c g _ r f c w h hr
  match c, H with
  | none, H => exact hother (-1) (by omega) _ H
  | some x, H =>
    by_cases hx : x = 44 ∨ x = 34 ∨ x = 10 ∨ x = 13
    · have ha : Cv.unS r f (some x) = Cv.aF r f (some x) := if_pos hx
      rw [ha]
      refine hother (x.toNat : Int) ?_ _ H
      rcases hx with rfl | rfl | rfl | rfl
      · exact .inl rfl
      · exact .inr (.inl rfl)
      · exact .inr (.inr (.inl rfl))
      · exact .inr (.inr (.inr (.inl rfl)))
    · have ha : Cv.unS r f (some x) = Cv.ad .un r f x := if_neg hx
      rw [ha]
      simp only [not_or] at hx
      have d44 : ((x.toNat : Int) == 44) = false := nb (y := 44) hx.1
      have d34 : ((x.toNat : Int) == 34) = false := nb (y := 34) hx.2.1
      have d10 : ((x.toNat : Int) == 10) = false := nb (y := 10) hx.2.2.1
      have d13 : ((x.toNat : Int) == 13) = false := nb (y := 13) hx.2.2.2
      have dm : ((x.toNat : Int) == -1) = false := by rw [beq_eq_false_iff_ne]; omega
      clear hother H
      have H := ek (add_c g .un r f x w h hf)
      clear h
      show Calls Tryz.prog _ #[_, .int .i64 (x.toNat : Int)] w _
      go_enter Tryz.func175, Tryz.ntmps175
      go_wp2_with fail
      refine H.out.mono ?_
      rintro e w' ⟨rfl, h2, h3⟩
      go_wp2
      go_end0
      exact ⟨rfl, h2, h3⟩
theorem begin_c (g : Nat) (nx : Value) (r : List (List UInt8)) (f : List UInt8) (c : Option UInt8) (w : World) (h : Pz w g nx r f) (hr : r.length ≤ 1000000) (hf : f.length ≤ 1000000) :
  Calls Tryz.prog 137 #[.pointer (some ⟨g, 0,none⟩), cv c] w (RetS w g (Cv.bgS r f c)) := by
 have hp0 := h.set0 (fnV .un g)
 have hb2 := below_set (Below.refl g w) (Nat.le_refl g) 0 (fnV .un g)
 have H := unquoted_c g r f c _ hp0 hr hf
 have hother : ∀ (k : Int), (k == 34) = false → ∀ o, Calls Tryz.prog 175 #[.pointer (some ⟨g, 0,none⟩), .int .i64 k] (w.setCell ⟨g, 0,none⟩ (fnV .un g)) (RetS (w.setCell ⟨g, 0,none⟩ (fnV .un g)) g o) → Calls Tryz.prog 137 #[.pointer (some ⟨g, 0,none⟩), .int .i64 k] w (RetS w g o) := fun k hk o H => by
  have H := ek H; have Hb2 := ek hb2; clear hb2 hp0
  obtain ⟨A, c, D, d, ⟨c0, c1, c2, c3, c4, f0, f1, f2, f3, f4, hlt⟩, _, _, _⟩ := h
  go_enter Tryz.func137, Tryz.ntmps137
  go_wp2_with fail
  refine H.out.mono ?_
  rintro e w' ⟨rfl, h2, h3⟩
  go_wp2
  go_end0
  exact ⟨rfl, h2, Hb2.out.trans h3⟩
 match c, H with
 | none, H => exact hother (-1) rfl _ H
 | some x, H =>
  by_cases h34 : x = 34
  ·subst h34
   have ha : Cv.bgS r f (some 34) = .go .qu r f := rfl
   rw [ha]
   clear hother hp0 hb2 H
   have hp0 := h.set0 (fnV .qu g)
   have hb2 := below_set (Below.refl g w) (Nat.le_refl g) 0 (fnV .qu g)
   have Hp0 := ek hp0; have Hb2 := ek hb2; clear hb2 hp0
   obtain ⟨A, c, D, d, ⟨c0, c1, c2, c3, c4, f0, f1, f2, f3, f4, hlt⟩, _, _, _⟩ := h
   show Calls Tryz.prog _ #[_, .int .i64 34] w _
   go_enter Tryz.func137, Tryz.ntmps137
   go_wp2
   go_end0
   exact ⟨rfl, Hp0.out, Hb2.out⟩
  ·have ha : Cv.bgS r f (some x) = Cv.unS r f (some x) := by simp [Cv.bgS, h34]
   rw [ha]
   exact hother _ (nb (y := 34) h34) _ H
theorem step_c (g : Nat) (s : Cv.St) (r : List (List UInt8)) (f : List UInt8) (c : Option UInt8) (w : World) (h : Pz w g (fnV s g) r f) (hr : r.length ≤ 1000000) (hf : f.length ≤ 1000000) :
  Calls Tryz.prog (fnN s) #[.pointer (some ⟨g, 0,none⟩), cv c] w (RetS w g (Cv.stp s r f c)) := by
 cases s with
 | bg => exact begin_c g _ r f c w h hr hf
 | un => exact unquoted_c g r f c w h hr hf
 | qu => exact quoted_c g r f c w h hf
 | aq => exact afterQuote_c g _ r f c w h hr hf
 | ar => exact afterReturn_c g _ r f c w h hr
end Go.Proofs.YtkekmokdlgocaaaGreatDoor.Csv
