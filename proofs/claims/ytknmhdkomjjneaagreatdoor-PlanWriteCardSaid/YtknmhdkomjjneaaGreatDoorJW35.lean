/-
  Joined: N2 N7 N8.
-/
import Derived.Test.YtknmhdkomjjneaaGreatDoorJW7
import Derived.Test.YtknmhdkomjjneaaGreatDoorJW11
import Derived.Test.YtknmhdkomjjneaaGreatDoorJW12
import Derived.Test.YtknmhdkomjjneaaGreatDoorJW14
import Derived.Test.YtknmhdkomjjneaaGreatDoorJW15
import Derived.Test.YtknmhdkomjjneaaGreatDoorJW22
import Derived.Test.YtknmhdkomjjneaaGreatDoorJW30
import Derived.Test.YtknmhdkomjjneaaGreatDoorJW25
import Derived.Test.YtknmhdkomjjneaaGreatDoorJW34
import Derived.Shelf.Abstract
import Derived.Test.YtknmhdkomjjneaaGreatDoorJW24
import Derived.Deep.RegionHeld3
import Derived.BigQuiet
/-
  plan: what a format's functions come to, whatever the format: the pieces, whether a place is within quotes.
-/
namespace Go.Proofs.YtknmhdkomjjneaaGreatDoor.Pl
open Go.RowKit

def scF (f k : Int) (l : List UInt8) : List (Nat × List (List (List UInt8))) × Nat × Nat :=
  if f = 0 then ((Tm.ls l).map Tm.pc, l.length, 0)
  else if f = 1 then ((Csv.Cv.ls l).map Csv.Cv.pc, Csv.Cv.good l, Csv.Cv.er l)
  else if f = 2 then ((Sq.Sm.ps l).1, (Sq.Sm.ps l).2, Sq.Sm.er l)
  else if f = 3 then Cht.Hm.scS l
  else if f = 4 then ((Fix.Fx.ch l k.toNat).map Tm.pc, l.length / k.toNat * k.toNat, Fix.scE l.length k.toNat)
  else Bun.Bm.scS l
def RetS (w : World) (t : List (Nat × List (List (List UInt8))) × Nat × Nat) (e : Ending) (w' : World) : Prop :=
  ∃ A c, e = .returned (.tuple #[.slice A t.1.length c, .int .i64 (t.2.1 : Int), .int .i64 (t.2.2 : Int)]) ∧ PLS w' (Fr w.heap.size w') A t.1.length c t.1 ∧ Below w.heap.size w w'
def inF (f : Int) (l : List UInt8) (a : Int) : Bool := f == 1 && Csv.Cv.odd (l.take a.toNat)
def Ent (a : Nat) : Prop := ∀ args W, Sem.run Tryz.prog (callFunc a args) W = .ok (.enter a args) W
theorem ent_of {f : FuncId} {fn : Func} {c : Code} (hf : Tryz.prog.funcs[f]? = some fn) (hname : (fn.name == "runtime.NumGoroutine") = false) (hb : fn.body = some c) : Ent f := fun args W => enters_of hf hname hb args W

theorem fixed1_c (A : Option Addr) (n c g k : Nat) (l : List UInt8) (w : World) (hr : Rb w w.heap.size A n c l) (hn : n ≤ 90000) (hk : 1 ≤ k) (hk2 : k ≤ 1000) (hg : w.cell? ⟨g, 0, none⟩ = some (.int .i64 (k : Int))) :
    Calls Tryz.prog 90 #[.slice A n c, .pointer (some ⟨g, 0, none⟩)] w (RetS w (scF 4 k l)) := by
  have hc := Fix.scan_c A n c k l w hr (by omega) hk hk2
  have Hc := Lib.hid hc
  clear hc hr
  go_enter Tryz.func90, Tryz.ntmps90
  go_wp2_with fail
  refine Hc.out.mono ?_
  rintro e w' ⟨A1, c1, rfl, h1, h2⟩
  have H1 := Lib.hid h1
  clear h1
  go_wp2
  go_ret3
  exact ⟨A1, c1, by simp [scF], by simpa [scF] using H1.out, h2⟩

theorem outside_c (A : Option Addr) (n c : Nat) (a : Int) (w : World) : Calls Tryz.prog 94 #[.slice A n c, .int .i64 a] w fun e w' => e = .returned (.bool false) ∧ w = w' := by
  go_enter Tryz.func94, Tryz.ntmps94
  go_wp2
  go_ret
  exact ⟨rfl, rfl⟩

theorem scF_txt (k : Int) (l : List UInt8) : scF 0 k l = ((Tm.ls l).map Tm.pc, l.length, 0) := rfl
theorem scF_csv (k : Int) (l : List UInt8) : scF 1 k l = ((Csv.Cv.ls l).map Csv.Cv.pc, Csv.Cv.good l, Csv.Cv.er l) := rfl
theorem scF_seq (k : Int) (l : List UInt8) : scF 2 k l = ((Sq.Sm.ps l).1, (Sq.Sm.ps l).2, Sq.Sm.er l) := rfl
theorem scF_cht (k : Int) (l : List UInt8) : scF 3 k l = Cht.Hm.scS l := rfl
theorem scF_fix (k : Int) (l : List UInt8) : scF 4 k l = ((Fix.Fx.ch l k.toNat).map Tm.pc, l.length / k.toNat * k.toNat, Fix.scE l.length k.toNat) := rfl
theorem scF_bun (k : Int) (l : List UInt8) : scF 5 k l = Bun.Bm.scS l := rfl
theorem F3.scan {W0 : World} {f k : Int} {s r i : Value} (h : F3 W0 f k s r i) :
    ∃ a ca, s = fv a ca ∧ Ent a ∧ ∀ (W : World) (A : Option Addr) (n c : Nat) (l : List UInt8), Below W0.heap.size W0 W → Rb W W.heap.size A n c l → n ≤ 90000 → Sq.Mx W → Calls Tryz.prog a (#[.slice A n c] ++ ca) W (RetS W (scF f k l)) := by
  rcases h with ⟨_, rfl, h⟩ | ⟨rfl, h1, h2, g, hg, hlt, rfl, rfl, rfl⟩
  · rcases h with ⟨rfl, rfl, -⟩ | ⟨rfl, rfl, -⟩ | ⟨rfl, rfl, -⟩ | ⟨rfl, rfl, -⟩ | ⟨rfl, rfl, -⟩
    · refine ⟨_, _, rfl, ent_of Tryz.func95 (by kernel_rfl) rfl, fun W A n c l _ hr hn _ => (Txt.scan_c A n c l W hr (by omega)).mono fun e w' ⟨A1, c1, h0, h1, h2⟩ => ?_⟩
      rw [scF_txt]
      exact ⟨A1, c1, by rw [List.length_map]; exact h0, by rw [List.length_map]; exact h1, h2⟩
    · refine ⟨_, _, rfl, ent_of Tryz.func97 (by kernel_rfl) rfl, fun W A n c l _ hr hn _ => (Csv.scan_c A n c l W hr (by omega)).mono fun e w' ⟨A1, c1, h0, h1, h2⟩ => ?_⟩
      rw [scF_csv]
      exact ⟨A1, c1, by rw [List.length_map]; exact h0, by rw [List.length_map]; exact h1, h2⟩
    · refine ⟨_, _, rfl, ent_of Tryz.func100 (by kernel_rfl) rfl, fun W A n c l _ hr hn hx => (Sq.scan_c A n c l W hr (by omega) hx).mono fun e w' ⟨A1, c1, h0, h1, h2⟩ => ?_⟩
      rw [scF_seq]
      exact ⟨A1, c1, h0, h1, h2⟩
    · refine ⟨_, _, rfl, ent_of Tryz.func102 (by kernel_rfl) rfl, fun W A n c l _ hr hn _ => (Cht.scan_c A n c l W hr (by omega)).mono fun e w' ⟨A1, c1, h0, h1, h2⟩ => ?_⟩
      rw [scF_cht]
      exact ⟨A1, c1, h0, h1, h2⟩
    · refine ⟨_, _, rfl, ent_of Tryz.func104 (by kernel_rfl) rfl, fun W A n c l _ hr hn _ => (Bun.scan_c A n c l W hr (by omega)).mono fun e w' ⟨A1, c1, h0, h1, h2⟩ => ?_⟩
      rw [scF_bun]
      exact ⟨A1, c1, h0, h1, h2⟩
  · refine ⟨_, _, rfl, ent_of Tryz.func90 (by kernel_rfl) rfl, fun W A n c l hb hr hn _ => ?_⟩
    have e : ((k.toNat : Nat) : Int) = k := by omega
    have hc := (hb.cell (p := ⟨g, 0, none⟩) hlt).trans hg
    rw [← e] at hc
    have := fixed1_c A n c g k.toNat l W hr hn (by omega) (by omega) hc
    rw [e] at this
    exact this
theorem asc_take {hi : Nat} : ∀ {l : List Nat} {lo : Nat} (k : Nat), Asc lo hi l → Asc lo hi (l.take k)
  | [], _, _, _ => by simp [Asc]
  | _ :: _, _, 0, _ => trivial
  | _ :: _, _, k + 1, h => ⟨h.1, h.2.1, asc_take k h.2.2⟩
theorem pcs_at : ∀ (D : List Bun.Bm.F) (V : List (List UInt8)), (Bun.Bm.pcs D V).map (·.1) = (D.take V.length).map (·.at_)
  | [], V => by simp [Bun.Bm.pcs]
  | f :: D, [] => by simp [Bun.Bm.pcs]
  | f :: D, x :: V => by
    have ih := pcs_at D V
    unfold Bun.Bm.pcs at ih ⊢
    simp only [List.zipWith_cons_cons, List.map_cons, List.length_cons, List.take_succ_cons, ih]
theorem bun_dir {b : List UInt8} {D : List Bun.Bm.F} {e : Nat} (h : Bun.Bm.dir b = some (D, e)) : Asc 0 b.length (D.map (·.at_)) := by
  rcases h1 : Bun.Bm.num b.length b with _ | ⟨z, s⟩
  · rw [Bun.Bm.dir_nonum h1] at h; cases h
  · by_cases h2 : z ≤ b.length - s
    · rcases Bun.Bm.open_kinds ((b.take (s + z)).drop s) with ⟨x, h3⟩ | ⟨k, hk, h3⟩
      · rw [Bun.Bm.dir_in h1 h2 h3] at h
        have ho := congrArg List.length (Bun.Bm.open_only h3)
        rw [Bun.Bm.sl_len, List.length_drop, List.length_take] at ho
        have hs := (Bun.Bm.num_only h1).2.2.2.1
        rcases h4 : Bun.Bm.num 1000 x with _ | ⟨m, s2⟩
        · rw [Bun.Bm.takeE_nonum h4] at h; cases h
        · have hs2 := (Bun.Bm.num_only h4).2.2.2.1
          rcases h5 : Bun.Bm.rdE m s s2 (s + z) [] x with _ | ⟨D', p, e'⟩
          · rw [Bun.Bm.takeE_none h4 h5] at h; cases h
          · by_cases hp : p = x.length
            · rw [Bun.Bm.takeE_ok h4 h5 hp] at h
              injection h with h
              injection h with h6 h7
              subst h6
              exact ((bun_rd m s s2 (s + z) [] x D' p e' hs2 h5).1.low (Nat.zero_le _)).high (by omega)
            · rw [Bun.Bm.takeE_more h4 h5 hp] at h; cases h
      · rw [Bun.Bm.dir_bad h1 h2 h3 hk] at h; cases h
    · rw [Bun.Bm.dir_short h1 h2] at h; cases h
theorem bun_asc (b : List UInt8) : Asc 0 b.length ((Bun.Bm.scS b).1.map (·.1)) := by
  rcases h : Bun.Bm.dir b with _ | ⟨D, e⟩
  · rw [Bun.Bm.scS_none h]; trivial
  · rw [Bun.Bm.scS_pcs h, pcs_at, List.map_take]
    exact asc_take _ (bun_dir h)
theorem map_pc (l : List (Nat × List UInt8)) : (l.map Tm.pc).map (·.1) = l.map (·.1) := by rw [List.map_map]; rfl
theorem map_cpc (l : List (Nat × List (List UInt8))) : (l.map Csv.Cv.pc).map (·.1) = l.map (·.1) := by rw [List.map_map]; rfl
theorem asc_F {f k : Int} (h : isF f k = true) (l : List UInt8) : Asc 0 l.length ((scF f k l).1.map (·.1)) := by
  unfold scF
  split
  · dsimp only
    rw [map_pc]
    have := txt_asc l 0 []
    rw [show 0 + ([] : List UInt8).length + l.length = l.length by simp] at this
    exact this
  · split
    · dsimp only
      rw [map_cpc]
      have := csv_asc l 0 .bg [] [] 0 (Nat.le_refl _)
      rw [Nat.zero_add] at this
      exact this
    · split
      · exact sq_asc l
      · split
        · unfold Cht.Hm.scS
          rcases hi : Cht.Hm.ix l with _ | L
          · trivial
          · obtain ⟨-, h2, h3⟩ := Cht.Hm.ix_inv hi
            have := cht_asc l L 0 h3
            rw [Nat.zero_add] at this
            exact this.high (by omega)
        · split
          · rename_i h4
            subst h4
            have hk : 1 ≤ k.toNat := by
              unfold isF at h
              rw [if_pos rfl] at h
              simp at h
              omega
            dsimp only
            rw [map_pc]
            have := fix_asc l k.toNat hk (l.length / k.toNat) 0
            rw [Nat.zero_mul, Nat.zero_add] at this
            exact this.high (Nat.div_mul_le_self _ _)
          · exact bun_asc l
end Go.Proofs.YtknmhdkomjjneaaGreatDoor.Pl

/-
  plan: which cuts are within quotes.
-/
namespace Go.Proofs.YtknmhdkomjjneaaGreatDoor.Pl
open Go.RowKit

def insF (f : Int) (b : List UInt8) (C : List Nat) : List Bool := C.map fun c : Nat => inF f b (c : Int)
def lvb (L : List Bool) : List Value := L.map .bool
theorem lvb_len (L : List Bool) : (lvb L).length = L.length := by simp [lvb]
theorem insF_len (f : Int) (b : List UInt8) (C : List Nat) : (insF f b C).length = C.length := by simp [insF]
theorem inF_next (f : Int) (b : List UInt8) (c d : Nat) (h : c ≤ d) : inF f b (d : Int) = (inF f b (c : Int) != inF f (b.drop c) ((d : Int) - (c : Int))) := by
  unfold inF
  by_cases h1 : f = 1
  · subst h1
    have e : ((d : Int) - (c : Int)).toNat = d - c := by omega
    simp only [beq_self_eq_true, Bool.true_and, Int.toNat_natCast, e]
    exact odd_next b c d h
  · rw [beq_eq_false_iff_ne.2 h1]; rfl
theorem inF_zero (f : Int) (b : List UInt8) : inF f b ((0 : Nat) : Int) = false := by
  unfold inF
  simp [Csv.Cv.odd_nil]
abbrev brow (f : Int) (b : List UInt8) (C : List Nat) (j m : Nat) : List Value := lvb (insF f b (C.take j)) ++ List.replicate (m - j) (.bool false)
theorem brow_len (f : Int) (b : List UInt8) (C : List Nat) (j m : Nat) (h : C.length = m) (hj : j ≤ m) : (brow f b C j m).length = m := by
  rw [List.length_append, lvb_len, insF_len, List.length_take, List.length_replicate]; omega
theorem brow_next (f : Int) (b : List UInt8) (C : List Nat) (j m d : Nat) (h : C[j]? = some d) (hm : C.length = m) (hj : j < m) :
    (brow f b C j m).set j (.bool (inF f b (d : Int))) = brow f b C (j + 1) m := by
  have hl : (lvb (insF f b (C.take j))).length = j := by rw [lvb_len, insF_len, List.length_take]; omega
  unfold brow
  rw [List.set_append_right _ _ (by omega), hl, Nat.sub_self, show m - j = (m - (j + 1)) + 1 by omega, List.replicate_succ, List.set_cons_zero, List.take_add_one, h]
  unfold insF lvb
  simp
theorem brow_get (f : Int) (b : List UInt8) (C : List Nat) (i j m c : Nat) (h : C[i]? = some c) (hi : i < j) : (brow f b C j m)[i]? = some (.bool (inF f b (c : Int))) := by
  have hl : i < C.length := by
    rcases Nat.lt_or_ge i C.length with h1 | h1
    · exact h1
    · rw [List.getElem?_eq_none h1] at h; cases h
  unfold brow
  rw [List.getElem?_append_left (by rw [lvb_len, insF_len, List.length_take]; omega)]
  unfold lvb insF
  simp [hi, h]
theorem brow_old (f : Int) (b : List UInt8) (C : List Nat) (j m : Nat) (h : C.length = m) (hj : j < m) : (brow f b C j m)[j]? = some (.bool false) :=
  Bun.row_old _ j m _ (by rw [lvb_len, insF_len, List.length_take]; omega) hj
theorem brow_one (f : Int) (b : List UInt8) (C : List Nat) (m : Nat) (h0 : C[0]? = some 0) (hm : 1 ≤ m) : (Bun.mrow (.bool false) m).toList = brow f b C 1 m := by
  have e : C.take 1 = [0] := by
    rcases C with _ | ⟨a, C⟩
    · simp at h0
    · simp at h0; subst h0; rfl
  unfold brow
  rw [e]
  unfold Bun.mrow lvb insF
  obtain ⟨k, rfl⟩ : ∃ k, m = k + 1 := ⟨m - 1, by omega⟩
  simp only [List.map_cons, List.map_nil, inF_zero, List.replicate_succ]
  rfl
theorem bty1 : Sl Tryz.prog 34 4 (.bool false) 1 1 := ⟨Tryz.underlying34, by kernel_rfl, rfl, by omega⟩
theorem inv_out (f : Int) (hf : f ≠ 1) (D : Option Addr) (n c : Nat) (x : Int) (l : List UInt8) (W : World) : Calls Tryz.prog 94 #[.slice D n c, .int .i64 x] W fun e w' => e = .returned (.bool (inF f l x)) ∧ Below W.heap.size W w' :=
  (outside_c D n c x W).mono fun e w2 ⟨h1, h2⟩ => ⟨by rw [h1, inF, beq_eq_false_iff_ne.2 hf]; rfl, by rw [← h2]; exact Below.refl _ _⟩
theorem inv_csv (D : Option Addr) (n c : Nat) (x : Int) (l : List UInt8) (W : World) (hx : I64 x) (hr : Rb W W.heap.size D n c l) (hn : n ≤ 1000000) : Calls Tryz.prog 99 #[.slice D n c, .int .i64 x] W fun e w' => e = .returned (.bool (inF 1 l x)) ∧ Below W.heap.size W w' :=
  (Csv.inside_c D n c l x hx W hr hn).mono fun e w2 ⟨h1, h2⟩ => ⟨by rw [h1]; rfl, h2⟩
def InsRel (g m : Nat) (w : World) (f : Int) (l : List UInt8) (C : List Nat) (i : Value) (wr : World) : Prop :=
  ∃ j : Nat, i = .int .i64 (j : Int) ∧ 1 ≤ j ∧ j ≤ m ∧ Oc 1 wr 4 g (some ⟨g, 0, none⟩) m m (brow f l C j m) ∧ Below w.heap.size w wr
def RetB (w : World) (L : List Bool) (e : Ending) (w' : World) : Prop :=
  ∃ A c, e = .returned (.slice A L.length c) ∧ RcS 1 w' (Fr w.heap.size w') A L.length c (lvb L) ∧ Below w.heap.size w w'

set_option maxRecDepth 100000 in
set_option maxHeartbeats 2000000 in
theorem insides_out (A : Option Addr) (n c : Nat) (l : List UInt8) (E : Option Addr) (m d : Nat) (C : List Nat) (s r : Value) (f : Int) (hf : f ≠ 1) (w : World) (hr : Rb w w.heap.size A n c l) (hn : n ≤ 90000) (hc : Rc 1 w w.heap.size E m d (ivs (ic C))) (hC : Cu n C) :
    Calls Tryz.prog 39 #[.agg #[s, r, fv 94 #[]], .slice A n c, .slice E m d] w (RetB w (insF f l C)) := by
  have hl := hr.len
  have hCl : C.length = m := by have := hc.len1; rw [ivs_length, ic_len] at this; exact this
  have hA := cu_get hC
  obtain ⟨hC1, hC0⟩ := cu_pos hC
  have hnc := hr.2.1
  have hcm : c ≤ 9223372036854775807 := by have h3 := hr.2.2.1; unfold maxLen at h3; omega
  have hm : m ≤ n + 1 := by
    have h1 : ∀ (L : List Nat) (lo hi : Nat), Asc lo hi L → lo + L.length ≤ hi ∨ L = [] := by
      intro L
      induction L with
      | nil => intro lo hi _; exact .inr rfl
      | cons x L ih =>
        intro lo hi h
        left
        have := h.1
        rcases ih (x + 1) hi h.2.2 with h2 | h2
        · simp only [List.length_cons]; omega
        · subst h2; have := h.2.1; simp only [List.length_cons, List.length_nil]; omega
    rcases h1 C 0 (n + 1) hA with h2 | h2
    · omega
    · subst h2; simp at hC0
  obtain ⟨w1, hw1⟩ : ∃ w1, w1 = w.alloc (.cells #[s, r, fv 94 #[]] 68) := ⟨_, rfl⟩
  have z1 : w1.heap.size = w.heap.size + 1 := by rw [hw1]; simp
  have b1 : Below w.heap.size w w1 := by rw [hw1]; exact (Below.refl _ _).alloc (Nat.le_refl _) _
  have c1 : w1.cell? ⟨w.heap.size, 2, none⟩ = some (fv 94 #[]) := by rw [hw1]; simp
  obtain ⟨w2, hw2⟩ : ∃ w2, w2 = w1.alloc (.cells (Bun.mrow (.bool false) m) 4) := ⟨_, rfl⟩
  have hmk := Bun.make1 bty1 rfl (by omega) w1 m (by omega)
  rw [← hw2] at hmk
  have b12 : Below w1.heap.size w1 w2 := by rw [hw2]; exact (Below.refl _ _).alloc (Nat.le_refl _) _
  have b2 := b1.trans (b12.mono (by omega))
  have z2 : w2.heap.size = w.heap.size + 2 := by rw [hw2]; simp [z1]
  have hown : Oc 1 w2 4 w1.heap.size (some ⟨w1.heap.size, 0, none⟩) m m (brow f l C 1 m) := by
    rw [hw2, ← brow_one f l C m hC0 (by omega)]
    exact Oc.lit (z := 1) w1 4 (Bun.mrow (.bool false) m) m (by simp [Bun.mrow]) (by simp only [maxLen]; omega)
  rw [z1] at hmk hown
  have c2 : w2.cell? ⟨w.heap.size, 2, none⟩ = some (fv 94 #[]) := (b12.cell (p := ⟨w.heap.size, 2, none⟩) (by show w.heap.size < _; omega)).trans c1
  have hm1 : 1 ≤ m := by omega
  obtain ⟨G, hG⟩ : ∃ G, G = w.heap.size + 1 := ⟨_, rfl⟩
  rw [← hG] at hmk hown
  have W1 := Lib.hid hw1; have Hr := Lib.hid hr; have Hc := Lib.hid hc; have HA := Lib.hid hA; have HG := Lib.hid hG; have B2 := Lib.hid b2; have Hown := Lib.hid hown; have Hl := Lib.hid hl; have HCl := Lib.hid hCl
  clear hw1 b1 c1 hw2 b12 z1 b2 hr hc hA hC hC0 hG hown hl hCl hC1
  go_enter Tryz.func39, Tryz.ntmps39
  go_wp2_with (rw [← W1.out])
  go_loopw [8, 9, 10] (fun i _ _ wr => InsRel G m w f l C i wr ∧ wr.cell? ⟨w.heap.size, 2, none⟩ = some (fv 94 #[])) (fun i _ _ _ => m - (intOf i).toNat)
  case atStart => exact ⟨⟨1, rfl, Nat.le_refl _, hm1, Hown.out, B2.out⟩, c2⟩
  case round =>
    obtain ⟨⟨j, rfl, hj1, hjm, hown, hbel⟩, hc2⟩ := hrel
    rename World => wr
    have z3 := hbel.size
    have hown' := Lib.hid hown
    clear hown hmk
    by_cases hlt : j < m
    · obtain ⟨J, hJ⟩ : ∃ J, J = j - 1 := ⟨_, rfl⟩
      have hR := Hc.out.below hbel
      obtain ⟨eb, eo, x, rfl, hb3, hcx, hx⟩ := hR.int (k := J) (by omega)
      obtain ⟨eb2, eo2, y, e', hb4, hcy, hy⟩ := hR.int (k := j) hlt
      injection e' with e'
      injection e' with e3 e4 _
      subst e3 e4
      obtain ⟨cJ, hcJ, rfl⟩ := ic_inv hx
      obtain ⟨cj, hcj, rfl⟩ := ic_inv hy
      have hlt2 := HA.out.get J j cJ cj (by omega) hcJ hcj
      have hle := (HA.out.mem cj (List.mem_of_getElem? hcj)).2
      obtain ⟨D, hD, hrD⟩ := bty.from_ ((Hr.out.below hbel).more z3) (k := cJ) (by omega) (cJ : Int) rfl
      have hcall := fun (W : World) (_ : Rb W W.heap.size D (n - cJ) (c - cJ) (l.drop cJ)) => inv_out f hf D (n - cJ) (c - cJ) ((cj : Int) - (cJ : Int)) (l.drop cJ) W
      obtain ⟨v, hv⟩ : ∃ v, v = cj - cJ := ⟨_, rfl⟩
      obtain ⟨q, hq⟩ : ∃ q, q = inF f (l.drop cJ) ((cj : Int) - (cJ : Int)) := ⟨_, rfl⟩
      have e1 : (cj : Int) - (cJ : Int) = (v : Int) := by omega
      rw [← hq, e1] at hcall
      have e2 : IntKind.i64.wrap (v : Int) = (v : Int) := IntWalk.i64_in _ (by omega)
      have e3 : IntKind.i64.wrap ((cj : Int) - (cJ : Int)) = (v : Int) := by rw [e1]; exact e2
      obtain ⟨p, hp⟩ : ∃ p, p = inF f l (cJ : Int) := ⟨_, rfl⟩
      have hnew := inF_next f l cJ cj (by omega)
      rw [← hq, ← hp] at hnew
      have hrow := brow_get f l C J j m cJ hcJ (by omega)
      rw [← hp] at hrow
      have hold := brow_old f l C j m HCl.out hlt
      have hnext := brow_next f l C j m cj hcj HCl.out hlt
      rw [hnew] at hnext
      replace hnext : (brow f l C j m).set j (.bool (!(p == q))) = brow f l C (j + 1) m := hnext
      have hbl := brow_len f l C j m HCl.out hjm
      have Hcall := Lib.hid hcall; have Hrr := Lib.hid hrD; have Hnext := Lib.hid hnext; have Hrow := Lib.hid hrow; have Hold := Lib.hid hold; have HJ := Lib.hid (show J + 1 = j by omega); have Hbl := Lib.hid hbl
      have q1 : IntKind.i64.wrap ((j : Int) - 1) = (j : Int) - 1 := IntWalk.i64_in _ (by omega)
      have q2 : 0 ≤ (j : Int) - 1 := by omega
      have q3 : ((j : Int) - 1).toNat = J := by omega
      have q4 : (j : Int) - 1 < (m : Int) := by omega
      have q5 : (1 : Int) ≤ (j : Int) := by omega
      have q6 : (0 : Int) ≤ (j : Int) := by omega
      have q7 : (j : Int) < (m : Int) := by omega
      have hgl : w.heap.size < wr.heap.size := World.block_lt_of_cell? wr _ hc2
      clear hcall hrD hnext hrow hold hbl hJ hR hx hy hcJ hcj hlt2 hle hv hq hp hnew c2
      have hgl2 : eb < wr.heap.size := by omega
      go_wp2_with fail
      go_region_held3 (fun w' => w'.cell? ⟨w.heap.size, 2, none⟩ = some (fv 94 #[]) ∧ w'.cell? ⟨eb, eo + j, none⟩ = some (.int .i64 (cj : Int))) (go_keep) ((go_at_call 94; (with_reducible refine (Hcall.out _ ?_).mono ?_); exact Hrr.out; rintro e w4 ⟨rfl, hb4⟩; have hb4' : Below wr.heap.size wr w4 := ⟨hb4.os, hb4.tape, hb4.output, hb4.size, hb4.block⟩; have f0 : w4.cell? ⟨w.heap.size, 2, none⟩ = some (fv 94 #[]) := (hb4'.cell (p := ⟨w.heap.size, 2, none⟩) hgl).trans hc2; have f1 : w4.cell? ⟨eb, eo + j, none⟩ = some (.int .i64 (cj : Int)) := (hb4'.cell (p := ⟨eb, eo + j, none⟩) hgl2).trans hcy))
      have z4 := hb4'.size
      have hown4 := hown'.out.keep hb4'
      have r0 : w4.cell? ⟨G, J, none⟩ = some (.bool p) := by rw [World.ownsRow.cellAt hown4 J (by have := HJ.out; omega)]; exact Hrow.out
      have r1 : w4.cell? ⟨G, j, none⟩ = some (.bool false) := by rw [World.ownsRow.cellAt hown4 j (by omega)]; exact Hold.out
      have r2 : w4.frozen? ⟨G, j, none⟩ = false := World.ownsRow.frozenAt hown4 j
      have hst := (World.ownsRow.stored hown4 j (.bool (!(p == q)))).1
      rw [Hnext.out] at hst
      obtain ⟨w5, hw5⟩ : ∃ w5, w5 = w4.setCell ⟨G, j, none⟩ (.bool (!(p == q))) := ⟨_, rfl⟩
      have hGl : G < w4.heap.size := (Oc.lt hown4 rfl).2
      have b5 : Below w.heap.size w4 w5 := by rw [hw5]; exact (Below.refl _ _).setCell (by show w.heap.size ≤ G; have := HG.out; omega) _
      have g0 : w5.cell? ⟨w.heap.size, 2, none⟩ = some (fv 94 #[]) := by
        rw [hw5, World.cell?_setCell_other _ _ _ _ (by intro q; injection q with q; have := HG.out; omega)]
        exact f0
      rw [← hw5] at hst
      have bw5 := (hbel.trans (hb4'.mono z3)).trans b5
      have Hst := Lib.hid hst; have W5 := Lib.hid hw5
      clear hst hw5 b5 hown4 f0 f1 hb4 hb4'
      go_wp2
      rw [← W5.out]
      go_roundw
      case rel => exact ⟨⟨j + 1, by go_num, by omega, by omega, Hst.out, bw5⟩, g0⟩
      case measure => simp [intOf]; omega
    · have e : j = m := by omega
      subst e
      have h5 := hown'.out.rcS
      unfold brow at h5
      rw [Nat.sub_self, List.replicate_zero, List.append_nil, List.take_of_length_le (by rw [HCl.out]; exact Nat.le_refl _)] at h5
      have hln : (insF f l C).length = j := by rw [insF_len, HCl.out]
      have H5 := Lib.hid (h5.keep (stays_weak fun b (hb : Fr G wr b) => (show Fr w.heap.size wr b from ⟨by have := hb.1; have := HG.out; omega, hb.2⟩))); have Hln := Lib.hid hln
      clear h5 hln
      go_wp2
      go_ret
      exact ⟨_, _, by rw [Hln.out]; rfl, by rw [Hln.out]; exact H5.out, hbel⟩

set_option maxRecDepth 100000 in
set_option maxHeartbeats 2000000 in
theorem insides_csv (A : Option Addr) (n c : Nat) (l : List UInt8) (E : Option Addr) (m d : Nat) (C : List Nat) (s r : Value) (f : Int) (hf : f = 1) (w : World) (hr : Rb w w.heap.size A n c l) (hn : n ≤ 90000) (hc : Rc 1 w w.heap.size E m d (ivs (ic C))) (hC : Cu n C) :
    Calls Tryz.prog 39 #[.agg #[s, r, fv 99 #[]], .slice A n c, .slice E m d] w (RetB w (insF f l C)) := by
  have hl := hr.len
  have hCl : C.length = m := by have := hc.len1; rw [ivs_length, ic_len] at this; exact this
  have hA := cu_get hC
  obtain ⟨hC1, hC0⟩ := cu_pos hC
  have hnc := hr.2.1
  have hcm : c ≤ 9223372036854775807 := by have h3 := hr.2.2.1; unfold maxLen at h3; omega
  have hm : m ≤ n + 1 := by
    have h1 : ∀ (L : List Nat) (lo hi : Nat), Asc lo hi L → lo + L.length ≤ hi ∨ L = [] := by
      intro L
      induction L with
      | nil => intro lo hi _; exact .inr rfl
      | cons x L ih =>
        intro lo hi h
        left
        have := h.1
        rcases ih (x + 1) hi h.2.2 with h2 | h2
        · simp only [List.length_cons]; omega
        · subst h2; have := h.2.1; simp only [List.length_cons, List.length_nil]; omega
    rcases h1 C 0 (n + 1) hA with h2 | h2
    · omega
    · subst h2; simp at hC0
  obtain ⟨w1, hw1⟩ : ∃ w1, w1 = w.alloc (.cells #[s, r, fv 99 #[]] 68) := ⟨_, rfl⟩
  have z1 : w1.heap.size = w.heap.size + 1 := by rw [hw1]; simp
  have b1 : Below w.heap.size w w1 := by rw [hw1]; exact (Below.refl _ _).alloc (Nat.le_refl _) _
  have c1 : w1.cell? ⟨w.heap.size, 2, none⟩ = some (fv 99 #[]) := by rw [hw1]; simp
  obtain ⟨w2, hw2⟩ : ∃ w2, w2 = w1.alloc (.cells (Bun.mrow (.bool false) m) 4) := ⟨_, rfl⟩
  have hmk := Bun.make1 bty1 rfl (by omega) w1 m (by omega)
  rw [← hw2] at hmk
  have b12 : Below w1.heap.size w1 w2 := by rw [hw2]; exact (Below.refl _ _).alloc (Nat.le_refl _) _
  have b2 := b1.trans (b12.mono (by omega))
  have z2 : w2.heap.size = w.heap.size + 2 := by rw [hw2]; simp [z1]
  have hown : Oc 1 w2 4 w1.heap.size (some ⟨w1.heap.size, 0, none⟩) m m (brow f l C 1 m) := by
    rw [hw2, ← brow_one f l C m hC0 (by omega)]
    exact Oc.lit (z := 1) w1 4 (Bun.mrow (.bool false) m) m (by simp [Bun.mrow]) (by simp only [maxLen]; omega)
  rw [z1] at hmk hown
  have c2 : w2.cell? ⟨w.heap.size, 2, none⟩ = some (fv 99 #[]) := (b12.cell (p := ⟨w.heap.size, 2, none⟩) (by show w.heap.size < _; omega)).trans c1
  have hm1 : 1 ≤ m := by omega
  obtain ⟨G, hG⟩ : ∃ G, G = w.heap.size + 1 := ⟨_, rfl⟩
  rw [← hG] at hmk hown
  have W1 := Lib.hid hw1; have Hr := Lib.hid hr; have Hc := Lib.hid hc; have HA := Lib.hid hA; have HG := Lib.hid hG; have B2 := Lib.hid b2; have Hown := Lib.hid hown; have Hl := Lib.hid hl; have HCl := Lib.hid hCl
  clear hw1 b1 c1 hw2 b12 z1 b2 hr hc hA hC hC0 hG hown hl hCl hC1
  go_enter Tryz.func39, Tryz.ntmps39
  go_wp2_with (rw [← W1.out])
  go_loopw [8, 9, 10] (fun i _ _ wr => InsRel G m w f l C i wr ∧ wr.cell? ⟨w.heap.size, 2, none⟩ = some (fv 99 #[])) (fun i _ _ _ => m - (intOf i).toNat)
  case atStart => exact ⟨⟨1, rfl, Nat.le_refl _, hm1, Hown.out, B2.out⟩, c2⟩
  case round =>
    obtain ⟨⟨j, rfl, hj1, hjm, hown, hbel⟩, hc2⟩ := hrel
    rename World => wr
    have z3 := hbel.size
    have hown' := Lib.hid hown
    clear hown hmk
    by_cases hlt : j < m
    · obtain ⟨J, hJ⟩ : ∃ J, J = j - 1 := ⟨_, rfl⟩
      have hR := Hc.out.below hbel
      obtain ⟨eb, eo, x, rfl, hb3, hcx, hx⟩ := hR.int (k := J) (by omega)
      obtain ⟨eb2, eo2, y, e', hb4, hcy, hy⟩ := hR.int (k := j) hlt
      injection e' with e'
      injection e' with e3 e4 _
      subst e3 e4
      obtain ⟨cJ, hcJ, rfl⟩ := ic_inv hx
      obtain ⟨cj, hcj, rfl⟩ := ic_inv hy
      have hlt2 := HA.out.get J j cJ cj (by omega) hcJ hcj
      have hle := (HA.out.mem cj (List.mem_of_getElem? hcj)).2
      obtain ⟨D, hD, hrD⟩ := bty.from_ ((Hr.out.below hbel).more z3) (k := cJ) (by omega) (cJ : Int) rfl
      have hcall := fun (W : World) (h : Rb W W.heap.size D (n - cJ) (c - cJ) (l.drop cJ)) => (show Calls Tryz.prog 99 #[.slice D (n - cJ) (c - cJ), .int .i64 ((cj : Int) - (cJ : Int))] W fun e w' => e = .returned (.bool (inF f (l.drop cJ) ((cj : Int) - (cJ : Int)))) ∧ Below W.heap.size W w' from by subst hf; exact inv_csv D (n - cJ) (c - cJ) ((cj : Int) - (cJ : Int)) (l.drop cJ) W (by unfold I64; omega) h (by omega))
      obtain ⟨v, hv⟩ : ∃ v, v = cj - cJ := ⟨_, rfl⟩
      obtain ⟨q, hq⟩ : ∃ q, q = inF f (l.drop cJ) ((cj : Int) - (cJ : Int)) := ⟨_, rfl⟩
      have e1 : (cj : Int) - (cJ : Int) = (v : Int) := by omega
      rw [← hq, e1] at hcall
      have e2 : IntKind.i64.wrap (v : Int) = (v : Int) := IntWalk.i64_in _ (by omega)
      have e3 : IntKind.i64.wrap ((cj : Int) - (cJ : Int)) = (v : Int) := by rw [e1]; exact e2
      obtain ⟨p, hp⟩ : ∃ p, p = inF f l (cJ : Int) := ⟨_, rfl⟩
      have hnew := inF_next f l cJ cj (by omega)
      rw [← hq, ← hp] at hnew
      have hrow := brow_get f l C J j m cJ hcJ (by omega)
      rw [← hp] at hrow
      have hold := brow_old f l C j m HCl.out hlt
      have hnext := brow_next f l C j m cj hcj HCl.out hlt
      rw [hnew] at hnext
      replace hnext : (brow f l C j m).set j (.bool (!(p == q))) = brow f l C (j + 1) m := hnext
      have hbl := brow_len f l C j m HCl.out hjm
      have Hcall := Lib.hid hcall; have Hrr := Lib.hid hrD; have Hnext := Lib.hid hnext; have Hrow := Lib.hid hrow; have Hold := Lib.hid hold; have HJ := Lib.hid (show J + 1 = j by omega); have Hbl := Lib.hid hbl
      have q1 : IntKind.i64.wrap ((j : Int) - 1) = (j : Int) - 1 := IntWalk.i64_in _ (by omega)
      have q2 : 0 ≤ (j : Int) - 1 := by omega
      have q3 : ((j : Int) - 1).toNat = J := by omega
      have q4 : (j : Int) - 1 < (m : Int) := by omega
      have q5 : (1 : Int) ≤ (j : Int) := by omega
      have q6 : (0 : Int) ≤ (j : Int) := by omega
      have q7 : (j : Int) < (m : Int) := by omega
      have hgl : w.heap.size < wr.heap.size := World.block_lt_of_cell? wr _ hc2
      clear hcall hrD hnext hrow hold hbl hJ hR hx hy hcJ hcj hlt2 hle hv hq hp hnew c2
      have hgl2 : eb < wr.heap.size := by omega
      go_wp2_with fail
      go_region_held3 (fun w' => w'.cell? ⟨w.heap.size, 2, none⟩ = some (fv 99 #[]) ∧ w'.cell? ⟨eb, eo + j, none⟩ = some (.int .i64 (cj : Int))) (go_keep) ((go_at_call 99; (with_reducible refine (Hcall.out _ ?_).mono ?_); exact Hrr.out; rintro e w4 ⟨rfl, hb4⟩; have hb4' : Below wr.heap.size wr w4 := ⟨hb4.os, hb4.tape, hb4.output, hb4.size, hb4.block⟩; have f0 : w4.cell? ⟨w.heap.size, 2, none⟩ = some (fv 99 #[]) := (hb4'.cell (p := ⟨w.heap.size, 2, none⟩) hgl).trans hc2; have f1 : w4.cell? ⟨eb, eo + j, none⟩ = some (.int .i64 (cj : Int)) := (hb4'.cell (p := ⟨eb, eo + j, none⟩) hgl2).trans hcy))
      have z4 := hb4'.size
      have hown4 := hown'.out.keep hb4'
      have r0 : w4.cell? ⟨G, J, none⟩ = some (.bool p) := by rw [World.ownsRow.cellAt hown4 J (by have := HJ.out; omega)]; exact Hrow.out
      have r1 : w4.cell? ⟨G, j, none⟩ = some (.bool false) := by rw [World.ownsRow.cellAt hown4 j (by omega)]; exact Hold.out
      have r2 : w4.frozen? ⟨G, j, none⟩ = false := World.ownsRow.frozenAt hown4 j
      have hst := (World.ownsRow.stored hown4 j (.bool (!(p == q)))).1
      rw [Hnext.out] at hst
      obtain ⟨w5, hw5⟩ : ∃ w5, w5 = w4.setCell ⟨G, j, none⟩ (.bool (!(p == q))) := ⟨_, rfl⟩
      have hGl : G < w4.heap.size := (Oc.lt hown4 rfl).2
      have b5 : Below w.heap.size w4 w5 := by rw [hw5]; exact (Below.refl _ _).setCell (by show w.heap.size ≤ G; have := HG.out; omega) _
      have g0 : w5.cell? ⟨w.heap.size, 2, none⟩ = some (fv 99 #[]) := by
        rw [hw5, World.cell?_setCell_other _ _ _ _ (by intro q; injection q with q; have := HG.out; omega)]
        exact f0
      rw [← hw5] at hst
      have bw5 := (hbel.trans (hb4'.mono z3)).trans b5
      have Hst := Lib.hid hst; have W5 := Lib.hid hw5
      clear hst hw5 b5 hown4 f0 f1 hb4 hb4'
      go_wp2
      rw [← W5.out]
      go_roundw
      case rel => exact ⟨⟨j + 1, by go_num, by omega, by omega, Hst.out, bw5⟩, g0⟩
      case measure => simp [intOf]; omega
    · have e : j = m := by omega
      subst e
      have h5 := hown'.out.rcS
      unfold brow at h5
      rw [Nat.sub_self, List.replicate_zero, List.append_nil, List.take_of_length_le (by rw [HCl.out]; exact Nat.le_refl _)] at h5
      have hln : (insF f l C).length = j := by rw [insF_len, HCl.out]
      have H5 := Lib.hid (h5.keep (stays_weak fun b (hb : Fr G wr b) => (show Fr w.heap.size wr b from ⟨by have := hb.1; have := HG.out; omega, hb.2⟩))); have Hln := Lib.hid hln
      clear h5 hln
      go_wp2
      go_ret
      exact ⟨_, _, by rw [Hln.out]; rfl, by rw [Hln.out]; exact H5.out, hbel⟩
end Go.Proofs.YtknmhdkomjjneaaGreatDoor.Pl

/-
  plan.Scan: the pieces of a file, whatever its format.
-/
namespace Go.Proofs.YtknmhdkomjjneaaGreatDoor.Pl
open Go.RowKit
set_option maxRecDepth 100000 in
set_option maxHeartbeats 1000000 in
theorem scan_ok (f k : Int) (A : Option Addr) (n c : Nat) (l : List UInt8) (w : World) (hr : Rb w w.heap.size A n c l) (hn : n ≤ 90000) (hF : isF f k = true) (hx : Sq.Mx w) :
    Calls Tryz.prog 8 #[flv f k A n c] w (RetS w (scF f k l)) := by
  obtain ⟨w0, hw0⟩ : ∃ w0, w0 = w.alloc (.cells #[.int .i64 f, .int .i64 k, .slice A n c] 24) := ⟨_, rfl⟩
  have z0 : w0.heap.size = w.heap.size + 1 := by rw [hw0]; simp
  have b0 : Below w.heap.size w w0 := by rw [hw0]; exact (Below.refl _ _).alloc (Nat.le_refl _) _
  have x0 : Bx w0 w.heap.size (.int .i64 f) (.int .i64 k) (.slice A n c) := by rw [hw0]; exact Bx.made _ _ _ _ _
  have Hc := Lib.hid (functionsOf_c f k A n c true (by rw [hF]; simp; omega) (by omega) w0)
  have W0 := Lib.hid hw0
  have Hr := Lib.hid hr; have Hx := Lib.hid hx
  have X0 := Lib.hid x0
  obtain ⟨c0, c1, c2, -, -, -, hlt⟩ := x0
  clear hw0 hF hr hx
  go_enter Tryz.func8, Tryz.ntmps8
  go_wp2_with (rw [← W0.out])
  refine Hc.out.mono ?_
  rintro e w1 ⟨s, r, i, rfl, hf3, hfv, b1⟩
  have hf3 := hf3 rfl
  have z1 := b1.size
  have bb := b0.trans (b1.mono (by omega))
  have x1 := X0.out.below b1 (by omega)
  clear c0 c1 c2 hlt
  obtain ⟨w2, hw2⟩ : ∃ w2, w2 = w1.alloc (.cells #[s, r, i] 68) := ⟨_, rfl⟩
  have b12 : Below w1.heap.size w1 w2 := by rw [hw2]; exact (Below.refl _ _).alloc (Nat.le_refl _) _
  have z2 := b12.size
  have b2 := bb.trans (b12.mono (by omega))
  have hf2 := hf3.below b12 (Nat.le_refl _)
  obtain ⟨a, ca, rfl, hent, hsc⟩ := hf2.scan
  have Hsc := Lib.hid (hsc w2 A n c l (Below.refl _ _) ((Hr.out.below b2).more (by omega)) hn (Hx.out.below b2 Hx.out.2))
  have W2 := Lib.hid hw2; have B2 := Lib.hid b2
  obtain ⟨c0, c1, c2, -, -, -, hlt⟩ := x1
  clear hf3 hf2 hsc hw2 b12 b2 b0 bb
  rcases hfv with ⟨a', b, c', ca', cb, cc, h1, rfl, rfl⟩ | ⟨h1, _⟩
  · clear h1
    go_wp2_with fail
    rw [hent, Oper.upon_enter, ← W2.out]
    refine Hsc.out.mono ?_
    rintro e w3 ⟨A3, c3, rfl, hp3, b3⟩
    have hp := hp3.keep (stays_weak fun b (hb : Fr w2.heap.size w3 b) => (show Fr w.heap.size w3 b from ⟨by have := hb.1; omega, hb.2⟩))
    have bb := B2.out.trans (b3.mono (by omega))
    have Hp := Lib.hid hp
    clear hp3 hp
    go_wp2
    go_ret3
    exact ⟨A3, c3, rfl, Hp.out, bb⟩
  · cases h1
end Go.Proofs.YtknmhdkomjjneaaGreatDoor.Pl
