/-
  The program's step.
-/
import Derived.Test.YthkjhenaicbepaaDoorKk
namespace Go.Proofs.YthkjhenaicbepaaDoor
open Go.RowKit Vl Cd Ck

/-- How deep it was, behind a step. -/
def dn (f s : List Bool) (d : Nat) (x : Ins) : Nat := if (stp f s x).2 = 0 then max d (stp f s x).1.length else d
theorem St.below {w w' : World} {g : Nat} {s : List Bool} {d : Nat} (h : St w g s d) (hb : Below w.heap.size w w') : St w' g s d := by
  obtain ⟨A, c, h1, h2⟩ := h
  exact ⟨A, c, h1.below hb h1.lt, h2.keep hb⟩
theorem Bk.drewN {w : World} {g : Nat} {a b : Value} (h : Bk w g a b) (k : Nat) : Bk (w.drewN k) g a b := ⟨h.c0, h.c1, h.f0, h.f1, h.lt⟩
theorem St.drewN {w : World} {g : Nat} {s : List Bool} {d : Nat} (h : St w g s d) (k : Nat) : St (w.drewN k) g s d := by
  obtain ⟨A, c, h1, h2⟩ := h
  exact ⟨A, c, h1.drewN k, h2⟩
theorem St.lt {w : World} {g : Nat} {s : List Bool} {d : Nat} (h : St w g s d) : g < w.heap.size := by
  obtain ⟨A, c, h1, h2⟩ := h
  exact h1.lt

set_option maxRecDepth 100000 in
set_option maxHeartbeats 2000000 in
theorem step_c (x : Ins) (hop : I x.op) (F : Option Addr) (m c : Nat) (f : List Bool) (g : Nat) (s : List Bool) (d : Nat) (w : World) (hr : Rc 1 w g F m c (lvb f)) (hm : m = 0 ∨ m = 2) (h : St w g s d) (hs : s.length ≤ 30) (hd : d ≤ 30) :
    Calls Tryd.prog 23 #[.pointer (some ⟨g, 0, none⟩), iv x, .slice F m c] w (RetK w g (stp f s x).1 (dn f s d x) (stp f s x).2) := by
  have hfl := lvb_len1 hr
  have hlt := h.lt
  have hstp : stp f s x = if may x = false ∨ 22 ≤ x.op ∧ f.length = 0 then (s, 1) else if ar x.op = 0 then (if 30 ≤ s.length then (s, 13) else (s ++ [pk f x.op], 0)) else opS x.op s := rfl
  have heff : effV f x = if may x = false ∨ 22 ≤ x.op ∧ f.length = 0 then .tuple #[.nilFunc, .int .i64 1] else if ar x.op = 0 then .tuple #[pushV (pk f x.op), .int .i64 0] else .tuple #[operV x.op, .int .i64 0] := rfl
  have hec := fun (W : World) (hb : Below w.heap.size w W) => eff_c x hop F m c f W ((hr.below (hb.mono (Nat.le_of_lt hlt))).more (Nat.le_trans (Nat.le_of_lt hlt) hb.size)) hm
  have hpu := fun (W : World) (h : St W g s d) => push_c (pk f x.op) g s d W h hs
  have hoc := fun (W : World) (h : St W g s d) => op_c x.op g s d W h hs
  have hle : (stp f s x).1.length ≤ 30 := stp_len hs
  unfold dn
  obtain ⟨T, hT⟩ : ∃ T, T = stp f s x := ⟨_, rfl⟩
  rw [← hT] at hstp hle ⊢
  obtain ⟨E, hE⟩ : ∃ E, E = effV f x := ⟨_, rfl⟩
  rw [← hE] at heff
  simp only [← hE] at hec
  generalize pk f x.op = P at *
  generalize opS x.op s = O at *
  generalize ar x.op = a at *
  obtain ⟨D, hD⟩ : ∃ D, D = (if T.2 = 0 then max d T.1.length else d) := ⟨_, rfl⟩
  rw [← hD]
  have h3 : (E = .tuple #[.nilFunc, .int .i64 1] ∧ T = (s, 1)) ∨ (E = .tuple #[pushV P, .int .i64 0] ∧ T = (if 30 ≤ s.length then (s, 13) else (s ++ [P], 0))) ∨ (E = .tuple #[operV x.op, .int .i64 0] ∧ T = O) := by
    by_cases hz : may x = false ∨ 22 ≤ x.op ∧ f.length = 0
    · exact .inl ⟨heff.trans (if_pos hz), hstp.trans (if_pos hz)⟩
    · rw [if_neg hz] at heff hstp
      by_cases h0 : a = 0
      · rw [if_pos h0] at heff hstp
        exact .inr (.inl ⟨heff, hstp⟩)
      · rw [if_neg h0] at heff hstp
        exact .inr (.inr ⟨heff, hstp⟩)
  obtain ⟨op, n, t⟩ := x
  obtain ⟨X, hX, -, -, -⟩ := hide_st t
  show Calls Tryd.prog _ #[_, .agg #[.int .i64 op, .int .i64 n, .string ⟨t.toArray⟩], _] w _
  have hec2 : ∀ (W : World), Below w.heap.size w W → Calls Tryd.prog 27 #[.agg #[.int .i64 op, .int .i64 n, .string X], .slice F m c] W (RetV W E) := fun W hb => by rw [hX]; exact hec W hb
  simp only [← hX]
  obtain ⟨w0, hw0⟩ : ∃ w0, w0 = w.alloc (.cells #[.int .i64 op, .int .i64 n, .string X] 37) := ⟨_, rfl⟩
  have b0 : Below w.heap.size w w0 := by rw [hw0]; exact (Below.refl _ _).alloc (Nat.le_refl _) _
  have x0 : Bx w0 w.heap.size (.int .i64 op) (.int .i64 n) (.string X) := by rw [hw0]; exact Bx.made _ _ _ _ _
  have W0 := Lib.hid hw0; have B0 := Lib.hid b0; have X0 := Lib.hid x0; have H3 := Lib.hid h3; have Hec := Lib.hid hec2; have Hpu := Lib.hid hpu; have Hoc := Lib.hid hoc; have HS := Lib.hid h; have HD := Lib.hid hD; have Hle := Lib.hid hle; have Hlt := Lib.hid hlt; have Hd := Lib.hid hd
  clear hw0 b0 x0 h3 heff hstp hec hec2 hpu hoc h hD hle hlt hE hT hX hr hfl hop hm hs hd
  obtain ⟨c0, c1, c2, -, -, -, -⟩ := X0.out
  rcases H3.out with ⟨hE, hT⟩ | ⟨hE, hT⟩ | ⟨hE, hT⟩
  · subst hE hT
    obtain rfl : D = d := HD.out
    clear H3
    go_enter Tryd.func23, Tryd.ntmps23
    go_wp2_with (rw [← W0.out])
    refine (Hec.out w0 B0.out).mono ?_
    rintro e w1 ⟨rfl, b1⟩
    have B1 := Lib.hid (B0.out.trans (b1.mono B0.out.size))
    clear b1 c0 c1 c2
    have HF := Lib.hid (show RetK w g s D 1 (.returned (.int .i64 1)) w1 from ⟨rfl, HS.out.below B1.out, B1.out.mono (Nat.le_of_lt Hlt.out)⟩)
    go_wp2
    go_ret
    exact HF.out
  · subst hE
    have Hpu2 := Lib.hid (fun W h => (show Calls Tryd.prog _ _ W (RetK W g T.1 d T.2) from by
      have q := Hpu.out W h
      rw [hT]
      by_cases h30 : 30 ≤ s.length
      · rw [if_pos h30, if_pos h30] at q; rw [if_pos h30]; exact q
      · rw [if_neg h30, if_neg h30] at q; rw [if_neg h30]; exact q))
    clear H3 hT
    obtain ⟨u, er⟩ := T
    go_enter Tryd.func23, Tryd.ntmps23
    go_wp2_with (rw [← W0.out])
    refine (Hec.out w0 B0.out).mono ?_
    rintro e w1 ⟨rfl, b1⟩
    have B1 := Lib.hid (B0.out.trans (b1.mono B0.out.size))
    clear b1 c0 c1 c2
    go_wp2_with fail
    refine (Hpu2.out w1 (HS.out.below B1.out)).mono ?_
    rintro e w2 ⟨rfl, hs2, b2⟩
    have B2 := Lib.hid ((B1.out.mono (Nat.le_of_lt Hlt.out)).trans b2)
    clear b2
    by_cases h0 : er = 0
    · subst h0
      have hq : D = max d u.length := HD.out.trans (if_pos rfl)
      obtain ⟨A, c9, hb, ho⟩ := hs2
      have e1 : max (d : Int) (u.length : Int) = (D : Int) := by omega
      have HF := Lib.hid (show RetK w g u D 0 (.returned (.int .i64 0)) (w2.setCell ⟨g, 1, none⟩ (.int .i64 (D : Int))).drew from ⟨rfl, St.drewN ⟨A, c9, hb.set1 _, oc_setLow ho (by show g < g + 1; omega) _⟩ 1, below_drewN (below_set B2.out (Nat.le_refl _) _ _) 1⟩)
      obtain ⟨c0, c1, f0, f1, hlt2⟩ := hb
      clear ho hq HD
      go_wp2_with fail
      go_region
      go_wp2
      go_ret
      exact HF.out
    · obtain rfl : D = d := HD.out.trans (if_neg h0)
      have e3 : ((er : Int) != 0) = true := by simp; omega
      have e4 : ((er : Int) == 0) = false := by simp; omega
      have HF := Lib.hid (show RetK w g u D er (.returned (.int .i64 (er : Int))) w2 from ⟨rfl, hs2, B2.out⟩)
      clear h0 hs2
      go_wp2
      go_ret
      exact HF.out
  · subst hE
    have Hpu2 := Lib.hid (fun W h => (show Calls Tryd.prog _ _ W (RetK W g T.1 d T.2) from by rw [hT]; exact Hoc.out W h))
    clear H3 hT
    obtain ⟨u, er⟩ := T
    go_enter Tryd.func23, Tryd.ntmps23
    go_wp2_with (rw [← W0.out])
    refine (Hec.out w0 B0.out).mono ?_
    rintro e w1 ⟨rfl, b1⟩
    have B1 := Lib.hid (B0.out.trans (b1.mono B0.out.size))
    clear b1 c0 c1 c2
    go_wp2_with fail
    refine (Hpu2.out w1 (HS.out.below B1.out)).mono ?_
    rintro e w2 ⟨rfl, hs2, b2⟩
    have B2 := Lib.hid ((B1.out.mono (Nat.le_of_lt Hlt.out)).trans b2)
    clear b2
    by_cases h0 : er = 0
    · subst h0
      have hq : D = max d u.length := HD.out.trans (if_pos rfl)
      obtain ⟨A, c9, hb, ho⟩ := hs2
      have e1 : max (d : Int) (u.length : Int) = (D : Int) := by omega
      have HF := Lib.hid (show RetK w g u D 0 (.returned (.int .i64 0)) (w2.setCell ⟨g, 1, none⟩ (.int .i64 (D : Int))).drew from ⟨rfl, St.drewN ⟨A, c9, hb.set1 _, oc_setLow ho (by show g < g + 1; omega) _⟩ 1, below_drewN (below_set B2.out (Nat.le_refl _) _ _) 1⟩)
      obtain ⟨c0, c1, f0, f1, hlt2⟩ := hb
      clear ho hq HD
      go_wp2_with fail
      go_region
      go_wp2
      go_ret
      exact HF.out
    · obtain rfl : D = d := HD.out.trans (if_neg h0)
      have e3 : ((er : Int) != 0) = true := by simp; omega
      have e4 : ((er : Int) == 0) = false := by simp; omega
      have HF := Lib.hid (show RetK w g u D er (.returned (.int .i64 (er : Int))) w2 from ⟨rfl, hs2, B2.out⟩)
      clear h0 hs2
      go_wp2
      go_ret
      exact HF.out
end Go.Proofs.YthkjhenaicbepaaDoor
