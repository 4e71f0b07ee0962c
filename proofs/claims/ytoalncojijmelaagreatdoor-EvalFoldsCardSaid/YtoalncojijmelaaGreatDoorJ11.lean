/-
  Joined: Kj Kk Kl Kn Ko Kp Kq Kr.
-/
import Derived.Test.YtoalncojijmelaaGreatDoorJ10
import Derived.Deep.RegionHeld3
import Derived.Test.YtoalncojijmelaaGreatDoorJ8
import Derived.Test.YtoalncojijmelaaGreatDoorJ4
/-
  The program's operation on a stack.
-/
namespace Go.Proofs.YtoalncojijmelaaGreatDoor
open Go.RowKit Vl Cd Ck

/-- What an operation comes to. -/
def opS (op : Int) (s : List Bool) : List Bool × Nat :=
  if s.length < ar op then (s, 13)
  else if (res op (s.drop (s.length - ar op))).2 ≠ 0 then (s, (res op (s.drop (s.length - ar op))).2)
  else (s.take (s.length - ar op) ++ [(res op (s.drop (s.length - ar op))).1], 0)
theorem ar_le (op : Int) : ar op ≤ 3 := (kd_mem op).2.2

set_option maxRecDepth 100000 in
set_option maxHeartbeats 1000000 in
theorem op_c (op : Int) (g : Nat) (s : List Bool) (d : Nat) (w : World) (h : St w g s d) (hs : s.length ≤ 30) :
    Calls Tryz.prog 70 #[.int .i64 op, .pointer (some ⟨g, 0, none⟩)] w (RetK w g (opS op s).1 d (opS op s).2) := by
  obtain ⟨A, c, hb, ho⟩ := h
  obtain ⟨a, ha⟩ : ∃ a, a = ar op := ⟨_, rfl⟩
  obtain ⟨n, hn⟩ : ∃ n, n = s.length := ⟨_, rfl⟩
  have ha3 := ar_le op
  have har := fun W => pArity_c op W
  unfold opS
  rw [← ha] at har ha3 ⊢
  rw [← hn] at hb ho hs ⊢
  have Har := Lib.hid har
  have HB := Lib.hid hb; have HO := Lib.hid ho; have Hn := Lib.hid hn
  clear har ha ho hn
  obtain ⟨c0, c1, f0, f1, hlt⟩ := hb
  by_cases hna : n < a
  · rw [if_pos hna]
    have e1 : IntKind.i64.wrap ((n : Int) - (a : Int)) = (n : Int) - (a : Int) := IntWalk.i64_in _ (by omega)
    have e2 : decide ((n : Int) - (a : Int) < 0) = true := decide_eq_true (by omega)
    clear hna
    go_enter Tryz.func70, Tryz.ntmps70
    go_wp2_with fail
    go_region_held3 (fun w' => w'.cell? ⟨g, 0, none⟩ = some (.slice A n c)) (go_keep) ((go_at_call 40; refine (Har.out _).mono ?_; rintro e w4 ⟨rfl, b4⟩; have hA : Below w.heap.size w w4 := (below_drewN (Below.refl _ _) 1).trans b4; have e3 := (HB.out.below hA hlt).c0))
    have HF := Lib.hid (show RetK w g s d 13 (.returned (.int .i64 13)) w4 from ⟨rfl, ⟨A, c, by rw [← Hn.out]; exact HB.out.below hA hlt, by rw [← Hn.out]; exact HO.out.keep hA⟩, hA.mono (Nat.le_of_lt hlt)⟩)
    clear b4 hA e3 c0 c1 f0 f1
    go_wp2
    go_ret
    exact HF.out
  · rw [if_neg hna]
    obtain ⟨r, hr⟩ : ∃ r, r = n - a := ⟨_, rfl⟩
    have hrn : r ≤ n := by omega
    have hra : n - r = a := by omega
    rw [← hr]
    obtain ⟨R, hR⟩ : ∃ R, R = res op (s.drop r) := ⟨_, rfl⟩
    rw [← hR]
    obtain ⟨Z, hZ⟩ : ∃ Z, Z = (if R.2 ≠ 0 then (s, R.2) else (s.take r ++ [R.1], 0)) := ⟨_, rfl⟩
    rw [← hZ]
    have HZ := Lib.hid hZ
    clear hZ
    have e1 : IntKind.i64.wrap ((n : Int) - (a : Int)) = (n : Int) - (a : Int) := IntWalk.i64_in _ (by omega)
    have E2 := Lib.hid (show (n : Int) - (a : Int) = (r : Int) by omega)
    have e2 : decide ((r : Int) < 0) = false := decide_eq_false (by omega)
    have hcut := Sl.from_ kty A n c r hrn (r : Int) rfl
    have hres := fun (W : World) (h : Rc 1 W W.heap.size (if c = r then A else A.map (·.add (r * 1))) (n - r) (c - r) (lvb (s.drop r))) => pResult_c op (if c = r then A else A.map (·.add (r * 1))) (n - r) (c - r) (s.drop r) W h (by omega)
    obtain ⟨A1, hA1⟩ : ∃ A1, A1 = (if c = r then A else A.map (·.add (r * 1))) := ⟨_, rfl⟩
    obtain ⟨n1, hn1⟩ : ∃ n1, n1 = n - r := ⟨_, rfl⟩
    obtain ⟨c1', hc1'⟩ : ∃ c1', c1' = c - r := ⟨_, rfl⟩
    rw [← hA1, ← hn1, ← hc1'] at hcut
    rw [← hA1, ← hn1, ← hc1', ← hR] at hres
    have hrc := fun (W : World) (hb : Below w.heap.size w W) => by
      have q := (HO.out.rc.from_ hrn)
      rw [← hA1, ← hn1, ← hc1', lvb_drop] at q
      exact (q.below hb).more hb.size
    have Hres := Lib.hid (fun (W : World) (hb : Below w.heap.size w W) => hres W (hrc W hb))
    have Hr := Lib.hid hr; have Hcut := Lib.hid hcut
    clear hcut hres hrc hna hra hr hR hA1 hn1 hc1'
    go_enter Tryz.func70, Tryz.ntmps70
    go_wp2_with fail
    go_region_held3 (fun w' => w'.cell? ⟨g, 0, none⟩ = some (.slice A n c)) (go_keep) ((go_at_call 40; refine (Har.out _).mono ?_; rintro e w4 ⟨rfl, b4⟩; have hA : Below w.heap.size w w4 := (below_drewN (Below.refl _ _) 1).trans b4; have e3 := (HB.out.below hA hlt).c0))
    have hb4 := HB.out.below hA hlt
    have BA := Lib.hid hA
    clear b4 hA e3 c0 c1 f0 f1
    obtain ⟨c0, c1, f0, f1, hlt4⟩ := hb4
    have hcut := Hcut.out
    rw [E2.out]
    go_wp2_with fail
    refine (Hres.out w4 BA.out).mono ?_
    rintro e w5 ⟨rfl, b5⟩
    have hb5 := (HB.out.below BA.out hlt).below b5 hlt4
    have BB := Lib.hid (BA.out.trans (b5.mono BA.out.size))
    clear b5 c0 c1 f0 f1
    have HB5 := Lib.hid hb5
    obtain ⟨c0, c1, f0, f1, hlt5⟩ := hb5
    obtain ⟨b, er⟩ := R
    by_cases h0 : er = 0
    · subst h0
      obtain rfl : Z = (s.take r ++ [b], 0) := HZ.out.trans (if_neg (by simp))
      have hcut2 := Sl.upto kty A n c r hrn HO.out.rc.2.1 (r : Int) rfl
      obtain ⟨w6, hw6⟩ : ∃ w6, w6 = w5.alloc (.cells #[.bool b] 4) := ⟨_, rfl⟩
      have b6 : Below w5.heap.size w5 w6 := by rw [hw6]; exact (Below.refl _ _).alloc (Nat.le_refl _) _
      have o6 : Oc 1 w6 4 (g + 1) A r c (lvb (s.take r)) := by
        have q := (HO.out.keep (BB.out.trans (b6.mono BB.out.size))).upto hrn
        rw [lvb_take] at q
        exact q
      have r6 : Rc 1 w6 (w5.heap.size + 1) (some ⟨w5.heap.size, 0, none⟩) 1 1 (lvb [b]) := by rw [hw6]; exact Rc.lit w5 _ #[.bool b] 1 rfl (by simp [maxLen])
      have BC := Lib.hid (BB.out.trans (b6.mono BB.out.size))
      have hb6 := HB5.out.below b6 hlt5
      have W6 := Lib.hid hw6; have O6 := Lib.hid o6; have R6 := Lib.hid r6; have HB6 := Lib.hid hb6
      have hg6 : g + 1 ≤ w6.heap.size := hb6.lt
      clear hw6 b6 o6 r6 hb6
      go_wp2_with (at_builtin; rw [← W6.out]; go_must (refine Sl.wpAppAt kty rfl (.tmp 38) (.tmp 40) rfl (n := r) (m := 1) (N := r + 1) (ws := lvb (s.take r ++ [b])) rfl rfl O6.out R6.out (lvb_one _) rfl (lvb_app _ _).symm ?hs4 ?hs5 hg6 ?_))
      case hs4 => omega
      case hs5 => omega
      intro A7 c7 w7 ho7 hg7
      have hb7 := HB6.out.grows hg7 (oc_low O6.out)
      have hl : (s.take r ++ [b]).length = r + 1 := by rw [List.length_append, List.length_singleton, List.length_take, Nat.min_eq_left (by rw [← Hn.out]; exact hrn)]
      have hbel : Below g w w7 := (BC.out.mono (Nat.le_of_lt hlt)).trans ((hg7.belowC O6.out hg6).mono (Nat.le_succ g))
      have HF := Lib.hid (show RetK w g (s.take r ++ [b]) d 0 (.returned (.int .i64 0)) (w7.setCell ⟨g, 0, none⟩ (.slice A7 (r + 1) c7)) from
        ⟨rfl, ⟨A7, c7, by rw [hl]; exact hb7.set0 _, by rw [hl]; exact oc_setLow ho7 (by show g < g + 1; omega) _⟩, below_set hbel (Nat.le_refl _) _ _⟩)
      clear ho7 hg7 hl hbel c0 c1 f0 f1
      obtain ⟨c0, c1, f0, f1, hlt7⟩ := hb7
      go_wp2
      go_ret
      exact HF.out
    · obtain rfl : Z = (s, er) := HZ.out.trans (if_pos h0)
      have e3 : ((er : Int) != 0) = true := by simp; omega
      have e4 : ((er : Int) == 0) = false := by simp; omega
      have HF := Lib.hid (show RetK w g s d er (.returned (.int .i64 (er : Int))) w5 from ⟨rfl, ⟨A, c, by rw [← Hn.out]; exact HB5.out, by rw [← Hn.out]; exact HO.out.keep BB.out⟩, BB.out.mono (Nat.le_of_lt hlt)⟩)
      clear h0
      go_wp2
      go_ret
      exact HF.out
end Go.Proofs.YtoalncojijmelaaGreatDoor

/-
  The program's effectOf. (Printed by genkk.py.)
-/
namespace Go.Proofs.YtoalncojijmelaaGreatDoor
open Go.RowKit Vl Cd Ck

abbrev pushV (b : Bool) : Value := .func (.func 69) #[.bool b] #[]
abbrev operV (op : Int) : Value := .func (.func 70) #[.int .i64 op] #[]
/-- What effectOf hands over. -/
def effV (f : List Bool) (x : Ins) : Value :=
  if may x = false ∨ 22 ≤ x.op ∧ f.length = 0 then .tuple #[.nilFunc, .int .i64 1]
  else if ar x.op = 0 then .tuple #[pushV (pk f x.op), .int .i64 0]
  else .tuple #[operV x.op, .int .i64 0]
theorem ar_zero {op : Int} (h : ar op = 0) : ¬ (4 ≤ op ∧ op ≤ 21) := by
  intro q
  obtain ⟨m, rfl⟩ : ∃ m : Nat, op = m := ⟨op.toNat, by omega⟩
  rw [ar_nz m (by omega) (by omega)] at h
  rcases op_cases (m := m) (by omega) (by omega) with rfl | rfl | rfl | rfl | rfl | rfl | rfl | rfl | rfl | rfl | rfl | rfl | rfl | rfl | rfl | rfl | rfl | rfl
  all_goals (exact absurd h (by decide))
theorem ar_nonzero {op : Int} (h : 4 ≤ op ∧ op ≤ 21) : ar op ≠ 0 := fun e => ar_zero e h

set_option maxRecDepth 100000 in
set_option maxHeartbeats 2000000 in
theorem eff_c (x : Ins) (hop : I x.op) (F : Option Addr) (m c : Nat) (f : List Bool) (w : World) (hr : Rc 1 w w.heap.size F m c (lvb f)) (hm : m = 0 ∨ m = 2) :
    Calls Tryz.prog 54 #[iv x, .slice F m c] w (RetV w (effV f x)) := by
  have hfl := lvb_len1 hr
  have hrange := @may_op x
  obtain ⟨E, hE⟩ : ∃ E, E = effV f x := ⟨_, rfl⟩
  rw [← hE]
  unfold effV at hE
  obtain ⟨op, n, s⟩ := x
  dsimp only at hE hrange hop
  obtain ⟨X, hX, -, -, -⟩ := hide_st s
  show Calls Tryz.prog _ #[.agg #[.int .i64 op, .int .i64 n, .string ⟨s.toArray⟩], _] w _
  simp only [← hX]
  obtain ⟨M, hM⟩ : ∃ M, M = may ⟨op, n, s⟩ := ⟨_, rfl⟩
  have hmay : ∀ W, Calls Tryz.prog 68 #[.agg #[.int .i64 op, .int .i64 n, .string X]] W (RetV W (.bool M)) := fun W => by rw [hX, hM]; exact may_c ⟨op, n, s⟩ hop W
  rw [← hM] at hE hrange
  obtain ⟨w0, hw0⟩ : ∃ w0, w0 = w.alloc (.cells #[.int .i64 op, .int .i64 n, .string X] 44) := ⟨_, rfl⟩
  have b0 : Below w.heap.size w w0 := by rw [hw0]; exact (Below.refl _ _).alloc (Nat.le_refl _) _
  have x0 : Bx w0 w.heap.size (.int .i64 op) (.int .i64 n) (.string X) := by rw [hw0]; exact Bx.made _ _ _ _ _
  have W0 := Lib.hid hw0; have B0 := Lib.hid b0; have X0 := Lib.hid x0; have HE := Lib.hid hE; have Hmay := Lib.hid hmay; have Hfl := Lib.hid hfl; have Hr := Lib.hid hr
  clear hw0 b0 x0 hE hmay hM hX hop hfl hr
  obtain ⟨c0, c1, c2, -, -, -, hlt⟩ := X0.out
  cases M
  · obtain rfl := HE.out.trans (if_pos (.inl rfl))
    clear hrange
    go_enter Tryz.func54, Tryz.ntmps54
    go_wp2_with (rw [← W0.out])
    refine (Hmay.out w0).mono ?_
    rintro e w1 ⟨rfl, b1⟩
    have B1 := Lib.hid (B0.out.trans (b1.mono B0.out.size))
    clear b1 c0 c1 c2
    go_wp2
    go_ret2
    exact ⟨rfl, B1.out⟩
  · have hra := hrange rfl
    clear hrange
    by_cases h0 : op = 0
    · subst h0
      obtain rfl : E = .tuple #[pushV false, .int .i64 0] := HE.out.trans ((if_neg (by simp)).trans ((if_pos (by decide)).trans rfl))
      clear hra HE
      go_enter Tryz.func54, Tryz.ntmps54
      go_wp2_with (rw [← W0.out])
      refine (Hmay.out w0).mono ?_
      rintro e w1 ⟨rfl, b1⟩
      have x1 := X0.out.below b1 hlt
      have B1 := Lib.hid (B0.out.trans (b1.mono B0.out.size))
      clear b1 c0 c1 c2
      obtain ⟨c0, c1, c2, -, -, -, -⟩ := x1
      go_wp2
      go_ret2
      exact ⟨rfl, B1.out⟩
    have d0 : (op == 0) = false := beq_eq_false_iff_ne.2 h0
    by_cases h1 : op = 1
    · subst h1
      obtain rfl : E = .tuple #[pushV true, .int .i64 0] := HE.out.trans ((if_neg (by simp)).trans ((if_pos (by decide)).trans rfl))
      clear hra HE
      go_enter Tryz.func54, Tryz.ntmps54
      go_wp2_with (rw [← W0.out])
      refine (Hmay.out w0).mono ?_
      rintro e w1 ⟨rfl, b1⟩
      have x1 := X0.out.below b1 hlt
      have B1 := Lib.hid (B0.out.trans (b1.mono B0.out.size))
      clear b1 c0 c1 c2
      obtain ⟨c0, c1, c2, -, -, -, -⟩ := x1
      go_wp2
      go_ret2
      exact ⟨rfl, B1.out⟩
    have d1 : (op == 1) = false := beq_eq_false_iff_ne.2 h1
    by_cases h2 : op = 2
    · subst h2
      obtain rfl : E = .tuple #[pushV true, .int .i64 0] := HE.out.trans ((if_neg (by simp)).trans ((if_pos (by decide)).trans rfl))
      clear hra HE
      go_enter Tryz.func54, Tryz.ntmps54
      go_wp2_with (rw [← W0.out])
      refine (Hmay.out w0).mono ?_
      rintro e w1 ⟨rfl, b1⟩
      have x1 := X0.out.below b1 hlt
      have B1 := Lib.hid (B0.out.trans (b1.mono B0.out.size))
      clear b1 c0 c1 c2
      obtain ⟨c0, c1, c2, -, -, -, -⟩ := x1
      go_wp2
      go_ret2
      exact ⟨rfl, B1.out⟩
    have d2 : (op == 2) = false := beq_eq_false_iff_ne.2 h2
    by_cases h3 : op = 3
    · subst h3
      obtain rfl : E = .tuple #[pushV false, .int .i64 0] := HE.out.trans ((if_neg (by simp)).trans ((if_pos (by decide)).trans rfl))
      clear hra HE
      go_enter Tryz.func54, Tryz.ntmps54
      go_wp2_with (rw [← W0.out])
      refine (Hmay.out w0).mono ?_
      rintro e w1 ⟨rfl, b1⟩
      have x1 := X0.out.below b1 hlt
      have B1 := Lib.hid (B0.out.trans (b1.mono B0.out.size))
      clear b1 c0 c1 c2
      obtain ⟨c0, c1, c2, -, -, -, -⟩ := x1
      go_wp2
      go_ret2
      exact ⟨rfl, B1.out⟩
    have d3 : (op == 3) = false := beq_eq_false_iff_ne.2 h3
    by_cases h22 : op = 22
    · subst h22
      clear hra h0 h1 h2 h3 d0 d1 d2 d3
      rcases hm with rfl | rfl
      · obtain rfl : E = .tuple #[.nilFunc, .int .i64 1] := HE.out.trans (if_pos (.inr ⟨by omega, Hfl.out⟩))
        clear HE
        go_enter Tryz.func54, Tryz.ntmps54
        go_wp2_with (rw [← W0.out])
        refine (Hmay.out w0).mono ?_
        rintro e w1 ⟨rfl, b1⟩
        have x1 := X0.out.below b1 hlt
        have B1 := Lib.hid (B0.out.trans (b1.mono B0.out.size))
        clear b1 c0 c1 c2
        obtain ⟨c0, c1, c2, -, -, -, -⟩ := x1
        go_wp2
        go_ret2
        exact ⟨rfl, B1.out⟩
      · obtain ⟨b, o, q, rfl, hb, hc, hq⟩ := lvb_at Hr.out (k := 0) (by omega)
        have hpk : pk f 22 = q := by
          show f.getD 0 false = q
          rw [List.getD_eq_getElem?_getD, hq]; rfl
        obtain rfl : E = .tuple #[pushV q, .int .i64 0] := HE.out.trans ((if_neg (by rw [Hfl.out]; simp)).trans ((if_pos (by decide)).trans (by rw [hpk])))
        clear HE hpk hq
        go_enter Tryz.func54, Tryz.ntmps54
        go_wp2_with (rw [← W0.out])
        refine (Hmay.out w0).mono ?_
        rintro e w1 ⟨rfl, b1⟩
        have x1 := X0.out.below b1 hlt
        have k1 : w1.cell? ⟨b, o, none⟩ = some (.bool q) := ((B0.out.trans (b1.mono B0.out.size)).cell (p := ⟨b, o + 0, none⟩) hb).trans hc
        have B1 := Lib.hid (B0.out.trans (b1.mono B0.out.size))
        clear b1 c0 c1 c2 hc
        obtain ⟨c0, c1, c2, -, -, -, -⟩ := x1
        go_wp2
        go_ret2
        exact ⟨rfl, B1.out⟩
    have d22 : (op == 22) = false := beq_eq_false_iff_ne.2 h22
    by_cases h23 : op = 23
    · subst h23
      clear hra h0 h1 h2 h3 d0 d1 d2 d3 h22 d22
      rcases hm with rfl | rfl
      · obtain rfl : E = .tuple #[.nilFunc, .int .i64 1] := HE.out.trans (if_pos (.inr ⟨by omega, Hfl.out⟩))
        clear HE
        go_enter Tryz.func54, Tryz.ntmps54
        go_wp2_with (rw [← W0.out])
        refine (Hmay.out w0).mono ?_
        rintro e w1 ⟨rfl, b1⟩
        have x1 := X0.out.below b1 hlt
        have B1 := Lib.hid (B0.out.trans (b1.mono B0.out.size))
        clear b1 c0 c1 c2
        obtain ⟨c0, c1, c2, -, -, -, -⟩ := x1
        go_wp2
        go_ret2
        exact ⟨rfl, B1.out⟩
      · obtain ⟨b, o, q, rfl, hb, hc, hq⟩ := lvb_at Hr.out (k := 1) (by omega)
        have hpk : pk f 23 = q := by
          show f.getD 1 false = q
          rw [List.getD_eq_getElem?_getD, hq]; rfl
        obtain rfl : E = .tuple #[pushV q, .int .i64 0] := HE.out.trans ((if_neg (by rw [Hfl.out]; simp)).trans ((if_pos (by decide)).trans (by rw [hpk])))
        clear HE hpk hq
        go_enter Tryz.func54, Tryz.ntmps54
        go_wp2_with (rw [← W0.out])
        refine (Hmay.out w0).mono ?_
        rintro e w1 ⟨rfl, b1⟩
        have x1 := X0.out.below b1 hlt
        have k1 : w1.cell? ⟨b, o + 1, none⟩ = some (.bool q) := ((B0.out.trans (b1.mono B0.out.size)).cell (p := ⟨b, o + 1, none⟩) hb).trans hc
        have B1 := Lib.hid (B0.out.trans (b1.mono B0.out.size))
        clear b1 c0 c1 c2 hc
        obtain ⟨c0, c1, c2, -, -, -, -⟩ := x1
        go_wp2
        go_ret2
        exact ⟨rfl, B1.out⟩
    have d23 : (op == 23) = false := beq_eq_false_iff_ne.2 h23
    obtain rfl : E = .tuple #[operV op, .int .i64 0] := HE.out.trans ((if_neg (by simp; omega)).trans (if_neg (ar_nonzero ⟨by omega, by omega⟩)))
    clear hra h0 h1 h2 h3 h22 h23 HE
    go_enter Tryz.func54, Tryz.ntmps54
    go_wp2_with (rw [← W0.out])
    refine (Hmay.out w0).mono ?_
    rintro e w1 ⟨rfl, b1⟩
    have x1 := X0.out.below b1 hlt
    have B1 := Lib.hid (B0.out.trans (b1.mono B0.out.size))
    clear b1 c0 c1 c2
    obtain ⟨c0, c1, c2, -, -, -, -⟩ := x1
    go_wp2
    go_ret2
    exact ⟨rfl, B1.out⟩
end Go.Proofs.YtoalncojijmelaaGreatDoor

/-
  The program's step.
-/
namespace Go.Proofs.YtoalncojijmelaaGreatDoor
open Go.RowKit Vl Cd Ck

/-- How deep it was, behind a step. -/
def dn (f s : List Bool) (d : Nat) (x : Ins) : Nat := if (stp f s x).2 = 0 then max d (stp f s x).1.length else d
theorem St.below {w w' : World} {g : Nat} {s : List Bool} {d : Nat} (h : St w g s d) (hb : Below w.heap.size w w') : St w' g s d := by
  obtain ⟨A, c, h1, h2⟩ := h
  exact ⟨A, c, h1.below hb h1.lt, h2.keep hb⟩
theorem Bk.drewN {w : World} {g : Nat} {a b : Value} (h : Bk w g a b) (k : Nat) : Bk (w.drewN k) g a b := ⟨h.c0, h.c1, h.f0, h.f1, h.lt⟩
theorem St.drewN {w : World} {g : Nat} {s : List Bool} {d : Nat} (h : St w g s d) (k : Nat) : St (w.drewN k) g s d := by
  obtain ⟨A, c, h1, h2⟩ := h
  exact ⟨A, c, h1.drewN k, h2⟩
theorem St.lt {w : World} {g : Nat} {s : List Bool} {d : Nat} (h : St w g s d) : g < w.heap.size := by
  obtain ⟨A, c, h1, h2⟩ := h
  exact h1.lt

set_option maxRecDepth 100000 in
set_option maxHeartbeats 2000000 in
theorem step_c (x : Ins) (hop : I x.op) (F : Option Addr) (m c : Nat) (f : List Bool) (g : Nat) (s : List Bool) (d : Nat) (w : World) (hr : Rc 1 w g F m c (lvb f)) (hm : m = 0 ∨ m = 2) (h : St w g s d) (hs : s.length ≤ 30) (hd : d ≤ 30) :
    Calls Tryz.prog 38 #[.pointer (some ⟨g, 0, none⟩), iv x, .slice F m c] w (RetK w g (stp f s x).1 (dn f s d x) (stp f s x).2) := by
  have hfl := lvb_len1 hr
  have hlt := h.lt
  have hstp : stp f s x = if may x = false ∨ 22 ≤ x.op ∧ f.length = 0 then (s, 1) else if ar x.op = 0 then (if 30 ≤ s.length then (s, 13) else (s ++ [pk f x.op], 0)) else opS x.op s := rfl
  have heff : effV f x = if may x = false ∨ 22 ≤ x.op ∧ f.length = 0 then .tuple #[.nilFunc, .int .i64 1] else if ar x.op = 0 then .tuple #[pushV (pk f x.op), .int .i64 0] else .tuple #[operV x.op, .int .i64 0] := rfl
  have hec := fun (W : World) (hb : Below w.heap.size w W) => eff_c x hop F m c f W ((hr.below (hb.mono (Nat.le_of_lt hlt))).more (Nat.le_trans (Nat.le_of_lt hlt) hb.size)) hm
  have hpu := fun (W : World) (h : St W g s d) => push_c (pk f x.op) g s d W h hs
  have hoc := fun (W : World) (h : St W g s d) => op_c x.op g s d W h hs
  have hle : (stp f s x).1.length ≤ 30 := stp_len hs
  unfold dn
  obtain ⟨T, hT⟩ : ∃ T, T = stp f s x := ⟨_, rfl⟩
  rw [← hT] at hstp hle ⊢
  obtain ⟨E, hE⟩ : ∃ E, E = effV f x := ⟨_, rfl⟩
  rw [← hE] at heff
  simp only [← hE] at hec
  generalize pk f x.op = P at *
  generalize opS x.op s = O at *
  generalize ar x.op = a at *
  obtain ⟨D, hD⟩ : ∃ D, D = (if T.2 = 0 then max d T.1.length else d) := ⟨_, rfl⟩
  rw [← hD]
  have h3 : (E = .tuple #[.nilFunc, .int .i64 1] ∧ T = (s, 1)) ∨ (E = .tuple #[pushV P, .int .i64 0] ∧ T = (if 30 ≤ s.length then (s, 13) else (s ++ [P], 0))) ∨ (E = .tuple #[operV x.op, .int .i64 0] ∧ T = O) := by
    by_cases hz : may x = false ∨ 22 ≤ x.op ∧ f.length = 0
    · exact .inl ⟨heff.trans (if_pos hz), hstp.trans (if_pos hz)⟩
    · rw [if_neg hz] at heff hstp
      by_cases h0 : a = 0
      · rw [if_pos h0] at heff hstp
        exact .inr (.inl ⟨heff, hstp⟩)
      · rw [if_neg h0] at heff hstp
        exact .inr (.inr ⟨heff, hstp⟩)
  obtain ⟨op, n, t⟩ := x
  obtain ⟨X, hX, -, -, -⟩ := hide_st t
  show Calls Tryz.prog _ #[_, .agg #[.int .i64 op, .int .i64 n, .string ⟨t.toArray⟩], _] w _
  have hec2 : ∀ (W : World), Below w.heap.size w W → Calls Tryz.prog 54 #[.agg #[.int .i64 op, .int .i64 n, .string X], .slice F m c] W (RetV W E) := fun W hb => by rw [hX]; exact hec W hb
  simp only [← hX]
  obtain ⟨w0, hw0⟩ : ∃ w0, w0 = w.alloc (.cells #[.int .i64 op, .int .i64 n, .string X] 44) := ⟨_, rfl⟩
  have b0 : Below w.heap.size w w0 := by rw [hw0]; exact (Below.refl _ _).alloc (Nat.le_refl _) _
  have x0 : Bx w0 w.heap.size (.int .i64 op) (.int .i64 n) (.string X) := by rw [hw0]; exact Bx.made _ _ _ _ _
  have W0 := Lib.hid hw0; have B0 := Lib.hid b0; have X0 := Lib.hid x0; have H3 := Lib.hid h3; have Hec := Lib.hid hec2; have Hpu := Lib.hid hpu; have Hoc := Lib.hid hoc; have HS := Lib.hid h; have HD := Lib.hid hD; have Hle := Lib.hid hle; have Hlt := Lib.hid hlt; have Hd := Lib.hid hd
  clear hw0 b0 x0 h3 heff hstp hec hec2 hpu hoc h hD hle hlt hE hT hX hr hfl hop hm hs hd
  obtain ⟨c0, c1, c2, -, -, -, -⟩ := X0.out
  rcases H3.out with ⟨hE, hT⟩ | ⟨hE, hT⟩ | ⟨hE, hT⟩
  · subst hE hT
    obtain rfl : D = d := HD.out
    clear H3
    go_enter Tryz.func38, Tryz.ntmps38
    go_wp2_with (rw [← W0.out])
    refine (Hec.out w0 B0.out).mono ?_
    rintro e w1 ⟨rfl, b1⟩
    have B1 := Lib.hid (B0.out.trans (b1.mono B0.out.size))
    clear b1 c0 c1 c2
    have HF := Lib.hid (show RetK w g s D 1 (.returned (.int .i64 1)) w1 from ⟨rfl, HS.out.below B1.out, B1.out.mono (Nat.le_of_lt Hlt.out)⟩)
    go_wp2
    go_ret
    exact HF.out
  · subst hE
    have Hpu2 := Lib.hid (fun W h => (show Calls Tryz.prog _ _ W (RetK W g T.1 d T.2) from by
      have q := Hpu.out W h
      rw [hT]
      by_cases h30 : 30 ≤ s.length
      · rw [if_pos h30, if_pos h30] at q; rw [if_pos h30]; exact q
      · rw [if_neg h30, if_neg h30] at q; rw [if_neg h30]; exact q))
    clear H3 hT
    obtain ⟨u, er⟩ := T
    go_enter Tryz.func38, Tryz.ntmps38
    go_wp2_with (rw [← W0.out])
    refine (Hec.out w0 B0.out).mono ?_
    rintro e w1 ⟨rfl, b1⟩
    have B1 := Lib.hid (B0.out.trans (b1.mono B0.out.size))
    clear b1 c0 c1 c2
    go_wp2_with fail
    refine (Hpu2.out w1 (HS.out.below B1.out)).mono ?_
    rintro e w2 ⟨rfl, hs2, b2⟩
    have B2 := Lib.hid ((B1.out.mono (Nat.le_of_lt Hlt.out)).trans b2)
    clear b2
    by_cases h0 : er = 0
    · subst h0
      have hq : D = max d u.length := HD.out.trans (if_pos rfl)
      obtain ⟨A, c9, hb, ho⟩ := hs2
      have e1 : max (d : Int) (u.length : Int) = (D : Int) := by omega
      have HF := Lib.hid (show RetK w g u D 0 (.returned (.int .i64 0)) (w2.setCell ⟨g, 1, none⟩ (.int .i64 (D : Int))).drew from ⟨rfl, St.drewN ⟨A, c9, hb.set1 _, oc_setLow ho (by show g < g + 1; omega) _⟩ 1, below_drewN (below_set B2.out (Nat.le_refl _) _ _) 1⟩)
      obtain ⟨c0, c1, f0, f1, hlt2⟩ := hb
      clear ho hq HD
      go_wp2_with fail
      go_region
      go_wp2
      go_ret
      exact HF.out
    · obtain rfl : D = d := HD.out.trans (if_neg h0)
      have e3 : ((er : Int) != 0) = true := by simp; omega
      have e4 : ((er : Int) == 0) = false := by simp; omega
      have HF := Lib.hid (show RetK w g u D er (.returned (.int .i64 (er : Int))) w2 from ⟨rfl, hs2, B2.out⟩)
      clear h0 hs2
      go_wp2
      go_ret
      exact HF.out
  · subst hE
    have Hpu2 := Lib.hid (fun W h => (show Calls Tryz.prog _ _ W (RetK W g T.1 d T.2) from by rw [hT]; exact Hoc.out W h))
    clear H3 hT
    obtain ⟨u, er⟩ := T
    go_enter Tryz.func38, Tryz.ntmps38
    go_wp2_with (rw [← W0.out])
    refine (Hec.out w0 B0.out).mono ?_
    rintro e w1 ⟨rfl, b1⟩
    have B1 := Lib.hid (B0.out.trans (b1.mono B0.out.size))
    clear b1 c0 c1 c2
    go_wp2_with fail
    refine (Hpu2.out w1 (HS.out.below B1.out)).mono ?_
    rintro e w2 ⟨rfl, hs2, b2⟩
    have B2 := Lib.hid ((B1.out.mono (Nat.le_of_lt Hlt.out)).trans b2)
    clear b2
    by_cases h0 : er = 0
    · subst h0
      have hq : D = max d u.length := HD.out.trans (if_pos rfl)
      obtain ⟨A, c9, hb, ho⟩ := hs2
      have e1 : max (d : Int) (u.length : Int) = (D : Int) := by omega
      have HF := Lib.hid (show RetK w g u D 0 (.returned (.int .i64 0)) (w2.setCell ⟨g, 1, none⟩ (.int .i64 (D : Int))).drew from ⟨rfl, St.drewN ⟨A, c9, hb.set1 _, oc_setLow ho (by show g < g + 1; omega) _⟩ 1, below_drewN (below_set B2.out (Nat.le_refl _) _ _) 1⟩)
      obtain ⟨c0, c1, f0, f1, hlt2⟩ := hb
      clear ho hq HD
      go_wp2_with fail
      go_region
      go_wp2
      go_ret
      exact HF.out
    · obtain rfl : D = d := HD.out.trans (if_neg h0)
      have e3 : ((er : Int) != 0) = true := by simp; omega
      have e4 : ((er : Int) == 0) = false := by simp; omega
      have HF := Lib.hid (show RetK w g u D er (.returned (.int .i64 (er : Int))) w2 from ⟨rfl, hs2, B2.out⟩)
      clear h0 hs2
      go_wp2
      go_ret
      exact HF.out
end Go.Proofs.YtoalncojijmelaaGreatDoor

/-
  The program's execute, Stack, Depth.
-/
namespace Go.Proofs.YtoalncojijmelaaGreatDoor
open Go.RowKit Vl Cd Ck

def ExRel (w : World) (g n : Nat) (f : List Bool) (p : List Ins) (G : List Bool × Nat × Nat) (D : Nat) (i : Value) (wr : World) : Prop :=
  ∃ (k : Nat) (s : List Bool) (d : Nat), k ≤ n ∧ i = .int .i64 (k : Int) ∧ Hid (rn f s k (p.drop k) = G) ∧ Hid (dpr f s d (p.drop k) = D) ∧ Hid (St wr g s d) ∧ Hid (Below g w wr) ∧ Hid (s.length ≤ 30 ∧ d ≤ 30)
theorem dn_le {f s : List Bool} {d : Nat} {x : Ins} (hs : s.length ≤ 30) (hd : d ≤ 30) : dn f s d x ≤ 30 := by
  unfold dn
  have := stp_len (f := f) (x := x) hs
  split <;> omega

/-- What execute hands over. -/
def RetE (w : World) (g : Nat) (G : List Bool × Nat × Nat) (D : Nat) (e : Ending) (w' : World) : Prop := e = .returned (.tuple #[.int .i64 (G.2.1 : Int), .int .i64 (G.2.2 : Int)]) ∧ St w' g G.1 D ∧ Below g w w'
set_option maxRecDepth 100000 in
set_option maxHeartbeats 2000000 in
theorem exec_c (A : Option Addr) (n c : Nat) (p : List Ins) (F : Option Addr) (m c' : Nat) (f : List Bool) (g : Nat) (w : World) (hp : Rc 3 w g A n c (ics p)) (hn : n ≤ 1000000) (hI : ∀ x ∈ p, I x.op) (hr : Rc 1 w g F m c' (lvb f)) (hm : m ≤ 1000000) (h : St w g [] 0) :
    Calls Tryz.prog 26 #[.pointer (some ⟨g, 0, none⟩), .slice A n c, .slice F m c'] w (RetE w g (sk p f) (dp p f)) := by
  have hfl := lvb_len1 hr
  have hpl := ics_num hp
  obtain ⟨G, hG⟩ : ∃ G, G = sk p f := ⟨_, rfl⟩
  obtain ⟨D, hD⟩ : ∃ D, D = dp p f := ⟨_, rfl⟩
  rw [← hG, ← hD]
  unfold sk at hG
  unfold dp at hD
  by_cases h2 : m = 0 ∨ m = 2
  · by_cases h3 : n ≤ 200
    · have hbad : bad p f = 0 := by unfold bad; rw [if_neg (by omega), if_neg (by omega)]
      rw [if_pos hbad] at hG hD
      have HG := Lib.hid (show rn f [] 0 (p.drop 0) = G from hG.symm)
      have HD := Lib.hid (show dpr f [] 0 (p.drop 0) = D from hD.symm)
      have d0 : decide ((200 : Int) < (n : Int)) = false := decide_eq_false (by omega)
      have HP := Lib.hid hp; have HI := Lib.hid hI; have HR := Lib.hid hr; have HS := Lib.hid h; have Hpl := Lib.hid hpl
      clear hp hI hr h hpl hfl hbad hG hD hn hm
      rcases h2 with rfl | rfl
      all_goals
        go_enter Tryz.func26, Tryz.ntmps26
        go_wp2
        go_loopw [24] (fun i wr => ExRel w g n f p G D i wr) (fun i _ => n - (intOf i).toNat)
        case atStart => exact ⟨0, [], 0, Nat.zero_le _, rfl, HG, HD, HS, Lib.hid (Below.refl _ _), Lib.hid ⟨by simp, by simp⟩⟩
        case round =>
          obtain ⟨k, s, d, hk, rfl, Hg, Hd, Hs, Hb, Hle⟩ := hrel
          by_cases hlt : k < n
          · obtain ⟨b, o, x, rfl, hb, a0, a1, a2, hx⟩ := ics_at (HP.out.below Hb.out) hlt
            have hcons : p.drop k = x :: p.drop (k + 1) := by
              have h2 : k < p.length := by rw [Hpl.out]; exact hlt
              rw [List.drop_eq_getElem_cons h2]
              rw [List.getElem?_eq_getElem h2] at hx
              injection hx with hx
              rw [hx]
            have hg := Hg.out
            have hd := Hd.out
            rw [hcons] at hg hd
            have hxm : x ∈ p := List.mem_of_getElem? hx
            obtain ⟨w7, hw7⟩ : ∃ w7, w7 = wr.alloc (.cells #[.int .i64 x.op, .int .i64 x.n, st x.s] 44) := ⟨_, rfl⟩
            have b7 : Below wr.heap.size wr w7 := by rw [hw7]; exact (Below.refl _ _).alloc (Nat.le_refl _) _
            have x7 : Bx w7 wr.heap.size (.int .i64 x.op) (.int .i64 x.n) (st x.s) := by rw [hw7]; exact Bx.made _ _ _ _ _
            have hs7 := Hs.out.below b7
            have hb7 := Hb.out.trans (b7.mono (Nat.le_of_lt Hs.out.lt))
            have hst := step_c x (HI.out x hxm) F _ c' f g s d w7 (HR.out.below hb7) (by simp) hs7 Hle.out.1 Hle.out.2
            have hsl := stp_len (f := f) (x := x) Hle.out.1
            have hdl := dn_le (f := f) (x := x) Hle.out.1 Hle.out.2
            have hgo := fun h => (rn_go (f := f) (s := s) (x := x) k (p.drop (k + 1)) h).symm.trans hg
            have hgs := fun h => (rn_stop (f := f) (s := s) (x := x) k (p.drop (k + 1)) h).symm.trans hg
            have hdo : (stp f s x).2 = 0 → dpr f (stp f s x).1 (dn f s d x) (p.drop (k + 1)) = D := fun h => by
              unfold dn; rw [if_pos h]; exact (dpr_go d (p.drop (k + 1)) h).symm.trans hd
            have hds : (stp f s x).2 ≠ 0 → dn f s d x = D ∧ (stp f s x).1 = s := fun h => by
              unfold dn; rw [if_neg h]; exact ⟨(dpr_stop d (p.drop (k + 1)) h).symm.trans hd, stp_keep h⟩
            obtain ⟨op, nn, t⟩ := x
            obtain ⟨X, hX, -, -, -⟩ := hide_st t
            dsimp only at a0 a1 a2 hw7 x7
            unfold st at a2 hw7 x7
            rw [← hX] at a2 hw7 x7
            simp only [iv, st, ← hX] at hst
            generalize dn f s d ⟨op, nn, t⟩ = dd at *
            generalize stp f s ⟨op, nn, t⟩ = T at *
            have W7 := Lib.hid hw7; have X7 := Lib.hid x7; have B7 := Lib.hid hb7; have HT := Lib.hid hst; have Hgo := Lib.hid hgo; have Hgs := Lib.hid hgs; have Hdo := Lib.hid hdo; have Hds := Lib.hid hds; have Hsl := Lib.hid hsl; have Hdl := Lib.hid hdl
            obtain ⟨c0, c1, c2, -, -, -, -⟩ := x7
            clear hw7 b7 hs7 hb7 hst hgo hgs hdo hds hsl hdl hg hd hcons hx hxm hX
            go_wp2_with (rw [← W7.out])
            refine HT.out.mono ?_
            rintro e w8 ⟨rfl, hs8, b8⟩
            have B8 := Lib.hid (B7.out.trans b8); have S8 := Lib.hid hs8
            clear b8 hs8 c0 c1 c2 a0 a1 a2
            obtain ⟨u, er⟩ := T
            by_cases h0 : er = 0
            · subst h0
              have h1 := Lib.hid (Hgo.out rfl); have h2 := Lib.hid (Hdo.out rfl)
              go_wp2
              go_roundw
              case rel => exact ⟨k + 1, u, dd, hlt, by go_num, h1, h2, S8, B8, Lib.hid ⟨Hsl.out, Hdl.out⟩⟩
              case measure => simp [intOf]; omega
            · have e3 : ((er : Int) != 0) = true := by simp; omega
              have e4 : ((er : Int) == 0) = false := by simp; omega
              have HF := Lib.hid (show RetE w g G D (.returned (.tuple #[.int .i64 (k : Int), .int .i64 (er : Int)])) w8 from by
                have h1 := Hgs.out h0
                have h2 := Hds.out h0
                have h3 := S8.out
                rw [← h1]
                rw [h2.1] at h3
                have h4 : u = s := h2.2
                rw [h4] at h3
                exact ⟨rfl, h3, B8.out⟩)
              clear h0
              go_wp2
              go_ret2
              exact HF.out
          · obtain rfl : k = n := by omega
            have hg := Hg.out
            have hd := Hd.out
            rw [List.drop_of_length_le (by rw [Hpl.out]; exact Nat.le_refl _)] at hg hd
            have HF := Lib.hid (show RetE w g G D (.returned (.tuple #[.int .i64 (k : Int), .int .i64 0])) wr from by
              rw [← hg, ← hd, rn_nil, dpr_nil]; exact ⟨rfl, Hs.out, Hb.out⟩)
            clear hg hd
            go_wp2
            go_ret2
            exact HF.out
    · have d0 : decide ((200 : Int) < (n : Int)) = true := decide_eq_true (by omega)
      have hbad : bad p f = 5 := by unfold bad; rw [if_neg (by omega), if_pos (by omega)]
      rw [if_neg (by omega), hbad] at hG
      rw [if_neg (by omega)] at hD
      have HF := Lib.hid (show RetE w g G D (.returned (.tuple #[.int .i64 0, .int .i64 5])) w from by rw [hG, hD]; exact ⟨rfl, h, Below.refl _ _⟩)
      clear h3 hbad hG hD hp hI hr h hfl hpl
      rcases h2 with rfl | rfl
      all_goals
        go_enter Tryz.func26, Tryz.ntmps26
        go_wp2
        go_ret2
        exact HF.out
  · have d0 : ((m : Int) != 0) = true := by simp; omega
    have d1 : ((m : Int) != 2) = true := by simp; omega
    have d0' : ((m : Int) == 0) = false := by simp; omega
    have d1' : ((m : Int) == 2) = false := by simp; omega
    have hbad : bad p f = 1 := by unfold bad; rw [if_pos (by omega)]
    rw [if_neg (by omega), hbad] at hG
    rw [if_neg (by omega)] at hD
    have HF := Lib.hid (show RetE w g G D (.returned (.tuple #[.int .i64 0, .int .i64 1])) w from by rw [hG, hD]; exact ⟨rfl, h, Below.refl _ _⟩)
    clear h2 hbad hG hD hp hI hr h hfl hpl
    go_enter Tryz.func26, Tryz.ntmps26
    go_wp2
    go_ret2
    exact HF.out
end Go.Proofs.YtoalncojijmelaaGreatDoor

/-
  The program's Stack, Depth, slices.Equal of kinds, Check, Cost.
-/
namespace Go.Proofs.YtoalncojijmelaaGreatDoor
open Go.RowKit Vl Cd Ck

/-- What Stack hands over. -/
def RetStk (w : World) (G : List Bool × Nat × Nat) (e : Ending) (w' : World) : Prop :=
  ∃ A c, e = .returned (.tuple #[.slice A G.1.length c, .int .i64 (G.2.1 : Int), .int .i64 (G.2.2 : Int)]) ∧ Oc 1 w' 4 w.heap.size A G.1.length c (lvb G.1) ∧ Below w.heap.size w w'
section
variable (A : Option Addr) (n c : Nat) (p : List Ins) (F : Option Addr) (m c' : Nat) (f : List Bool) (w : World)
set_option maxRecDepth 100000 in
set_option maxHeartbeats 1000000 in
theorem stack_c (hp : Rc 3 w w.heap.size A n c (ics p)) (hn : n ≤ 1000000) (hI : ∀ x ∈ p, I x.op) (hr : Rc 1 w w.heap.size F m c' (lvb f)) (hm : m ≤ 1000000) :
    Calls Tryz.prog 17 #[.slice A n c, .slice F m c'] w (RetStk w (sk p f)) := by
  obtain ⟨w1, hw1⟩ : ∃ w1, w1 = w.alloc (.cells #[.slice none 0 0, .int .i64 0] 59) := ⟨_, rfl⟩
  have b1 : Below w.heap.size w w1 := by rw [hw1]; exact (Below.refl _ _).alloc (Nat.le_refl _) _
  have k1 : Bk w1 w.heap.size (.slice none 0 0) (.int .i64 0) := by rw [hw1]; exact Bk.made _ _ _ _
  have he := exec_c A n c p F m c' f w.heap.size w1 (hp.below b1) hn hI (hr.below b1) hm ⟨none, 0, k1, Oc.nil 1 w1 _ _⟩
  obtain ⟨G, hG⟩ : ∃ G, G = sk p f := ⟨_, rfl⟩
  rw [← hG] at he ⊢
  have W1 := Lib.hid hw1; have B1 := Lib.hid b1; have He := Lib.hid he
  clear hw1 b1 k1 he hp hn hI hr hm hG
  go_enter Tryz.func17, Tryz.ntmps17
  go_wp2_with (rw [← W1.out])
  refine He.out.mono ?_
  rintro e w2 ⟨rfl, hs, b2⟩
  obtain ⟨A2, c2, hb, ho⟩ := hs
  have HF := Lib.hid (show RetStk w G (.returned (.tuple #[.slice A2 G.1.length c2, .int .i64 (G.2.1 : Int), .int .i64 (G.2.2 : Int)])) w2 from ⟨A2, c2, rfl, ho.mono (Nat.le_succ _), B1.out.trans b2⟩)
  obtain ⟨c0, c1, f0, f1, hlt⟩ := hb
  clear ho b2
  go_wp2
  go_ret3
  exact HF.out
end

def EqRel (w : World) (n : Nat) (p q : List Bool) (t : Value) (wr : World) : Prop := ∃ k j : Nat, k ≤ n ∧ t = .int .i64 (k : Int) ∧ (∀ j, j < k → p[j]? = q[j]?) ∧ wr = w.drewN j
set_option maxRecDepth 100000 in
set_option maxHeartbeats 1000000 in
theorem equal_c (A D : Option Addr) (n c m d B : Nat) (p q : List Bool) (w : World) (hp : Rc 1 w B A n c (lvb p)) (hq : Rc 1 w B D m d (lvb q)) (hn : n ≤ 1000000) :
    Calls Tryz.prog 34 #[.slice A n c, .slice D m d] w fun e w' => e = .returned (.bool (decide (p = q))) ∧ ∃ k, w' = w.drewN k := by
  have Hl := Lib.hid (And.intro (lvb_len1 hp) (lvb_len1 hq))
  have Hp := Lib.hid hp; have Hq := Lib.hid hq
  clear hp hq
  by_cases hnm : n = m
  · subst hnm
    go_enter Tryz.func34, Tryz.ntmps34
    go_wp2
    go_loopw [13] (fun t wr => EqRel w n p q t wr) (fun t _ => n - (intOf t).toNat)
    case atStart => exact ⟨0, 0, by omega, rfl, fun j h => by omega, rfl⟩
    case round =>
      obtain ⟨k, qq, hk, rfl, hno, rfl⟩ := hrel
      by_cases hlt : k < n
      · obtain ⟨b, o, x, rfl, hb, a0, hx⟩ := lvb_at Hp.out hlt
        obtain ⟨b', o', y, rfl, hb', e0, hy⟩ := lvb_at Hq.out hlt
        have HNo := Lib.hid hno; have Hx := Lib.hid hx; have Hy := Lib.hid hy
        clear hno hx hy
        by_cases he : x = y
        · subst he
          cases x
          all_goals
            go_wp2
            go_quiet (fail)
            go_wp2
            go_roundw
            case rel => exact ⟨k + 1, qq + nq, hlt, by go_num, fun j hj => by
              by_cases hjk : j = k
              · rw [hjk]; exact Hx.out.trans Hy.out.symm
              · exact HNo.out j (by omega), rfl⟩
            case measure => simp [intOf]; omega
        · have hne : p ≠ q := fun e => he (by have h1 := Hx.out; rw [e, Hy.out] at h1; exact (Option.some.inj h1).symm)
          have HE := Lib.hid hne
          clear hne
          cases x <;> cases y <;> first | (exact absurd rfl he) | skip
          all_goals
            clear he
            go_wp2
            go_quiet (fail)
            go_wp2
            go_ret
            refine ⟨?_, qq + nq, by first | rfl | simp | exact World.drewN_drewN _ _ _⟩
            show Ending.returned (.bool false) = Ending.returned (.bool (decide (p = q)))
            rw [decide_eq_false HE.out]
      · obtain rfl : k = n := by omega
        have HNo := Lib.hid hno
        clear hno
        go_wp2
        go_ret
        refine ⟨?_, qq, rfl⟩
        have : p = q := List.ext_getElem? fun j => by
          by_cases hj : j < k
          · exact HNo.out j hj
          · rw [List.getElem?_eq_none (by have := Hl.out; omega), List.getElem?_eq_none (by have := Hl.out; omega)]
        show Ending.returned (.bool true) = Ending.returned (.bool (decide (p = q)))
        rw [decide_eq_true this]
  · have d1 : decide ((n : Int) = (m : Int)) = false := decide_eq_false (by omega)
    have d2 : ((n : Int) == (m : Int)) = false := beq_eq_false_iff_ne.2 (by omega)
    have d3 : ((n : Int) != (m : Int)) = true := by rw [bne, d2]; rfl
    go_enter Tryz.func34, Tryz.ntmps34
    go_wp2
    go_ret
    refine ⟨?_, 0, rfl⟩
    show Ending.returned (.bool false) = Ending.returned (.bool (decide (p = q)))
    rw [decide_eq_false]
    rintro rfl
    have := Hl.out
    omega

/-- What Check says. -/
def ckd (p : List Ins) (f want : List Bool) : Nat := if (sk p f).2.2 ≠ 0 then (sk p f).2.2 else if (sk p f).1 = want then 0 else 11
section
variable (A : Option Addr) (n c : Nat) (p : List Ins) (F : Option Addr) (m c' : Nat) (f : List Bool) (E : Option Addr) (l c'' : Nat) (want : List Bool) (w : World)
set_option maxRecDepth 100000 in
set_option maxHeartbeats 1000000 in
theorem check_c (hp : Rc 3 w w.heap.size A n c (ics p)) (hn : n ≤ 1000000) (hI : ∀ x ∈ p, I x.op) (hr : Rc 1 w w.heap.size F m c' (lvb f)) (hm : m ≤ 1000000) (hw : Rc 1 w w.heap.size E l c'' (lvb want)) :
    Calls Tryz.prog 22 #[.slice A n c, .slice F m c', .slice E l c''] w (RetV w (.int .i64 (ckd p f want : Int))) := by
  have hs := stack_c A n c p F m c' f w hp hn hI hr hm
  have hs30 := (sk_len p f).1
  obtain ⟨K, hK⟩ : ∃ K, K = ckd p f want := ⟨_, rfl⟩
  rw [← hK]
  unfold ckd at hK
  obtain ⟨G, hG⟩ : ∃ G, G = sk p f := ⟨_, rfl⟩
  rw [← hG] at hs hK hs30
  obtain ⟨s, i, er⟩ := G
  dsimp only at hK hs30
  have Hs := Lib.hid hs; have HW := Lib.hid hw; have HK := Lib.hid hK; have H30 := Lib.hid hs30
  clear hs hw hK hG hp hn hI hr hm hs30
  go_enter Tryz.func22, Tryz.ntmps22
  go_wp2_with fail
  refine Hs.out.mono ?_
  rintro e w1 ⟨A1, c1, rfl, ho, b1⟩
  have heq := fun W (hb : Below w1.heap.size w1 W) => equal_c A1 E s.length c1 l c'' W.heap.size s want W ((ho.rc.below hb).more hb.size) (((HW.out.below b1).more b1.size).below hb |>.more hb.size) (by have := H30.out; omega)
  have B1 := Lib.hid b1; have Heq := Lib.hid (heq w1 (Below.refl _ _))
  clear ho b1 heq
  by_cases h0 : er = 0
  · subst h0
    by_cases h1 : s = want
    · obtain rfl : K = 0 := HK.out.trans ((if_neg (by simp)).trans (if_pos h1))
      have heq := Heq.out
      rw [decide_eq_true h1] at heq
      have Heq2 := Lib.hid heq
      clear h1 heq Heq
      go_wp2_with fail
      refine Heq2.out.mono ?_
      rintro e w2 ⟨rfl, k, rfl⟩
      go_wp2
      go_ret
      exact ⟨rfl, below_drewN B1.out _⟩
    · obtain rfl : K = 11 := HK.out.trans ((if_neg (by simp)).trans (if_neg h1))
      have heq := Heq.out
      rw [decide_eq_false h1] at heq
      have Heq2 := Lib.hid heq
      clear h1 heq Heq
      go_wp2_with fail
      refine Heq2.out.mono ?_
      rintro e w2 ⟨rfl, k, rfl⟩
      go_wp2
      go_ret
      exact ⟨rfl, below_drewN B1.out _⟩
  · obtain rfl : K = er := HK.out.trans (if_pos h0)
    have e3 : ((K : Int) != 0) = true := by simp; omega
    have e4 : ((K : Int) == 0) = false := by simp; omega
    clear h0
    go_wp2
    go_ret
    exact ⟨rfl, B1.out⟩
end
end Go.Proofs.YtoalncojijmelaaGreatDoor

/-
  The program's Needs.
-/
namespace Go.Proofs.YtoalncojijmelaaGreatDoor
open Go.RowKit Vl Cd Ck

def NdRel (w : World) (n : Nat) (p : List Ins) (N : Nat) (u i : Value) (wr : World) : Prop :=
  ∃ (k q : Nat), k ≤ n ∧ i = .int .i64 (k : Int) ∧ u = .int .i64 (q : Int) ∧ Hid (nd (p.drop k) q = N) ∧ Hid (q ≤ 50) ∧ Hid (Below w.heap.size w wr)
theorem nd_cons (x : Ins) (p : List Ins) (n : Nat) : nd (x :: p) n = nd p (if x.op = 2 ∧ may x = true then max n (x.n.toNat + 1) else n) := rfl
theorem may_field {x : Ins} (h : x.op = 2) (hm : may x = true) : 0 ≤ x.n ∧ x.n < 50 := by
  unfold may at hm
  rw [if_neg (by omega), if_neg (by omega), if_pos h] at hm
  simp at hm; exact ⟨hm.1.1, hm.1.2⟩
theorem drop_cons' {p : List Ins} {n k : Nat} {x : Ins} (hl : p.length = n) (hk : k < n) (hx : p[k]? = some x) : p.drop k = x :: p.drop (k + 1) := by
  have h2 : k < p.length := by omega
  rw [List.drop_eq_getElem_cons h2]
  rw [List.getElem?_eq_getElem h2] at hx
  injection hx with hx
  rw [hx]
end Go.Proofs.YtoalncojijmelaaGreatDoor

/-
  The document's step. (Printed by genkq.py.)
-/
namespace Go.Proofs.YtoalncojijmelaaGreatDoor
open Go.RowKit Vl Cd Ck

/-- What the document's step hands over. -/
def RetSt (w : World) (u : List Bool) (er : Nat) (e : Ending) (w' : World) : Prop :=
  Below w.heap.size w w' ∧ if er = 0 then ∃ A c, e = .returned (.tuple #[.slice A u.length c, .int .i64 0]) ∧ Oc 1 w' 4 w.heap.size A u.length c (lvb u) else e = .returned (.tuple #[.slice none 0 0, .int .i64 (er : Int)])
theorem RetSt.err {w w' : World} (u : List Bool) {er : Nat} (h : Below w.heap.size w w') (h0 : er ≠ 0) : RetSt w u er (.returned (.tuple #[.slice none 0 0, .int .i64 (er : Int)])) w' := ⟨h, by rw [if_neg h0]⟩
theorem RetSt.ok {w w' : World} {u : List Bool} {A : Option Addr} {n c : Nat} (h : Below w.heap.size w w') (hn : n = u.length) (ho : Oc 1 w' 4 w.heap.size A n c (lvb u)) : RetSt w u 0 (.returned (.tuple #[.slice A n c, .int .i64 0])) w' := ⟨h, by rw [if_pos rfl]; subst hn; exact ⟨A, c, rfl, ho⟩⟩

set_option maxRecDepth 100000 in
set_option maxHeartbeats 4000000 in
theorem rstep_c (A : Option Addr) (n c : Nat) (s : List Bool) (x : Ins) (F : Option Addr) (m c' : Nat) (f : List Bool) (w : World) (hs : Rc 1 w w.heap.size A n c (lvb s)) (hn : n ≤ 30) (hr : Rc 1 w w.heap.size F m c' (lvb f)) (hm : m = 0 ∨ m = 2) :
    Calls Tryz.prog 29 #[.slice A n c, iv x, .slice F m c'] w (RetSt w (stp f s x).1 (stp f s x).2) := by
  have hfl := lvb_len1 hr
  have hsl := lvb_len1 hs
  have hrange := @may_op x
  have hT : stp f s x = if may x = false ∨ 22 ≤ x.op ∧ f.length = 0 then (s, 1) else if ar x.op = 0 then (if 30 ≤ s.length then (s, 13) else (s ++ [pk f x.op], 0)) else opS x.op s := rfl
  generalize stp f s x = T at hT ⊢
  obtain ⟨op, nn, t⟩ := x
  obtain ⟨X, hX, -, -, -⟩ := hide_st t
  show Calls Tryz.prog _ #[_, .agg #[.int .i64 op, .int .i64 nn, .string ⟨t.toArray⟩], _] w _
  simp only [← hX]
  dsimp only at hT hrange
  obtain ⟨M, hM⟩ : ∃ M, M = may ⟨op, nn, t⟩ := ⟨_, rfl⟩
  have hmay : ∀ W, Calls Tryz.prog 48 #[.agg #[.int .i64 op, .int .i64 nn, .string X]] W (RetV W (.bool M)) := fun W => by rw [hX, hM]; exact rmay_c ⟨op, nn, t⟩ W
  rw [← hM] at hT hrange
  have har := fun W => arity_c op W
  obtain ⟨w0, hw0⟩ : ∃ w0, w0 = w.alloc (.cells #[.int .i64 op, .int .i64 nn, .string X] 44) := ⟨_, rfl⟩
  have b0 : Below w.heap.size w w0 := by rw [hw0]; exact (Below.refl _ _).alloc (Nat.le_refl _) _
  have x0 : Bx w0 w.heap.size (.int .i64 op) (.int .i64 nn) (.string X) := by rw [hw0]; exact Bx.made _ _ _ _ _
  have W0 := Lib.hid hw0; have B0 := Lib.hid b0; have X0 := Lib.hid x0; have HT := Lib.hid hT; have Hmay := Lib.hid hmay; have Hfl := Lib.hid hfl; have Hsl := Lib.hid hsl; have Hr := Lib.hid hr; have Hs := Lib.hid hs; have Har := Lib.hid har
  clear hw0 b0 x0 hT hmay hM hX hfl hsl hr hs har
  obtain ⟨c0, c1, c2, -, -, -, hlt⟩ := X0.out
  cases M
  · obtain rfl := HT.out.trans (if_pos (.inl rfl))
    clear hrange
    go_enter Tryz.func29, Tryz.ntmps29
    go_wp2_with (rw [← W0.out])
    refine (Hmay.out w0).mono ?_
    rintro e w1 ⟨rfl, b1⟩
    have B1 := Lib.hid (B0.out.trans (b1.mono B0.out.size))
    clear b1 c0 c1 c2
    go_wp2
    go_ret2
    exact RetSt.err s B1.out (by decide)
  · have hra := hrange rfl
    clear hrange
    have hrn : n ≤ n := Nat.le_refl n
    by_cases h0 : op = 0
    · subst h0
      clear hra
      have hS0 : s.take n = s := List.take_of_length_le (by rw [Hsl.out]; exact Nat.le_refl _)
      have hcut2 := Sl.upto kty A n c n (Nat.le_refl n) Hs.out.2.1 (n : Int) rfl
      have e0 : IntKind.i64.wrap (n : Int) = (n : Int) := IntWalk.i64_in _ (by omega)
      have har0 : ∀ W, Calls Tryz.prog 30 #[.int .i64 0] W fun e w' => e = .returned (.int .i64 0) ∧ W = w' := fun W => Har.out W
      have Har := Lib.hid har0
      have HS0 := Lib.hid hS0
      have Hsl2 := Lib.hid Hsl.out
      have d9 : decide ((n : Int) < 0) = false := decide_eq_false (by omega)
      clear har0 hS0
      by_cases h30 : 30 ≤ s.length
      · obtain rfl : T = (s, 13) := HT.out.trans ((if_neg (by simp)).trans ((if_pos (by decide)).trans (if_pos h30)))
        have h30n : 30 ≤ n := by have := Hsl2.out; omega
        clear h30 HT
        go_enter Tryz.func29, Tryz.ntmps29
        go_wp2_with (rw [← W0.out])
        refine (Hmay.out w0).mono ?_
        rintro e w1 ⟨rfl, b1⟩
        have x1 := X0.out.below b1 hlt
        have B1 := Lib.hid (B0.out.trans (b1.mono B0.out.size))
        clear b1 c0 c1 c2
        obtain ⟨c0, c1, c2, -, -, -, -⟩ := x1
        go_wp2_with fail
        refine (Har.out w1).mono ?_
        rintro e w2 ⟨rfl, rfl⟩
        have hS0 := HS0.out
        obtain ⟨w3, hw3⟩ : ∃ w3, w3 = (w1).alloc (.cells #[] 4) := ⟨_, rfl⟩
        have bw := B1.out
        have b3 : Below (w1).heap.size (w1) w3 := by rw [hw3]; exact (Below.refl _ _).alloc (Nat.le_refl _) _
        have hw : w.heap.size ≤ (w1).heap.size := bw.size
        have o3 : Oc 1 w3 4 w.heap.size (some ⟨(w1).heap.size, 0, none⟩) 0 0 [] := by rw [hw3]; exact (Oc.made0 1 _ _).mono hw
        have B3 := Lib.hid (bw.trans (b3.mono hw))
        have r3 : Rc 1 w3 w3.heap.size A n c (lvb s) := by
          have q := (((Hs.out.below B3.out).more B3.out.size).upto hrn)
          rw [lvb_take, hS0] at q
          exact q
        have W3 := Lib.hid hw3; have O3 := Lib.hid o3; have R3 := Lib.hid r3
        have h3s : w.heap.size ≤ w3.heap.size := B3.out.size
        clear hw3 b3 o3 r3 bw hw
        go_wp2_with (at_builtin; rw [← W3.out]; go_must (refine Sl.wpAppAt kty rfl (.tmp 68) (.tmp 74) rfl (n := 0) (m := n) (N := n) (ws := lvb s) rfl rfl O3.out R3.out (lvb_one _) (Nat.zero_add _) rfl ?hs4 ?hs5 h3s ?_))
        case hs4 => omega
        case hs5 => omega
        intro A4 c4 w4 ho4 hg4
        have B4 := Lib.hid (B3.out.trans ((hg4.belowC O3.out h3s).trans (Below.refl _ _)))
        obtain ⟨w5, hw5⟩ : ∃ w5, w5 = w4.alloc (.cells #[.bool false] 4) := ⟨_, rfl⟩
        have b5 : Below w4.heap.size w4 w5 := by rw [hw5]; exact (Below.refl _ _).alloc (Nat.le_refl _) _
        have o5 : Oc 1 w5 4 w.heap.size A4 n c4 (lvb s) := ho4.keep b5
        have r5 : Rc 1 w5 (w4.heap.size + 1) (some ⟨w4.heap.size, 0, none⟩) 1 1 (lvb [false]) := by rw [hw5]; exact Rc.lit w4 _ #[.bool false] 1 rfl (by simp [maxLen])
        have B5 := Lib.hid (B4.out.trans (b5.mono B4.out.size)); have W5 := Lib.hid hw5; have O5 := Lib.hid o5; have R5 := Lib.hid r5
        have h5s : w.heap.size ≤ w5.heap.size := B5.out.size
        clear hw5 b5 o5 r5 ho4 hg4
        go_wp2_with (at_builtin; rw [← W5.out]; go_must (refine Sl.wpAppAt kty rfl (.tmp 76) (.tmp 78) rfl (n := n) (m := 1) (N := n + 1) (ws := lvb (s ++ [false])) rfl rfl O5.out R5.out (lvb_one _) rfl (lvb_app _ _).symm ?hs4 ?hs5 h5s ?_))
        case hs4 => omega
        case hs5 => omega
        intro A6 c6 w6 ho6 hg6
        have B6 := Lib.hid (B5.out.trans ((hg6.belowC O5.out h5s).trans (Below.refl _ _)))
        clear ho6 hg6
        have dq : decide ((30 : Int) < (n : Int) + 1) = true := decide_eq_true (by omega)
        go_wp2
        go_ret2
        exact RetSt.err _ B6.out (by decide)
      · obtain rfl : T = (s ++ [false], 0) := HT.out.trans ((if_neg (by simp)).trans ((if_pos (by decide)).trans ((if_neg h30).trans (by rfl))))
        have h30n : n < 30 := by have := Hsl2.out; omega
        clear h30 HT
        go_enter Tryz.func29, Tryz.ntmps29
        go_wp2_with (rw [← W0.out])
        refine (Hmay.out w0).mono ?_
        rintro e w1 ⟨rfl, b1⟩
        have x1 := X0.out.below b1 hlt
        have B1 := Lib.hid (B0.out.trans (b1.mono B0.out.size))
        clear b1 c0 c1 c2
        obtain ⟨c0, c1, c2, -, -, -, -⟩ := x1
        go_wp2_with fail
        refine (Har.out w1).mono ?_
        rintro e w2 ⟨rfl, rfl⟩
        have hS0 := HS0.out
        obtain ⟨w3, hw3⟩ : ∃ w3, w3 = (w1).alloc (.cells #[] 4) := ⟨_, rfl⟩
        have bw := B1.out
        have b3 : Below (w1).heap.size (w1) w3 := by rw [hw3]; exact (Below.refl _ _).alloc (Nat.le_refl _) _
        have hw : w.heap.size ≤ (w1).heap.size := bw.size
        have o3 : Oc 1 w3 4 w.heap.size (some ⟨(w1).heap.size, 0, none⟩) 0 0 [] := by rw [hw3]; exact (Oc.made0 1 _ _).mono hw
        have B3 := Lib.hid (bw.trans (b3.mono hw))
        have r3 : Rc 1 w3 w3.heap.size A n c (lvb s) := by
          have q := (((Hs.out.below B3.out).more B3.out.size).upto hrn)
          rw [lvb_take, hS0] at q
          exact q
        have W3 := Lib.hid hw3; have O3 := Lib.hid o3; have R3 := Lib.hid r3
        have h3s : w.heap.size ≤ w3.heap.size := B3.out.size
        clear hw3 b3 o3 r3 bw hw
        go_wp2_with (at_builtin; rw [← W3.out]; go_must (refine Sl.wpAppAt kty rfl (.tmp 68) (.tmp 74) rfl (n := 0) (m := n) (N := n) (ws := lvb s) rfl rfl O3.out R3.out (lvb_one _) (Nat.zero_add _) rfl ?hs4 ?hs5 h3s ?_))
        case hs4 => omega
        case hs5 => omega
        intro A4 c4 w4 ho4 hg4
        have B4 := Lib.hid (B3.out.trans ((hg4.belowC O3.out h3s).trans (Below.refl _ _)))
        obtain ⟨w5, hw5⟩ : ∃ w5, w5 = w4.alloc (.cells #[.bool false] 4) := ⟨_, rfl⟩
        have b5 : Below w4.heap.size w4 w5 := by rw [hw5]; exact (Below.refl _ _).alloc (Nat.le_refl _) _
        have o5 : Oc 1 w5 4 w.heap.size A4 n c4 (lvb s) := ho4.keep b5
        have r5 : Rc 1 w5 (w4.heap.size + 1) (some ⟨w4.heap.size, 0, none⟩) 1 1 (lvb [false]) := by rw [hw5]; exact Rc.lit w4 _ #[.bool false] 1 rfl (by simp [maxLen])
        have B5 := Lib.hid (B4.out.trans (b5.mono B4.out.size)); have W5 := Lib.hid hw5; have O5 := Lib.hid o5; have R5 := Lib.hid r5
        have h5s : w.heap.size ≤ w5.heap.size := B5.out.size
        clear hw5 b5 o5 r5 ho4 hg4
        go_wp2_with (at_builtin; rw [← W5.out]; go_must (refine Sl.wpAppAt kty rfl (.tmp 76) (.tmp 78) rfl (n := n) (m := 1) (N := n + 1) (ws := lvb (s ++ [false])) rfl rfl O5.out R5.out (lvb_one _) rfl (lvb_app _ _).symm ?hs4 ?hs5 h5s ?_))
        case hs4 => omega
        case hs5 => omega
        intro A6 c6 w6 ho6 hg6
        have B6 := Lib.hid (B5.out.trans ((hg6.belowC O5.out h5s).trans (Below.refl _ _)))
        have HF := Lib.hid (RetSt.ok B6.out (show n + 1 = (s ++ [false]).length by rw [List.length_append, List.length_singleton]; exact congrArg (· + 1) Hsl2.out.symm) ho6)
        clear ho6 hg6
        have dq : decide ((30 : Int) < (n : Int) + 1) = false := decide_eq_false (by omega)
        go_wp2
        go_ret2
        exact HF.out
    have d0 : (op == 0) = false := beq_eq_false_iff_ne.2 h0
    by_cases h1 : op = 1
    · subst h1
      clear hra
      have hS0 : s.take n = s := List.take_of_length_le (by rw [Hsl.out]; exact Nat.le_refl _)
      have hcut2 := Sl.upto kty A n c n (Nat.le_refl n) Hs.out.2.1 (n : Int) rfl
      have e0 : IntKind.i64.wrap (n : Int) = (n : Int) := IntWalk.i64_in _ (by omega)
      have har0 : ∀ W, Calls Tryz.prog 30 #[.int .i64 1] W fun e w' => e = .returned (.int .i64 0) ∧ W = w' := fun W => Har.out W
      have Har := Lib.hid har0
      have HS0 := Lib.hid hS0
      have Hsl2 := Lib.hid Hsl.out
      have d9 : decide ((n : Int) < 0) = false := decide_eq_false (by omega)
      clear har0 hS0
      by_cases h30 : 30 ≤ s.length
      · obtain rfl : T = (s, 13) := HT.out.trans ((if_neg (by simp)).trans ((if_pos (by decide)).trans (if_pos h30)))
        have h30n : 30 ≤ n := by have := Hsl2.out; omega
        clear h30 HT
        go_enter Tryz.func29, Tryz.ntmps29
        go_wp2_with (rw [← W0.out])
        refine (Hmay.out w0).mono ?_
        rintro e w1 ⟨rfl, b1⟩
        have x1 := X0.out.below b1 hlt
        have B1 := Lib.hid (B0.out.trans (b1.mono B0.out.size))
        clear b1 c0 c1 c2
        obtain ⟨c0, c1, c2, -, -, -, -⟩ := x1
        go_wp2_with fail
        refine (Har.out w1).mono ?_
        rintro e w2 ⟨rfl, rfl⟩
        have hS0 := HS0.out
        obtain ⟨w3, hw3⟩ : ∃ w3, w3 = (w1).alloc (.cells #[] 4) := ⟨_, rfl⟩
        have bw := B1.out
        have b3 : Below (w1).heap.size (w1) w3 := by rw [hw3]; exact (Below.refl _ _).alloc (Nat.le_refl _) _
        have hw : w.heap.size ≤ (w1).heap.size := bw.size
        have o3 : Oc 1 w3 4 w.heap.size (some ⟨(w1).heap.size, 0, none⟩) 0 0 [] := by rw [hw3]; exact (Oc.made0 1 _ _).mono hw
        have B3 := Lib.hid (bw.trans (b3.mono hw))
        have r3 : Rc 1 w3 w3.heap.size A n c (lvb s) := by
          have q := (((Hs.out.below B3.out).more B3.out.size).upto hrn)
          rw [lvb_take, hS0] at q
          exact q
        have W3 := Lib.hid hw3; have O3 := Lib.hid o3; have R3 := Lib.hid r3
        have h3s : w.heap.size ≤ w3.heap.size := B3.out.size
        clear hw3 b3 o3 r3 bw hw
        go_wp2_with (at_builtin; rw [← W3.out]; go_must (refine Sl.wpAppAt kty rfl (.tmp 68) (.tmp 74) rfl (n := 0) (m := n) (N := n) (ws := lvb s) rfl rfl O3.out R3.out (lvb_one _) (Nat.zero_add _) rfl ?hs4 ?hs5 h3s ?_))
        case hs4 => omega
        case hs5 => omega
        intro A4 c4 w4 ho4 hg4
        have B4 := Lib.hid (B3.out.trans ((hg4.belowC O3.out h3s).trans (Below.refl _ _)))
        obtain ⟨w5, hw5⟩ : ∃ w5, w5 = w4.alloc (.cells #[.bool true] 4) := ⟨_, rfl⟩
        have b5 : Below w4.heap.size w4 w5 := by rw [hw5]; exact (Below.refl _ _).alloc (Nat.le_refl _) _
        have o5 : Oc 1 w5 4 w.heap.size A4 n c4 (lvb s) := ho4.keep b5
        have r5 : Rc 1 w5 (w4.heap.size + 1) (some ⟨w4.heap.size, 0, none⟩) 1 1 (lvb [true]) := by rw [hw5]; exact Rc.lit w4 _ #[.bool true] 1 rfl (by simp [maxLen])
        have B5 := Lib.hid (B4.out.trans (b5.mono B4.out.size)); have W5 := Lib.hid hw5; have O5 := Lib.hid o5; have R5 := Lib.hid r5
        have h5s : w.heap.size ≤ w5.heap.size := B5.out.size
        clear hw5 b5 o5 r5 ho4 hg4
        go_wp2_with (at_builtin; rw [← W5.out]; go_must (refine Sl.wpAppAt kty rfl (.tmp 76) (.tmp 78) rfl (n := n) (m := 1) (N := n + 1) (ws := lvb (s ++ [true])) rfl rfl O5.out R5.out (lvb_one _) rfl (lvb_app _ _).symm ?hs4 ?hs5 h5s ?_))
        case hs4 => omega
        case hs5 => omega
        intro A6 c6 w6 ho6 hg6
        have B6 := Lib.hid (B5.out.trans ((hg6.belowC O5.out h5s).trans (Below.refl _ _)))
        clear ho6 hg6
        have dq : decide ((30 : Int) < (n : Int) + 1) = true := decide_eq_true (by omega)
        go_wp2
        go_ret2
        exact RetSt.err _ B6.out (by decide)
      · obtain rfl : T = (s ++ [true], 0) := HT.out.trans ((if_neg (by simp)).trans ((if_pos (by decide)).trans ((if_neg h30).trans (by rfl))))
        have h30n : n < 30 := by have := Hsl2.out; omega
        clear h30 HT
        go_enter Tryz.func29, Tryz.ntmps29
        go_wp2_with (rw [← W0.out])
        refine (Hmay.out w0).mono ?_
        rintro e w1 ⟨rfl, b1⟩
        have x1 := X0.out.below b1 hlt
        have B1 := Lib.hid (B0.out.trans (b1.mono B0.out.size))
        clear b1 c0 c1 c2
        obtain ⟨c0, c1, c2, -, -, -, -⟩ := x1
        go_wp2_with fail
        refine (Har.out w1).mono ?_
        rintro e w2 ⟨rfl, rfl⟩
        have hS0 := HS0.out
        obtain ⟨w3, hw3⟩ : ∃ w3, w3 = (w1).alloc (.cells #[] 4) := ⟨_, rfl⟩
        have bw := B1.out
        have b3 : Below (w1).heap.size (w1) w3 := by rw [hw3]; exact (Below.refl _ _).alloc (Nat.le_refl _) _
        have hw : w.heap.size ≤ (w1).heap.size := bw.size
        have o3 : Oc 1 w3 4 w.heap.size (some ⟨(w1).heap.size, 0, none⟩) 0 0 [] := by rw [hw3]; exact (Oc.made0 1 _ _).mono hw
        have B3 := Lib.hid (bw.trans (b3.mono hw))
        have r3 : Rc 1 w3 w3.heap.size A n c (lvb s) := by
          have q := (((Hs.out.below B3.out).more B3.out.size).upto hrn)
          rw [lvb_take, hS0] at q
          exact q
        have W3 := Lib.hid hw3; have O3 := Lib.hid o3; have R3 := Lib.hid r3
        have h3s : w.heap.size ≤ w3.heap.size := B3.out.size
        clear hw3 b3 o3 r3 bw hw
        go_wp2_with (at_builtin; rw [← W3.out]; go_must (refine Sl.wpAppAt kty rfl (.tmp 68) (.tmp 74) rfl (n := 0) (m := n) (N := n) (ws := lvb s) rfl rfl O3.out R3.out (lvb_one _) (Nat.zero_add _) rfl ?hs4 ?hs5 h3s ?_))
        case hs4 => omega
        case hs5 => omega
        intro A4 c4 w4 ho4 hg4
        have B4 := Lib.hid (B3.out.trans ((hg4.belowC O3.out h3s).trans (Below.refl _ _)))
        obtain ⟨w5, hw5⟩ : ∃ w5, w5 = w4.alloc (.cells #[.bool true] 4) := ⟨_, rfl⟩
        have b5 : Below w4.heap.size w4 w5 := by rw [hw5]; exact (Below.refl _ _).alloc (Nat.le_refl _) _
        have o5 : Oc 1 w5 4 w.heap.size A4 n c4 (lvb s) := ho4.keep b5
        have r5 : Rc 1 w5 (w4.heap.size + 1) (some ⟨w4.heap.size, 0, none⟩) 1 1 (lvb [true]) := by rw [hw5]; exact Rc.lit w4 _ #[.bool true] 1 rfl (by simp [maxLen])
        have B5 := Lib.hid (B4.out.trans (b5.mono B4.out.size)); have W5 := Lib.hid hw5; have O5 := Lib.hid o5; have R5 := Lib.hid r5
        have h5s : w.heap.size ≤ w5.heap.size := B5.out.size
        clear hw5 b5 o5 r5 ho4 hg4
        go_wp2_with (at_builtin; rw [← W5.out]; go_must (refine Sl.wpAppAt kty rfl (.tmp 76) (.tmp 78) rfl (n := n) (m := 1) (N := n + 1) (ws := lvb (s ++ [true])) rfl rfl O5.out R5.out (lvb_one _) rfl (lvb_app _ _).symm ?hs4 ?hs5 h5s ?_))
        case hs4 => omega
        case hs5 => omega
        intro A6 c6 w6 ho6 hg6
        have B6 := Lib.hid (B5.out.trans ((hg6.belowC O5.out h5s).trans (Below.refl _ _)))
        have HF := Lib.hid (RetSt.ok B6.out (show n + 1 = (s ++ [true]).length by rw [List.length_append, List.length_singleton]; exact congrArg (· + 1) Hsl2.out.symm) ho6)
        clear ho6 hg6
        have dq : decide ((30 : Int) < (n : Int) + 1) = false := decide_eq_false (by omega)
        go_wp2
        go_ret2
        exact HF.out
    have d1 : (op == 1) = false := beq_eq_false_iff_ne.2 h1
    by_cases h2 : op = 2
    · subst h2
      clear hra
      have hS0 : s.take n = s := List.take_of_length_le (by rw [Hsl.out]; exact Nat.le_refl _)
      have hcut2 := Sl.upto kty A n c n (Nat.le_refl n) Hs.out.2.1 (n : Int) rfl
      have e0 : IntKind.i64.wrap (n : Int) = (n : Int) := IntWalk.i64_in _ (by omega)
      have har0 : ∀ W, Calls Tryz.prog 30 #[.int .i64 2] W fun e w' => e = .returned (.int .i64 0) ∧ W = w' := fun W => Har.out W
      have Har := Lib.hid har0
      have HS0 := Lib.hid hS0
      have Hsl2 := Lib.hid Hsl.out
      have d9 : decide ((n : Int) < 0) = false := decide_eq_false (by omega)
      clear har0 hS0
      by_cases h30 : 30 ≤ s.length
      · obtain rfl : T = (s, 13) := HT.out.trans ((if_neg (by simp)).trans ((if_pos (by decide)).trans (if_pos h30)))
        have h30n : 30 ≤ n := by have := Hsl2.out; omega
        clear h30 HT
        go_enter Tryz.func29, Tryz.ntmps29
        go_wp2_with (rw [← W0.out])
        refine (Hmay.out w0).mono ?_
        rintro e w1 ⟨rfl, b1⟩
        have x1 := X0.out.below b1 hlt
        have B1 := Lib.hid (B0.out.trans (b1.mono B0.out.size))
        clear b1 c0 c1 c2
        obtain ⟨c0, c1, c2, -, -, -, -⟩ := x1
        go_wp2_with fail
        refine (Har.out w1).mono ?_
        rintro e w2 ⟨rfl, rfl⟩
        have hS0 := HS0.out
        obtain ⟨w3, hw3⟩ : ∃ w3, w3 = (w1).alloc (.cells #[] 4) := ⟨_, rfl⟩
        have bw := B1.out
        have b3 : Below (w1).heap.size (w1) w3 := by rw [hw3]; exact (Below.refl _ _).alloc (Nat.le_refl _) _
        have hw : w.heap.size ≤ (w1).heap.size := bw.size
        have o3 : Oc 1 w3 4 w.heap.size (some ⟨(w1).heap.size, 0, none⟩) 0 0 [] := by rw [hw3]; exact (Oc.made0 1 _ _).mono hw
        have B3 := Lib.hid (bw.trans (b3.mono hw))
        have r3 : Rc 1 w3 w3.heap.size A n c (lvb s) := by
          have q := (((Hs.out.below B3.out).more B3.out.size).upto hrn)
          rw [lvb_take, hS0] at q
          exact q
        have W3 := Lib.hid hw3; have O3 := Lib.hid o3; have R3 := Lib.hid r3
        have h3s : w.heap.size ≤ w3.heap.size := B3.out.size
        clear hw3 b3 o3 r3 bw hw
        go_wp2_with (at_builtin; rw [← W3.out]; go_must (refine Sl.wpAppAt kty rfl (.tmp 68) (.tmp 74) rfl (n := 0) (m := n) (N := n) (ws := lvb s) rfl rfl O3.out R3.out (lvb_one _) (Nat.zero_add _) rfl ?hs4 ?hs5 h3s ?_))
        case hs4 => omega
        case hs5 => omega
        intro A4 c4 w4 ho4 hg4
        have B4 := Lib.hid (B3.out.trans ((hg4.belowC O3.out h3s).trans (Below.refl _ _)))
        obtain ⟨w5, hw5⟩ : ∃ w5, w5 = w4.alloc (.cells #[.bool true] 4) := ⟨_, rfl⟩
        have b5 : Below w4.heap.size w4 w5 := by rw [hw5]; exact (Below.refl _ _).alloc (Nat.le_refl _) _
        have o5 : Oc 1 w5 4 w.heap.size A4 n c4 (lvb s) := ho4.keep b5
        have r5 : Rc 1 w5 (w4.heap.size + 1) (some ⟨w4.heap.size, 0, none⟩) 1 1 (lvb [true]) := by rw [hw5]; exact Rc.lit w4 _ #[.bool true] 1 rfl (by simp [maxLen])
        have B5 := Lib.hid (B4.out.trans (b5.mono B4.out.size)); have W5 := Lib.hid hw5; have O5 := Lib.hid o5; have R5 := Lib.hid r5
        have h5s : w.heap.size ≤ w5.heap.size := B5.out.size
        clear hw5 b5 o5 r5 ho4 hg4
        go_wp2_with (at_builtin; rw [← W5.out]; go_must (refine Sl.wpAppAt kty rfl (.tmp 76) (.tmp 78) rfl (n := n) (m := 1) (N := n + 1) (ws := lvb (s ++ [true])) rfl rfl O5.out R5.out (lvb_one _) rfl (lvb_app _ _).symm ?hs4 ?hs5 h5s ?_))
        case hs4 => omega
        case hs5 => omega
        intro A6 c6 w6 ho6 hg6
        have B6 := Lib.hid (B5.out.trans ((hg6.belowC O5.out h5s).trans (Below.refl _ _)))
        clear ho6 hg6
        have dq : decide ((30 : Int) < (n : Int) + 1) = true := decide_eq_true (by omega)
        go_wp2
        go_ret2
        exact RetSt.err _ B6.out (by decide)
      · obtain rfl : T = (s ++ [true], 0) := HT.out.trans ((if_neg (by simp)).trans ((if_pos (by decide)).trans ((if_neg h30).trans (by rfl))))
        have h30n : n < 30 := by have := Hsl2.out; omega
        clear h30 HT
        go_enter Tryz.func29, Tryz.ntmps29
        go_wp2_with (rw [← W0.out])
        refine (Hmay.out w0).mono ?_
        rintro e w1 ⟨rfl, b1⟩
        have x1 := X0.out.below b1 hlt
        have B1 := Lib.hid (B0.out.trans (b1.mono B0.out.size))
        clear b1 c0 c1 c2
        obtain ⟨c0, c1, c2, -, -, -, -⟩ := x1
        go_wp2_with fail
        refine (Har.out w1).mono ?_
        rintro e w2 ⟨rfl, rfl⟩
        have hS0 := HS0.out
        obtain ⟨w3, hw3⟩ : ∃ w3, w3 = (w1).alloc (.cells #[] 4) := ⟨_, rfl⟩
        have bw := B1.out
        have b3 : Below (w1).heap.size (w1) w3 := by rw [hw3]; exact (Below.refl _ _).alloc (Nat.le_refl _) _
        have hw : w.heap.size ≤ (w1).heap.size := bw.size
        have o3 : Oc 1 w3 4 w.heap.size (some ⟨(w1).heap.size, 0, none⟩) 0 0 [] := by rw [hw3]; exact (Oc.made0 1 _ _).mono hw
        have B3 := Lib.hid (bw.trans (b3.mono hw))
        have r3 : Rc 1 w3 w3.heap.size A n c (lvb s) := by
          have q := (((Hs.out.below B3.out).more B3.out.size).upto hrn)
          rw [lvb_take, hS0] at q
          exact q
        have W3 := Lib.hid hw3; have O3 := Lib.hid o3; have R3 := Lib.hid r3
        have h3s : w.heap.size ≤ w3.heap.size := B3.out.size
        clear hw3 b3 o3 r3 bw hw
        go_wp2_with (at_builtin; rw [← W3.out]; go_must (refine Sl.wpAppAt kty rfl (.tmp 68) (.tmp 74) rfl (n := 0) (m := n) (N := n) (ws := lvb s) rfl rfl O3.out R3.out (lvb_one _) (Nat.zero_add _) rfl ?hs4 ?hs5 h3s ?_))
        case hs4 => omega
        case hs5 => omega
        intro A4 c4 w4 ho4 hg4
        have B4 := Lib.hid (B3.out.trans ((hg4.belowC O3.out h3s).trans (Below.refl _ _)))
        obtain ⟨w5, hw5⟩ : ∃ w5, w5 = w4.alloc (.cells #[.bool true] 4) := ⟨_, rfl⟩
        have b5 : Below w4.heap.size w4 w5 := by rw [hw5]; exact (Below.refl _ _).alloc (Nat.le_refl _) _
        have o5 : Oc 1 w5 4 w.heap.size A4 n c4 (lvb s) := ho4.keep b5
        have r5 : Rc 1 w5 (w4.heap.size + 1) (some ⟨w4.heap.size, 0, none⟩) 1 1 (lvb [true]) := by rw [hw5]; exact Rc.lit w4 _ #[.bool true] 1 rfl (by simp [maxLen])
        have B5 := Lib.hid (B4.out.trans (b5.mono B4.out.size)); have W5 := Lib.hid hw5; have O5 := Lib.hid o5; have R5 := Lib.hid r5
        have h5s : w.heap.size ≤ w5.heap.size := B5.out.size
        clear hw5 b5 o5 r5 ho4 hg4
        go_wp2_with (at_builtin; rw [← W5.out]; go_must (refine Sl.wpAppAt kty rfl (.tmp 76) (.tmp 78) rfl (n := n) (m := 1) (N := n + 1) (ws := lvb (s ++ [true])) rfl rfl O5.out R5.out (lvb_one _) rfl (lvb_app _ _).symm ?hs4 ?hs5 h5s ?_))
        case hs4 => omega
        case hs5 => omega
        intro A6 c6 w6 ho6 hg6
        have B6 := Lib.hid (B5.out.trans ((hg6.belowC O5.out h5s).trans (Below.refl _ _)))
        have HF := Lib.hid (RetSt.ok B6.out (show n + 1 = (s ++ [true]).length by rw [List.length_append, List.length_singleton]; exact congrArg (· + 1) Hsl2.out.symm) ho6)
        clear ho6 hg6
        have dq : decide ((30 : Int) < (n : Int) + 1) = false := decide_eq_false (by omega)
        go_wp2
        go_ret2
        exact HF.out
    have d2 : (op == 2) = false := beq_eq_false_iff_ne.2 h2
    by_cases h3 : op = 3
    · subst h3
      clear hra
      have hS0 : s.take n = s := List.take_of_length_le (by rw [Hsl.out]; exact Nat.le_refl _)
      have hcut2 := Sl.upto kty A n c n (Nat.le_refl n) Hs.out.2.1 (n : Int) rfl
      have e0 : IntKind.i64.wrap (n : Int) = (n : Int) := IntWalk.i64_in _ (by omega)
      have har0 : ∀ W, Calls Tryz.prog 30 #[.int .i64 3] W fun e w' => e = .returned (.int .i64 0) ∧ W = w' := fun W => Har.out W
      have Har := Lib.hid har0
      have HS0 := Lib.hid hS0
      have Hsl2 := Lib.hid Hsl.out
      have d9 : decide ((n : Int) < 0) = false := decide_eq_false (by omega)
      clear har0 hS0
      by_cases h30 : 30 ≤ s.length
      · obtain rfl : T = (s, 13) := HT.out.trans ((if_neg (by simp)).trans ((if_pos (by decide)).trans (if_pos h30)))
        have h30n : 30 ≤ n := by have := Hsl2.out; omega
        clear h30 HT
        go_enter Tryz.func29, Tryz.ntmps29
        go_wp2_with (rw [← W0.out])
        refine (Hmay.out w0).mono ?_
        rintro e w1 ⟨rfl, b1⟩
        have x1 := X0.out.below b1 hlt
        have B1 := Lib.hid (B0.out.trans (b1.mono B0.out.size))
        clear b1 c0 c1 c2
        obtain ⟨c0, c1, c2, -, -, -, -⟩ := x1
        go_wp2_with fail
        refine (Har.out w1).mono ?_
        rintro e w2 ⟨rfl, rfl⟩
        have hS0 := HS0.out
        obtain ⟨w3, hw3⟩ : ∃ w3, w3 = (w1).alloc (.cells #[] 4) := ⟨_, rfl⟩
        have bw := B1.out
        have b3 : Below (w1).heap.size (w1) w3 := by rw [hw3]; exact (Below.refl _ _).alloc (Nat.le_refl _) _
        have hw : w.heap.size ≤ (w1).heap.size := bw.size
        have o3 : Oc 1 w3 4 w.heap.size (some ⟨(w1).heap.size, 0, none⟩) 0 0 [] := by rw [hw3]; exact (Oc.made0 1 _ _).mono hw
        have B3 := Lib.hid (bw.trans (b3.mono hw))
        have r3 : Rc 1 w3 w3.heap.size A n c (lvb s) := by
          have q := (((Hs.out.below B3.out).more B3.out.size).upto hrn)
          rw [lvb_take, hS0] at q
          exact q
        have W3 := Lib.hid hw3; have O3 := Lib.hid o3; have R3 := Lib.hid r3
        have h3s : w.heap.size ≤ w3.heap.size := B3.out.size
        clear hw3 b3 o3 r3 bw hw
        go_wp2_with (at_builtin; rw [← W3.out]; go_must (refine Sl.wpAppAt kty rfl (.tmp 68) (.tmp 74) rfl (n := 0) (m := n) (N := n) (ws := lvb s) rfl rfl O3.out R3.out (lvb_one _) (Nat.zero_add _) rfl ?hs4 ?hs5 h3s ?_))
        case hs4 => omega
        case hs5 => omega
        intro A4 c4 w4 ho4 hg4
        have B4 := Lib.hid (B3.out.trans ((hg4.belowC O3.out h3s).trans (Below.refl _ _)))
        obtain ⟨w5, hw5⟩ : ∃ w5, w5 = w4.alloc (.cells #[.bool false] 4) := ⟨_, rfl⟩
        have b5 : Below w4.heap.size w4 w5 := by rw [hw5]; exact (Below.refl _ _).alloc (Nat.le_refl _) _
        have o5 : Oc 1 w5 4 w.heap.size A4 n c4 (lvb s) := ho4.keep b5
        have r5 : Rc 1 w5 (w4.heap.size + 1) (some ⟨w4.heap.size, 0, none⟩) 1 1 (lvb [false]) := by rw [hw5]; exact Rc.lit w4 _ #[.bool false] 1 rfl (by simp [maxLen])
        have B5 := Lib.hid (B4.out.trans (b5.mono B4.out.size)); have W5 := Lib.hid hw5; have O5 := Lib.hid o5; have R5 := Lib.hid r5
        have h5s : w.heap.size ≤ w5.heap.size := B5.out.size
        clear hw5 b5 o5 r5 ho4 hg4
        go_wp2_with (at_builtin; rw [← W5.out]; go_must (refine Sl.wpAppAt kty rfl (.tmp 76) (.tmp 78) rfl (n := n) (m := 1) (N := n + 1) (ws := lvb (s ++ [false])) rfl rfl O5.out R5.out (lvb_one _) rfl (lvb_app _ _).symm ?hs4 ?hs5 h5s ?_))
        case hs4 => omega
        case hs5 => omega
        intro A6 c6 w6 ho6 hg6
        have B6 := Lib.hid (B5.out.trans ((hg6.belowC O5.out h5s).trans (Below.refl _ _)))
        clear ho6 hg6
        have dq : decide ((30 : Int) < (n : Int) + 1) = true := decide_eq_true (by omega)
        go_wp2
        go_ret2
        exact RetSt.err _ B6.out (by decide)
      · obtain rfl : T = (s ++ [false], 0) := HT.out.trans ((if_neg (by simp)).trans ((if_pos (by decide)).trans ((if_neg h30).trans (by rfl))))
        have h30n : n < 30 := by have := Hsl2.out; omega
        clear h30 HT
        go_enter Tryz.func29, Tryz.ntmps29
        go_wp2_with (rw [← W0.out])
        refine (Hmay.out w0).mono ?_
        rintro e w1 ⟨rfl, b1⟩
        have x1 := X0.out.below b1 hlt
        have B1 := Lib.hid (B0.out.trans (b1.mono B0.out.size))
        clear b1 c0 c1 c2
        obtain ⟨c0, c1, c2, -, -, -, -⟩ := x1
        go_wp2_with fail
        refine (Har.out w1).mono ?_
        rintro e w2 ⟨rfl, rfl⟩
        have hS0 := HS0.out
        obtain ⟨w3, hw3⟩ : ∃ w3, w3 = (w1).alloc (.cells #[] 4) := ⟨_, rfl⟩
        have bw := B1.out
        have b3 : Below (w1).heap.size (w1) w3 := by rw [hw3]; exact (Below.refl _ _).alloc (Nat.le_refl _) _
        have hw : w.heap.size ≤ (w1).heap.size := bw.size
        have o3 : Oc 1 w3 4 w.heap.size (some ⟨(w1).heap.size, 0, none⟩) 0 0 [] := by rw [hw3]; exact (Oc.made0 1 _ _).mono hw
        have B3 := Lib.hid (bw.trans (b3.mono hw))
        have r3 : Rc 1 w3 w3.heap.size A n c (lvb s) := by
          have q := (((Hs.out.below B3.out).more B3.out.size).upto hrn)
          rw [lvb_take, hS0] at q
          exact q
        have W3 := Lib.hid hw3; have O3 := Lib.hid o3; have R3 := Lib.hid r3
        have h3s : w.heap.size ≤ w3.heap.size := B3.out.size
        clear hw3 b3 o3 r3 bw hw
        go_wp2_with (at_builtin; rw [← W3.out]; go_must (refine Sl.wpAppAt kty rfl (.tmp 68) (.tmp 74) rfl (n := 0) (m := n) (N := n) (ws := lvb s) rfl rfl O3.out R3.out (lvb_one _) (Nat.zero_add _) rfl ?hs4 ?hs5 h3s ?_))
        case hs4 => omega
        case hs5 => omega
        intro A4 c4 w4 ho4 hg4
        have B4 := Lib.hid (B3.out.trans ((hg4.belowC O3.out h3s).trans (Below.refl _ _)))
        obtain ⟨w5, hw5⟩ : ∃ w5, w5 = w4.alloc (.cells #[.bool false] 4) := ⟨_, rfl⟩
        have b5 : Below w4.heap.size w4 w5 := by rw [hw5]; exact (Below.refl _ _).alloc (Nat.le_refl _) _
        have o5 : Oc 1 w5 4 w.heap.size A4 n c4 (lvb s) := ho4.keep b5
        have r5 : Rc 1 w5 (w4.heap.size + 1) (some ⟨w4.heap.size, 0, none⟩) 1 1 (lvb [false]) := by rw [hw5]; exact Rc.lit w4 _ #[.bool false] 1 rfl (by simp [maxLen])
        have B5 := Lib.hid (B4.out.trans (b5.mono B4.out.size)); have W5 := Lib.hid hw5; have O5 := Lib.hid o5; have R5 := Lib.hid r5
        have h5s : w.heap.size ≤ w5.heap.size := B5.out.size
        clear hw5 b5 o5 r5 ho4 hg4
        go_wp2_with (at_builtin; rw [← W5.out]; go_must (refine Sl.wpAppAt kty rfl (.tmp 76) (.tmp 78) rfl (n := n) (m := 1) (N := n + 1) (ws := lvb (s ++ [false])) rfl rfl O5.out R5.out (lvb_one _) rfl (lvb_app _ _).symm ?hs4 ?hs5 h5s ?_))
        case hs4 => omega
        case hs5 => omega
        intro A6 c6 w6 ho6 hg6
        have B6 := Lib.hid (B5.out.trans ((hg6.belowC O5.out h5s).trans (Below.refl _ _)))
        have HF := Lib.hid (RetSt.ok B6.out (show n + 1 = (s ++ [false]).length by rw [List.length_append, List.length_singleton]; exact congrArg (· + 1) Hsl2.out.symm) ho6)
        clear ho6 hg6
        have dq : decide ((30 : Int) < (n : Int) + 1) = false := decide_eq_false (by omega)
        go_wp2
        go_ret2
        exact HF.out
    have d3 : (op == 3) = false := beq_eq_false_iff_ne.2 h3
    by_cases h22 : op = 22
    · subst h22
      clear hra h0 h1 h2 h3 d0 d1 d2 d3
      rcases hm with rfl | rfl
      · obtain rfl : T = (s, 1) := HT.out.trans (if_pos (.inr ⟨by omega, Hfl.out⟩))
        clear HT
        go_enter Tryz.func29, Tryz.ntmps29
        go_wp2_with (rw [← W0.out])
        refine (Hmay.out w0).mono ?_
        rintro e w1 ⟨rfl, b1⟩
        have x1 := X0.out.below b1 hlt
        have B1 := Lib.hid (B0.out.trans (b1.mono B0.out.size))
        clear b1 c0 c1 c2
        obtain ⟨c0, c1, c2, -, -, -, -⟩ := x1
        go_wp2
        go_ret2
        exact RetSt.err s B1.out (by decide)
      · obtain ⟨b, o, q, rfl, hb, hc, hq⟩ := lvb_at Hr.out (k := 0) (by omega)
        have hpk : pk f 22 = q := by
          show f.getD 0 false = q
          rw [List.getD_eq_getElem?_getD, hq]; rfl
        have hS0 : s.take n = s := List.take_of_length_le (by rw [Hsl.out]; exact Nat.le_refl _)
        have hcut2 := Sl.upto kty A n c n (Nat.le_refl n) Hs.out.2.1 (n : Int) rfl
        have e0 : IntKind.i64.wrap (n : Int) = (n : Int) := IntWalk.i64_in _ (by omega)
        have har0 : ∀ W, Calls Tryz.prog 30 #[.int .i64 22] W fun e w' => e = .returned (.int .i64 0) ∧ W = w' := fun W => Har.out W
        have Har := Lib.hid har0
        have HS0 := Lib.hid hS0
        have Hsl2 := Lib.hid Hsl.out
        have d9 : decide ((n : Int) < 0) = false := decide_eq_false (by omega)
        clear har0 hS0
        by_cases h30 : 30 ≤ s.length
        · obtain rfl : T = (s, 13) := HT.out.trans ((if_neg (by rw [Hfl.out]; simp)).trans ((if_pos (by decide)).trans (if_pos h30)))
          have h30n : 30 ≤ n := by have := Hsl2.out; omega
          clear h30 HT hpk hq
          go_enter Tryz.func29, Tryz.ntmps29
          go_wp2_with (rw [← W0.out])
          refine (Hmay.out w0).mono ?_
          rintro e w1 ⟨rfl, b1⟩
          have x1 := X0.out.below b1 hlt
          have B1 := Lib.hid (B0.out.trans (b1.mono B0.out.size))
          have k1 : w1.cell? ⟨b, o, none⟩ = some (.bool q) := (B1.out.cell (p := ⟨b, o + 0, none⟩) hb).trans hc
          clear hc
          clear b1 c0 c1 c2
          obtain ⟨c0, c1, c2, -, -, -, -⟩ := x1
          go_wp2_with fail
          refine (Har.out w1).mono ?_
          rintro e w2 ⟨rfl, rfl⟩
          have hS0 := HS0.out
          obtain ⟨w3, hw3⟩ : ∃ w3, w3 = (w1).alloc (.cells #[] 4) := ⟨_, rfl⟩
          have bw := B1.out
          have b3 : Below (w1).heap.size (w1) w3 := by rw [hw3]; exact (Below.refl _ _).alloc (Nat.le_refl _) _
          have hw : w.heap.size ≤ (w1).heap.size := bw.size
          have o3 : Oc 1 w3 4 w.heap.size (some ⟨(w1).heap.size, 0, none⟩) 0 0 [] := by rw [hw3]; exact (Oc.made0 1 _ _).mono hw
          have B3 := Lib.hid (bw.trans (b3.mono hw))
          have r3 : Rc 1 w3 w3.heap.size A n c (lvb s) := by
            have q := (((Hs.out.below B3.out).more B3.out.size).upto hrn)
            rw [lvb_take, hS0] at q
            exact q
          have W3 := Lib.hid hw3; have O3 := Lib.hid o3; have R3 := Lib.hid r3
          have h3s : w.heap.size ≤ w3.heap.size := B3.out.size
          clear hw3 b3 o3 r3 bw hw
          go_wp2_with (at_builtin; rw [← W3.out]; go_must (refine Sl.wpAppAt kty rfl (.tmp 68) (.tmp 74) rfl (n := 0) (m := n) (N := n) (ws := lvb s) rfl rfl O3.out R3.out (lvb_one _) (Nat.zero_add _) rfl ?hs4 ?hs5 h3s ?_))
          case hs4 => omega
          case hs5 => omega
          intro A4 c4 w4 ho4 hg4
          have B4 := Lib.hid (B3.out.trans ((hg4.belowC O3.out h3s).trans (Below.refl _ _)))
          obtain ⟨w5, hw5⟩ : ∃ w5, w5 = w4.alloc (.cells #[.bool q] 4) := ⟨_, rfl⟩
          have b5 : Below w4.heap.size w4 w5 := by rw [hw5]; exact (Below.refl _ _).alloc (Nat.le_refl _) _
          have o5 : Oc 1 w5 4 w.heap.size A4 n c4 (lvb s) := ho4.keep b5
          have r5 : Rc 1 w5 (w4.heap.size + 1) (some ⟨w4.heap.size, 0, none⟩) 1 1 (lvb [q]) := by rw [hw5]; exact Rc.lit w4 _ #[.bool q] 1 rfl (by simp [maxLen])
          have B5 := Lib.hid (B4.out.trans (b5.mono B4.out.size)); have W5 := Lib.hid hw5; have O5 := Lib.hid o5; have R5 := Lib.hid r5
          have h5s : w.heap.size ≤ w5.heap.size := B5.out.size
          clear hw5 b5 o5 r5 ho4 hg4
          go_wp2_with (at_builtin; rw [← W5.out]; go_must (refine Sl.wpAppAt kty rfl (.tmp 76) (.tmp 78) rfl (n := n) (m := 1) (N := n + 1) (ws := lvb (s ++ [q])) rfl rfl O5.out R5.out (lvb_one _) rfl (lvb_app _ _).symm ?hs4 ?hs5 h5s ?_))
          case hs4 => omega
          case hs5 => omega
          intro A6 c6 w6 ho6 hg6
          have B6 := Lib.hid (B5.out.trans ((hg6.belowC O5.out h5s).trans (Below.refl _ _)))
          clear ho6 hg6
          have dq : decide ((30 : Int) < (n : Int) + 1) = true := decide_eq_true (by omega)
          go_wp2
          go_ret2
          exact RetSt.err _ B6.out (by decide)
        · obtain rfl : T = (s ++ [q], 0) := HT.out.trans ((if_neg (by rw [Hfl.out]; simp)).trans ((if_pos (by decide)).trans ((if_neg h30).trans (by rw [hpk]))))
          have h30n : n < 30 := by have := Hsl2.out; omega
          clear h30 HT hpk hq
          go_enter Tryz.func29, Tryz.ntmps29
          go_wp2_with (rw [← W0.out])
          refine (Hmay.out w0).mono ?_
          rintro e w1 ⟨rfl, b1⟩
          have x1 := X0.out.below b1 hlt
          have B1 := Lib.hid (B0.out.trans (b1.mono B0.out.size))
          have k1 : w1.cell? ⟨b, o, none⟩ = some (.bool q) := (B1.out.cell (p := ⟨b, o + 0, none⟩) hb).trans hc
          clear hc
          clear b1 c0 c1 c2
          obtain ⟨c0, c1, c2, -, -, -, -⟩ := x1
          go_wp2_with fail
          refine (Har.out w1).mono ?_
          rintro e w2 ⟨rfl, rfl⟩
          have hS0 := HS0.out
          obtain ⟨w3, hw3⟩ : ∃ w3, w3 = (w1).alloc (.cells #[] 4) := ⟨_, rfl⟩
          have bw := B1.out
          have b3 : Below (w1).heap.size (w1) w3 := by rw [hw3]; exact (Below.refl _ _).alloc (Nat.le_refl _) _
          have hw : w.heap.size ≤ (w1).heap.size := bw.size
          have o3 : Oc 1 w3 4 w.heap.size (some ⟨(w1).heap.size, 0, none⟩) 0 0 [] := by rw [hw3]; exact (Oc.made0 1 _ _).mono hw
          have B3 := Lib.hid (bw.trans (b3.mono hw))
          have r3 : Rc 1 w3 w3.heap.size A n c (lvb s) := by
            have q := (((Hs.out.below B3.out).more B3.out.size).upto hrn)
            rw [lvb_take, hS0] at q
            exact q
          have W3 := Lib.hid hw3; have O3 := Lib.hid o3; have R3 := Lib.hid r3
          have h3s : w.heap.size ≤ w3.heap.size := B3.out.size
          clear hw3 b3 o3 r3 bw hw
          go_wp2_with (at_builtin; rw [← W3.out]; go_must (refine Sl.wpAppAt kty rfl (.tmp 68) (.tmp 74) rfl (n := 0) (m := n) (N := n) (ws := lvb s) rfl rfl O3.out R3.out (lvb_one _) (Nat.zero_add _) rfl ?hs4 ?hs5 h3s ?_))
          case hs4 => omega
          case hs5 => omega
          intro A4 c4 w4 ho4 hg4
          have B4 := Lib.hid (B3.out.trans ((hg4.belowC O3.out h3s).trans (Below.refl _ _)))
          obtain ⟨w5, hw5⟩ : ∃ w5, w5 = w4.alloc (.cells #[.bool q] 4) := ⟨_, rfl⟩
          have b5 : Below w4.heap.size w4 w5 := by rw [hw5]; exact (Below.refl _ _).alloc (Nat.le_refl _) _
          have o5 : Oc 1 w5 4 w.heap.size A4 n c4 (lvb s) := ho4.keep b5
          have r5 : Rc 1 w5 (w4.heap.size + 1) (some ⟨w4.heap.size, 0, none⟩) 1 1 (lvb [q]) := by rw [hw5]; exact Rc.lit w4 _ #[.bool q] 1 rfl (by simp [maxLen])
          have B5 := Lib.hid (B4.out.trans (b5.mono B4.out.size)); have W5 := Lib.hid hw5; have O5 := Lib.hid o5; have R5 := Lib.hid r5
          have h5s : w.heap.size ≤ w5.heap.size := B5.out.size
          clear hw5 b5 o5 r5 ho4 hg4
          go_wp2_with (at_builtin; rw [← W5.out]; go_must (refine Sl.wpAppAt kty rfl (.tmp 76) (.tmp 78) rfl (n := n) (m := 1) (N := n + 1) (ws := lvb (s ++ [q])) rfl rfl O5.out R5.out (lvb_one _) rfl (lvb_app _ _).symm ?hs4 ?hs5 h5s ?_))
          case hs4 => omega
          case hs5 => omega
          intro A6 c6 w6 ho6 hg6
          have B6 := Lib.hid (B5.out.trans ((hg6.belowC O5.out h5s).trans (Below.refl _ _)))
          have HF := Lib.hid (RetSt.ok B6.out (show n + 1 = (s ++ [q]).length by rw [List.length_append, List.length_singleton]; exact congrArg (· + 1) Hsl2.out.symm) ho6)
          clear ho6 hg6
          have dq : decide ((30 : Int) < (n : Int) + 1) = false := decide_eq_false (by omega)
          go_wp2
          go_ret2
          exact HF.out
    have d22 : (op == 22) = false := beq_eq_false_iff_ne.2 h22
    by_cases h23 : op = 23
    · subst h23
      clear hra h0 h1 h2 h3 d0 d1 d2 d3 h22 d22
      rcases hm with rfl | rfl
      · obtain rfl : T = (s, 1) := HT.out.trans (if_pos (.inr ⟨by omega, Hfl.out⟩))
        clear HT
        go_enter Tryz.func29, Tryz.ntmps29
        go_wp2_with (rw [← W0.out])
        refine (Hmay.out w0).mono ?_
        rintro e w1 ⟨rfl, b1⟩
        have x1 := X0.out.below b1 hlt
        have B1 := Lib.hid (B0.out.trans (b1.mono B0.out.size))
        clear b1 c0 c1 c2
        obtain ⟨c0, c1, c2, -, -, -, -⟩ := x1
        go_wp2
        go_ret2
        exact RetSt.err s B1.out (by decide)
      · obtain ⟨b, o, q, rfl, hb, hc, hq⟩ := lvb_at Hr.out (k := 1) (by omega)
        have hpk : pk f 23 = q := by
          show f.getD 1 false = q
          rw [List.getD_eq_getElem?_getD, hq]; rfl
        have hS0 : s.take n = s := List.take_of_length_le (by rw [Hsl.out]; exact Nat.le_refl _)
        have hcut2 := Sl.upto kty A n c n (Nat.le_refl n) Hs.out.2.1 (n : Int) rfl
        have e0 : IntKind.i64.wrap (n : Int) = (n : Int) := IntWalk.i64_in _ (by omega)
        have har0 : ∀ W, Calls Tryz.prog 30 #[.int .i64 23] W fun e w' => e = .returned (.int .i64 0) ∧ W = w' := fun W => Har.out W
        have Har := Lib.hid har0
        have HS0 := Lib.hid hS0
        have Hsl2 := Lib.hid Hsl.out
        have d9 : decide ((n : Int) < 0) = false := decide_eq_false (by omega)
        clear har0 hS0
        by_cases h30 : 30 ≤ s.length
        · obtain rfl : T = (s, 13) := HT.out.trans ((if_neg (by rw [Hfl.out]; simp)).trans ((if_pos (by decide)).trans (if_pos h30)))
          have h30n : 30 ≤ n := by have := Hsl2.out; omega
          clear h30 HT hpk hq
          go_enter Tryz.func29, Tryz.ntmps29
          go_wp2_with (rw [← W0.out])
          refine (Hmay.out w0).mono ?_
          rintro e w1 ⟨rfl, b1⟩
          have x1 := X0.out.below b1 hlt
          have B1 := Lib.hid (B0.out.trans (b1.mono B0.out.size))
          have k1 : w1.cell? ⟨b, o + 1, none⟩ = some (.bool q) := (B1.out.cell (p := ⟨b, o + 1, none⟩) hb).trans hc
          clear hc
          clear b1 c0 c1 c2
          obtain ⟨c0, c1, c2, -, -, -, -⟩ := x1
          go_wp2_with fail
          refine (Har.out w1).mono ?_
          rintro e w2 ⟨rfl, rfl⟩
          have hS0 := HS0.out
          obtain ⟨w3, hw3⟩ : ∃ w3, w3 = (w1).alloc (.cells #[] 4) := ⟨_, rfl⟩
          have bw := B1.out
          have b3 : Below (w1).heap.size (w1) w3 := by rw [hw3]; exact (Below.refl _ _).alloc (Nat.le_refl _) _
          have hw : w.heap.size ≤ (w1).heap.size := bw.size
          have o3 : Oc 1 w3 4 w.heap.size (some ⟨(w1).heap.size, 0, none⟩) 0 0 [] := by rw [hw3]; exact (Oc.made0 1 _ _).mono hw
          have B3 := Lib.hid (bw.trans (b3.mono hw))
          have r3 : Rc 1 w3 w3.heap.size A n c (lvb s) := by
            have q := (((Hs.out.below B3.out).more B3.out.size).upto hrn)
            rw [lvb_take, hS0] at q
            exact q
          have W3 := Lib.hid hw3; have O3 := Lib.hid o3; have R3 := Lib.hid r3
          have h3s : w.heap.size ≤ w3.heap.size := B3.out.size
          clear hw3 b3 o3 r3 bw hw
          go_wp2_with (at_builtin; rw [← W3.out]; go_must (refine Sl.wpAppAt kty rfl (.tmp 68) (.tmp 74) rfl (n := 0) (m := n) (N := n) (ws := lvb s) rfl rfl O3.out R3.out (lvb_one _) (Nat.zero_add _) rfl ?hs4 ?hs5 h3s ?_))
          case hs4 => omega
          case hs5 => omega
          intro A4 c4 w4 ho4 hg4
          have B4 := Lib.hid (B3.out.trans ((hg4.belowC O3.out h3s).trans (Below.refl _ _)))
          obtain ⟨w5, hw5⟩ : ∃ w5, w5 = w4.alloc (.cells #[.bool q] 4) := ⟨_, rfl⟩
          have b5 : Below w4.heap.size w4 w5 := by rw [hw5]; exact (Below.refl _ _).alloc (Nat.le_refl _) _
          have o5 : Oc 1 w5 4 w.heap.size A4 n c4 (lvb s) := ho4.keep b5
          have r5 : Rc 1 w5 (w4.heap.size + 1) (some ⟨w4.heap.size, 0, none⟩) 1 1 (lvb [q]) := by rw [hw5]; exact Rc.lit w4 _ #[.bool q] 1 rfl (by simp [maxLen])
          have B5 := Lib.hid (B4.out.trans (b5.mono B4.out.size)); have W5 := Lib.hid hw5; have O5 := Lib.hid o5; have R5 := Lib.hid r5
          have h5s : w.heap.size ≤ w5.heap.size := B5.out.size
          clear hw5 b5 o5 r5 ho4 hg4
          go_wp2_with (at_builtin; rw [← W5.out]; go_must (refine Sl.wpAppAt kty rfl (.tmp 76) (.tmp 78) rfl (n := n) (m := 1) (N := n + 1) (ws := lvb (s ++ [q])) rfl rfl O5.out R5.out (lvb_one _) rfl (lvb_app _ _).symm ?hs4 ?hs5 h5s ?_))
          case hs4 => omega
          case hs5 => omega
          intro A6 c6 w6 ho6 hg6
          have B6 := Lib.hid (B5.out.trans ((hg6.belowC O5.out h5s).trans (Below.refl _ _)))
          clear ho6 hg6
          have dq : decide ((30 : Int) < (n : Int) + 1) = true := decide_eq_true (by omega)
          go_wp2
          go_ret2
          exact RetSt.err _ B6.out (by decide)
        · obtain rfl : T = (s ++ [q], 0) := HT.out.trans ((if_neg (by rw [Hfl.out]; simp)).trans ((if_pos (by decide)).trans ((if_neg h30).trans (by rw [hpk]))))
          have h30n : n < 30 := by have := Hsl2.out; omega
          clear h30 HT hpk hq
          go_enter Tryz.func29, Tryz.ntmps29
          go_wp2_with (rw [← W0.out])
          refine (Hmay.out w0).mono ?_
          rintro e w1 ⟨rfl, b1⟩
          have x1 := X0.out.below b1 hlt
          have B1 := Lib.hid (B0.out.trans (b1.mono B0.out.size))
          have k1 : w1.cell? ⟨b, o + 1, none⟩ = some (.bool q) := (B1.out.cell (p := ⟨b, o + 1, none⟩) hb).trans hc
          clear hc
          clear b1 c0 c1 c2
          obtain ⟨c0, c1, c2, -, -, -, -⟩ := x1
          go_wp2_with fail
          refine (Har.out w1).mono ?_
          rintro e w2 ⟨rfl, rfl⟩
          have hS0 := HS0.out
          obtain ⟨w3, hw3⟩ : ∃ w3, w3 = (w1).alloc (.cells #[] 4) := ⟨_, rfl⟩
          have bw := B1.out
          have b3 : Below (w1).heap.size (w1) w3 := by rw [hw3]; exact (Below.refl _ _).alloc (Nat.le_refl _) _
          have hw : w.heap.size ≤ (w1).heap.size := bw.size
          have o3 : Oc 1 w3 4 w.heap.size (some ⟨(w1).heap.size, 0, none⟩) 0 0 [] := by rw [hw3]; exact (Oc.made0 1 _ _).mono hw
          have B3 := Lib.hid (bw.trans (b3.mono hw))
          have r3 : Rc 1 w3 w3.heap.size A n c (lvb s) := by
            have q := (((Hs.out.below B3.out).more B3.out.size).upto hrn)
            rw [lvb_take, hS0] at q
            exact q
          have W3 := Lib.hid hw3; have O3 := Lib.hid o3; have R3 := Lib.hid r3
          have h3s : w.heap.size ≤ w3.heap.size := B3.out.size
          clear hw3 b3 o3 r3 bw hw
          go_wp2_with (at_builtin; rw [← W3.out]; go_must (refine Sl.wpAppAt kty rfl (.tmp 68) (.tmp 74) rfl (n := 0) (m := n) (N := n) (ws := lvb s) rfl rfl O3.out R3.out (lvb_one _) (Nat.zero_add _) rfl ?hs4 ?hs5 h3s ?_))
          case hs4 => omega
          case hs5 => omega
          intro A4 c4 w4 ho4 hg4
          have B4 := Lib.hid (B3.out.trans ((hg4.belowC O3.out h3s).trans (Below.refl _ _)))
          obtain ⟨w5, hw5⟩ : ∃ w5, w5 = w4.alloc (.cells #[.bool q] 4) := ⟨_, rfl⟩
          have b5 : Below w4.heap.size w4 w5 := by rw [hw5]; exact (Below.refl _ _).alloc (Nat.le_refl _) _
          have o5 : Oc 1 w5 4 w.heap.size A4 n c4 (lvb s) := ho4.keep b5
          have r5 : Rc 1 w5 (w4.heap.size + 1) (some ⟨w4.heap.size, 0, none⟩) 1 1 (lvb [q]) := by rw [hw5]; exact Rc.lit w4 _ #[.bool q] 1 rfl (by simp [maxLen])
          have B5 := Lib.hid (B4.out.trans (b5.mono B4.out.size)); have W5 := Lib.hid hw5; have O5 := Lib.hid o5; have R5 := Lib.hid r5
          have h5s : w.heap.size ≤ w5.heap.size := B5.out.size
          clear hw5 b5 o5 r5 ho4 hg4
          go_wp2_with (at_builtin; rw [← W5.out]; go_must (refine Sl.wpAppAt kty rfl (.tmp 76) (.tmp 78) rfl (n := n) (m := 1) (N := n + 1) (ws := lvb (s ++ [q])) rfl rfl O5.out R5.out (lvb_one _) rfl (lvb_app _ _).symm ?hs4 ?hs5 h5s ?_))
          case hs4 => omega
          case hs5 => omega
          intro A6 c6 w6 ho6 hg6
          have B6 := Lib.hid (B5.out.trans ((hg6.belowC O5.out h5s).trans (Below.refl _ _)))
          have HF := Lib.hid (RetSt.ok B6.out (show n + 1 = (s ++ [q]).length by rw [List.length_append, List.length_singleton]; exact congrArg (· + 1) Hsl2.out.symm) ho6)
          clear ho6 hg6
          have dq : decide ((30 : Int) < (n : Int) + 1) = false := decide_eq_false (by omega)
          go_wp2
          go_ret2
          exact HF.out
    have d23 : (op == 23) = false := beq_eq_false_iff_ne.2 h23
    have d22' : decide (22 ≤ op) = false := decide_eq_false (by omega)
    have hnz : ar op ≠ 0 := ar_nonzero ⟨by omega, by omega⟩
    have ha3 := ar_le op
    have hT := HT.out.trans ((if_neg (by simp; omega)).trans (if_neg hnz))
    unfold opS at hT
    obtain ⟨a, ha⟩ : ∃ a, a = ar op := ⟨_, rfl⟩
    have har := Har.out
    simp only [← ha] at hT har
    rw [← ha] at ha3 hnz
    have HT2 := Lib.hid hT; have Har2 := Lib.hid har
    clear hra h0 h1 h2 h3 h22 h23 HT hT har Har ha hrn
    by_cases hna : n < a
    · obtain rfl : T = (s, 13) := HT2.out.trans (if_pos (by rw [Hsl.out]; exact hna))
      have d9 : decide ((n : Int) < (a : Int)) = true := decide_eq_true (by omega)
      have d9' : decide (n < a) = true := decide_eq_true (by omega)
      clear hna hnz
      go_enter Tryz.func29, Tryz.ntmps29
      go_wp2_with (rw [← W0.out])
      refine (Hmay.out w0).mono ?_
      rintro e w1 ⟨rfl, b1⟩
      have x1 := X0.out.below b1 hlt
      have B1 := Lib.hid (B0.out.trans (b1.mono B0.out.size))
      clear b1 c0 c1 c2
      obtain ⟨c0, c1, c2, -, -, -, -⟩ := x1
      go_wp2_with fail
      refine (Har2.out w1).mono ?_
      rintro e w2 ⟨rfl, rfl⟩
      go_wp2
      go_ret2
      exact RetSt.err s B1.out (by decide)
    have d9 : decide ((n : Int) < (a : Int)) = false := decide_eq_false (by omega)
    have d9' : decide (n < a) = false := decide_eq_false (by omega)
    have d8 : decide ((0 : Int) < (a : Int)) = true := decide_eq_true (by omega)
    have d8' : decide (0 < a) = true := decide_eq_true (by omega)
    obtain ⟨r, hr⟩ : ∃ r, r = n - a := ⟨_, rfl⟩
    have hrn : r ≤ n := by omega
    have hra : n - r = a := by omega
    have hr30 : r < 30 := by omega
    have hT := HT2.out.trans (if_neg (by rw [Hsl.out]; exact hna))
    rw [Hsl.out, ← hr] at hT
    obtain ⟨R, hR⟩ : ∃ R, R = res op (s.drop r) := ⟨_, rfl⟩
    rw [← hR] at hT
    have e1 : IntKind.i64.wrap ((n : Int) - (a : Int)) = (r : Int) := by rw [IntWalk.i64_in _ (by omega)]; omega
    have hcut := Sl.from_ kty A n c r hrn (r : Int) rfl
    have hres := fun (W : World) (h : Rc 1 W W.heap.size (if c = r then A else A.map (·.add (r * 1))) (n - r) (c - r) (lvb (s.drop r))) => result_c op (if c = r then A else A.map (·.add (r * 1))) (n - r) (c - r) (s.drop r) W h (by omega)
    have hrc := fun (W : World) (hb : Below w.heap.size w W) => ((Hs.out.from_ hrn).below hb).more hb.size
    obtain ⟨A1, hA1⟩ : ∃ A1, A1 = (if c = r then A else A.map (·.add (r * 1))) := ⟨_, rfl⟩
    obtain ⟨n1, hn1⟩ : ∃ n1, n1 = n - r := ⟨_, rfl⟩
    obtain ⟨c9, hc9⟩ : ∃ c9, c9 = c - r := ⟨_, rfl⟩
    simp only [← hA1, ← hn1, ← hc9, lvb_drop] at hcut hrc
    simp only [← hA1, ← hn1, ← hc9, ← hR] at hres
    have Hres := Lib.hid (fun (W : World) (hb : Below w.heap.size w W) => hres W (hrc W hb))
    have HT3 := Lib.hid hT
    have hl3 : (s.take r).length = r := by rw [List.length_take, Hsl.out]; exact Nat.min_eq_left hrn
    have HL3 := Lib.hid hl3
    clear hT HT2 hna hnz hr hra hR hres hrc hA1 hn1 hc9 hl3
    obtain ⟨b, er⟩ := R
    have HT4 := Lib.hid (show T = if er ≠ 0 then (s, er) else (s.take r ++ [b], 0) from HT3.out)
    clear HT3
    by_cases h0 : er = 0
    · subst h0
      obtain ⟨S, hS⟩ : ∃ S, S = s.take r := ⟨_, rfl⟩
      have hS0 : s.take r = S := hS.symm
      obtain rfl : T = (S ++ [b], 0) := (HT4.out.trans (if_neg (by simp))).trans (by rw [hS0])
      have HSL := Lib.hid (show S.length = r by rw [hS]; exact HL3.out)
      have hcut2 := Sl.upto kty A n c r hrn Hs.out.2.1 (r : Int) rfl
      clear hS HL3 HT4
      go_enter Tryz.func29, Tryz.ntmps29
      go_wp2_with (rw [← W0.out])
      refine (Hmay.out w0).mono ?_
      rintro e w1 ⟨rfl, b1⟩
      have x1 := X0.out.below b1 hlt
      have B1 := Lib.hid (B0.out.trans (b1.mono B0.out.size))
      clear b1 c0 c1 c2
      obtain ⟨c0, c1, c2, -, -, -, -⟩ := x1
      go_wp2_with fail
      refine (Har2.out w1).mono ?_
      rintro e w2 ⟨rfl, rfl⟩
      go_wp2_with fail
      go_quiet (first | (go_at_call 49; refine (Hres.out _ (below_drewN B1.out _)).mono ?_; rintro e w9 ⟨he, k, rfl⟩; exact ⟨he, _, World.drewN_drewN _ _ _⟩))
      obtain ⟨w2, hw2⟩ : ∃ w2, w2 = w1.drewN nq := ⟨_, rfl⟩
      have B2 := Lib.hid (show Below w.heap.size w w2 by rw [hw2]; exact below_drewN B1.out _)
      rw [← hw2]
      clear hw2 c0 c1 c2
      obtain ⟨w3, hw3⟩ : ∃ w3, w3 = (w2).alloc (.cells #[] 4) := ⟨_, rfl⟩
      have bw := B2.out
      have b3 : Below (w2).heap.size (w2) w3 := by rw [hw3]; exact (Below.refl _ _).alloc (Nat.le_refl _) _
      have hw : w.heap.size ≤ (w2).heap.size := bw.size
      have o3 : Oc 1 w3 4 w.heap.size (some ⟨(w2).heap.size, 0, none⟩) 0 0 [] := by rw [hw3]; exact (Oc.made0 1 _ _).mono hw
      have B3 := Lib.hid (bw.trans (b3.mono hw))
      have r3 : Rc 1 w3 w3.heap.size A r c (lvb S) := by
        have q := (((Hs.out.below B3.out).more B3.out.size).upto hrn)
        rw [lvb_take, hS0] at q
        exact q
      have W3 := Lib.hid hw3; have O3 := Lib.hid o3; have R3 := Lib.hid r3
      have h3s : w.heap.size ≤ w3.heap.size := B3.out.size
      clear hw3 b3 o3 r3 bw hw
      go_wp2_with (at_builtin; rw [← W3.out]; go_must (refine Sl.wpAppAt kty rfl (.tmp 68) (.tmp 74) rfl (n := 0) (m := r) (N := r) (ws := lvb S) rfl rfl O3.out R3.out (lvb_one _) (Nat.zero_add _) rfl ?hs4 ?hs5 h3s ?_))
      case hs4 => omega
      case hs5 => omega
      intro A4 c4 w4 ho4 hg4
      have B4 := Lib.hid (B3.out.trans ((hg4.belowC O3.out h3s).trans (Below.refl _ _)))
      obtain ⟨w5, hw5⟩ : ∃ w5, w5 = w4.alloc (.cells #[.bool b] 4) := ⟨_, rfl⟩
      have b5 : Below w4.heap.size w4 w5 := by rw [hw5]; exact (Below.refl _ _).alloc (Nat.le_refl _) _
      have o5 : Oc 1 w5 4 w.heap.size A4 r c4 (lvb S) := ho4.keep b5
      have r5 : Rc 1 w5 (w4.heap.size + 1) (some ⟨w4.heap.size, 0, none⟩) 1 1 (lvb [b]) := by rw [hw5]; exact Rc.lit w4 _ #[.bool b] 1 rfl (by simp [maxLen])
      have B5 := Lib.hid (B4.out.trans (b5.mono B4.out.size)); have W5 := Lib.hid hw5; have O5 := Lib.hid o5; have R5 := Lib.hid r5
      have h5s : w.heap.size ≤ w5.heap.size := B5.out.size
      clear hw5 b5 o5 r5 ho4 hg4
      go_wp2_with (at_builtin; rw [← W5.out]; go_must (refine Sl.wpAppAt kty rfl (.tmp 76) (.tmp 78) rfl (n := r) (m := 1) (N := r + 1) (ws := lvb (S ++ [b])) rfl rfl O5.out R5.out (lvb_one _) rfl (lvb_app _ _).symm ?hs4 ?hs5 h5s ?_))
      case hs4 => omega
      case hs5 => omega
      intro A6 c6 w6 ho6 hg6
      have B6 := Lib.hid (B5.out.trans ((hg6.belowC O5.out h5s).trans (Below.refl _ _)))
      have HF := Lib.hid (RetSt.ok B6.out (show r + 1 = (S ++ [b]).length by rw [List.length_append, List.length_singleton]; exact congrArg (· + 1) HSL.out.symm) ho6)
      clear ho6 hg6
      have dq : decide ((30 : Int) < (r : Int) + 1) = false := decide_eq_false (by omega)
      go_wp2
      go_ret2
      exact HF.out
    · obtain rfl : T = (s, er) := HT4.out.trans (if_pos h0)
      have e3 : ((er : Int) != 0) = true := by simp; omega
      have e4 : ((er : Int) == 0) = false := by simp; omega
      have H0 := Lib.hid h0
      clear h0 HT4
      go_enter Tryz.func29, Tryz.ntmps29
      go_wp2_with (rw [← W0.out])
      refine (Hmay.out w0).mono ?_
      rintro e w1 ⟨rfl, b1⟩
      have x1 := X0.out.below b1 hlt
      have B1 := Lib.hid (B0.out.trans (b1.mono B0.out.size))
      clear b1 c0 c1 c2
      obtain ⟨c0, c1, c2, -, -, -, -⟩ := x1
      go_wp2_with fail
      refine (Har2.out w1).mono ?_
      rintro e w2 ⟨rfl, rfl⟩
      go_wp2_with fail
      go_quiet (first | (go_at_call 49; refine (Hres.out _ (below_drewN B1.out _)).mono ?_; rintro e w9 ⟨he, k, rfl⟩; exact ⟨he, _, World.drewN_drewN _ _ _⟩))
      obtain ⟨w2, hw2⟩ : ∃ w2, w2 = w1.drewN nq := ⟨_, rfl⟩
      have B2 := Lib.hid (show Below w.heap.size w w2 by rw [hw2]; exact below_drewN B1.out _)
      rw [← hw2]
      clear hw2 c0 c1 c2
      go_wp2
      go_ret2
      exact RetSt.err s B2.out H0.out
end Go.Proofs.YtoalncojijmelaaGreatDoor

/-
  The document's Stack, Same, Check.
-/
namespace Go.Proofs.YtoalncojijmelaaGreatDoor
open Go.RowKit Vl Cd Ck

def RsRel2 (w : World) (n : Nat) (f : List Bool) (p : List Ins) (G : List Bool × Nat × Nat) (v i : Value) (wr : World) : Prop :=
  ∃ (k : Nat) (s : List Bool) (z : Nat) (A : Option Addr) (c : Nat), k ≤ n ∧ i = .int .i64 (k : Int) ∧ v = .slice A z c ∧ Hid (z = s.length) ∧ Hid (rn f s k (p.drop k) = G) ∧ Hid (Oc 1 wr 4 w.heap.size A z c (lvb s)) ∧ Hid (Below w.heap.size w wr) ∧ Hid (z ≤ 30)
section
variable (A : Option Addr) (n c : Nat) (p : List Ins) (F : Option Addr) (m c' : Nat) (f : List Bool) (w : World)
set_option maxRecDepth 100000 in
set_option maxHeartbeats 2000000 in
theorem rstack_c (hp : Rc 3 w w.heap.size A n c (ics p)) (hn : n ≤ 1000000) (hr : Rc 1 w w.heap.size F m c' (lvb f)) (hm : m ≤ 1000000) :
    Calls Tryz.prog 19 #[.slice A n c, .slice F m c'] w (RetStk w (sk p f)) := by
  have hfl := lvb_len1 hr
  have hpl := ics_num hp
  obtain ⟨G, hG⟩ : ∃ G, G = sk p f := ⟨_, rfl⟩
  rw [← hG]
  unfold sk at hG
  by_cases h2 : m = 0 ∨ m = 2
  · by_cases h3 : n ≤ 200
    · have hbad : bad p f = 0 := by unfold bad; rw [if_neg (by omega), if_neg (by omega)]
      rw [if_pos hbad] at hG
      have HG := Lib.hid (show rn f [] 0 (p.drop 0) = G from hG.symm)
      have d0 : decide ((200 : Int) < (n : Int)) = false := decide_eq_false (by omega)
      obtain ⟨w1, hw1⟩ : ∃ w1, w1 = w.alloc (.cells #[] 4) := ⟨_, rfl⟩
      have b1 : Below w.heap.size w w1 := by rw [hw1]; exact (Below.refl _ _).alloc (Nat.le_refl _) _
      have o1 : Oc 1 w1 4 w.heap.size (some ⟨w.heap.size, 0, none⟩) 0 0 [] := by rw [hw1]; exact Oc.made0 1 _ _
      have HP := Lib.hid hp; have HR := Lib.hid hr; have Hpl := Lib.hid hpl; have W1 := Lib.hid hw1; have B1 := Lib.hid b1; have O1 := Lib.hid o1
      clear hp hr hpl hfl hbad hG hn hm hw1 b1 o1
      rcases h2 with rfl | rfl
      all_goals
        go_enter Tryz.func19, Tryz.ntmps19
        go_wp2_with (rw [← W1.out])
        go_loopw [7, 8] (fun v i wr => RsRel2 w n f p G v i wr) (fun _ i _ => n - (intOf i).toNat)
        case atStart => exact ⟨0, [], 0, _, 0, Nat.zero_le _, rfl, rfl, Lib.hid rfl, HG, O1, B1, Lib.hid (by omega)⟩
        case round =>
          obtain ⟨k, s, z, A1, c1, hk, rfl, rfl, Hz, Hg, Ho, Hb, Hle⟩ := hrel
          by_cases hlt : k < n
          · obtain ⟨b, o, x, rfl, hb, a0, a1, a2, hx⟩ := ics_at (HP.out.below Hb.out) hlt
            have hg := Hg.out
            rw [drop_cons' Hpl.out hlt hx] at hg
            have hst := rstep_c A1 z c1 s x F _ c' f wr Ho.out.rc Hle.out ((HR.out.below Hb.out).more Hb.out.size) (by simp)
            have hsl := stp_len (f := f) (s := s) (x := x) (by rw [← Hz.out]; exact Hle.out)
            have hgo := fun h => (rn_go (f := f) (s := s) (x := x) k (p.drop (k + 1)) h).symm.trans hg
            have hgs := fun h => (rn_stop (f := f) (s := s) (x := x) k (p.drop (k + 1)) h).symm.trans hg
            obtain ⟨op, nn, t⟩ := x
            obtain ⟨X, hX, -, -, -⟩ := hide_st t
            dsimp only at a0 a1 a2
            simp only [iv, st, ← hX] at hst
            unfold st at a2
            rw [← hX] at a2
            generalize stp f s ⟨op, nn, t⟩ = T at *
            obtain ⟨u, er⟩ := T
            have HT := Lib.hid hst; have Hgo := Lib.hid hgo; have Hgs := Lib.hid hgs; have Hsl := Lib.hid hsl
            clear hst hgo hgs hsl hg hx hX
            by_cases h0 : er = 0
            · subst h0
              have h1 := Lib.hid (Hgo.out rfl)
              go_wp2_with fail
              refine HT.out.mono ?_
              rintro e w8 ⟨b8, h⟩
              rw [if_pos rfl] at h
              obtain ⟨A8, c8, rfl, ho8⟩ := h
              have B8 := Lib.hid (Hb.out.trans (b8.mono Hb.out.size)); have O8 := Lib.hid (ho8.mono Hb.out.size)
              obtain ⟨z8, hz8⟩ : ∃ z8, z8 = u.length := ⟨_, rfl⟩
              have hsl8 := Hsl.out
              simp only [← hz8] at O8 hsl8 ⊢
              have Z8 := Lib.hid hz8; have L8 := Lib.hid hsl8
              clear b8 ho8 a0 a1 a2 hz8 hsl8
              go_wp2
              go_roundw
              case rel => exact ⟨k + 1, u, z8, A8, c8, hlt, by go_num, rfl, Z8, h1, O8, B8, L8⟩
              case measure => simp [intOf]; omega
            · have e3 : ((er : Int) != 0) = true := by simp; omega
              have e4 : ((er : Int) == 0) = false := by simp; omega
              have h1 := Hgs.out h0
              have H0 := Lib.hid h0
              have H1 := Lib.hid h1
              clear h0 h1
              go_wp2_with fail
              refine HT.out.mono ?_
              rintro e w8 ⟨b8, h⟩
              rw [if_neg H0.out] at h
              subst h
              have HF := Lib.hid (show RetStk w G (.returned (.tuple #[.slice A1 z c1, .int .i64 (k : Int), .int .i64 (er : Int)])) w8 from by
                rw [← H1.out]
                refine ⟨A1, c1, ?_, ?_, Hb.out.trans (b8.mono Hb.out.size)⟩
                · show _ = Ending.returned (.tuple #[.slice A1 s.length c1, _, _]); rw [Hz.out]
                · have q := Ho.out.keep b8; rw [Hz.out] at q; exact q)
              clear b8 a0 a1 a2
              go_wp2
              go_ret3
              exact HF.out
          · obtain rfl : k = n := by omega
            have hg := Hg.out
            rw [List.drop_of_length_le (by rw [Hpl.out]; exact Nat.le_refl _), rn_nil] at hg
            have HF := Lib.hid (show RetStk w G (.returned (.tuple #[.slice A1 z c1, .int .i64 (k : Int), .int .i64 0])) wr from by
              rw [← hg]
              refine ⟨A1, c1, ?_, ?_, Hb.out⟩
              · show _ = Ending.returned (.tuple #[.slice A1 s.length c1, _, _]); rw [Hz.out]; rfl
              · have q := Ho.out; rw [Hz.out] at q; exact q)
            clear hg
            go_wp2
            go_ret3
            exact HF.out
    · have d0 : decide ((200 : Int) < (n : Int)) = true := decide_eq_true (by omega)
      have hbad : bad p f = 5 := by unfold bad; rw [if_neg (by omega), if_pos (by omega)]
      rw [if_neg (by omega), hbad] at hG
      have HF := Lib.hid (show RetStk w G (.returned (.tuple #[.slice none 0 0, .int .i64 0, .int .i64 5])) w from by rw [hG]; exact ⟨none, 0, rfl, Oc.nil 1 w _ _, Below.refl _ _⟩)
      clear h3 hbad hG hp hr hfl hpl
      rcases h2 with rfl | rfl
      all_goals
        go_enter Tryz.func19, Tryz.ntmps19
        go_wp2
        go_ret3
        exact HF.out
  · have d0 : ((m : Int) != 0) = true := by simp; omega
    have d1 : ((m : Int) != 2) = true := by simp; omega
    have d0' : ((m : Int) == 0) = false := by simp; omega
    have d1' : ((m : Int) == 2) = false := by simp; omega
    have hbad : bad p f = 1 := by unfold bad; rw [if_pos (by omega)]
    rw [if_neg (by omega), hbad] at hG
    have HF := Lib.hid (show RetStk w G (.returned (.tuple #[.slice none 0 0, .int .i64 0, .int .i64 1])) w from by rw [hG]; exact ⟨none, 0, rfl, Oc.nil 1 w _ _, Below.refl _ _⟩)
    clear h2 hbad hG hp hr hfl hpl
    go_enter Tryz.func19, Tryz.ntmps19
    go_wp2
    go_ret3
    exact HF.out
end
set_option maxRecDepth 100000 in
set_option maxHeartbeats 1000000 in
theorem rsame_c (A D : Option Addr) (n c m d B : Nat) (p q : List Bool) (w : World) (hp : Rc 1 w B A n c (lvb p)) (hq : Rc 1 w B D m d (lvb q)) (hn : n ≤ 1000000) :
    Calls Tryz.prog 37 #[.slice A n c, .slice D m d] w fun e w' => e = .returned (.bool (decide (p = q))) ∧ ∃ k, w' = w.drewN k := by
  have Hl := Lib.hid (And.intro (lvb_len1 hp) (lvb_len1 hq))
  have Hp := Lib.hid hp; have Hq := Lib.hid hq
  clear hp hq
  by_cases hnm : n = m
  · subst hnm
    go_enter Tryz.func37, Tryz.ntmps37
    go_wp2
    go_loopw [5] (fun t wr => EqRel w n p q t wr) (fun t _ => n - (intOf t).toNat)
    case atStart => exact ⟨0, 0, by omega, rfl, fun j h => by omega, rfl⟩
    case round =>
      obtain ⟨k, qq, hk, rfl, hno, rfl⟩ := hrel
      by_cases hlt : k < n
      · obtain ⟨b, o, x, rfl, hb, a0, hx⟩ := lvb_at Hp.out hlt
        obtain ⟨b', o', y, rfl, hb', e0, hy⟩ := lvb_at Hq.out hlt
        have HNo := Lib.hid hno; have Hx := Lib.hid hx; have Hy := Lib.hid hy
        clear hno hx hy
        by_cases he : x = y
        · subst he
          cases x
          all_goals
            go_wp2
            go_quiet (fail)
            go_wp2
            go_roundw
            case rel => exact ⟨k + 1, qq + nq, hlt, by go_num, fun j hj => by
              by_cases hjk : j = k
              · rw [hjk]; exact Hx.out.trans Hy.out.symm
              · exact HNo.out j (by omega), rfl⟩
            case measure => simp [intOf]; omega
        · have hne : p ≠ q := fun e => he (by have h1 := Hx.out; rw [e, Hy.out] at h1; exact (Option.some.inj h1).symm)
          have HE := Lib.hid hne
          clear hne
          cases x <;> cases y <;> first | (exact absurd rfl he) | skip
          all_goals
            clear he
            go_wp2
            go_quiet (fail)
            go_wp2
            go_ret
            refine ⟨?_, qq + nq, by first | rfl | simp | exact World.drewN_drewN _ _ _⟩
            show Ending.returned (.bool false) = Ending.returned (.bool (decide (p = q)))
            rw [decide_eq_false HE.out]
      · obtain rfl : k = n := by omega
        have HNo := Lib.hid hno
        clear hno
        go_wp2
        go_ret
        refine ⟨?_, qq, rfl⟩
        have : p = q := List.ext_getElem? fun j => by
          by_cases hj : j < k
          · exact HNo.out j hj
          · rw [List.getElem?_eq_none (by have := Hl.out; omega), List.getElem?_eq_none (by have := Hl.out; omega)]
        show Ending.returned (.bool true) = Ending.returned (.bool (decide (p = q)))
        rw [decide_eq_true this]
  · have d1 : decide ((n : Int) = (m : Int)) = false := decide_eq_false (by omega)
    have d2 : ((n : Int) == (m : Int)) = false := beq_eq_false_iff_ne.2 (by omega)
    have d3 : ((n : Int) != (m : Int)) = true := by rw [bne, d2]; rfl
    go_enter Tryz.func37, Tryz.ntmps37
    go_wp2
    go_ret
    refine ⟨?_, 0, rfl⟩
    show Ending.returned (.bool false) = Ending.returned (.bool (decide (p = q)))
    rw [decide_eq_false]
    rintro rfl
    have := Hl.out
    omega

section
variable (A : Option Addr) (n c : Nat) (p : List Ins) (F : Option Addr) (m c' : Nat) (f : List Bool) (E : Option Addr) (l c'' : Nat) (want : List Bool) (w : World)
set_option maxRecDepth 100000 in
set_option maxHeartbeats 1000000 in
theorem rcheck_c (hp : Rc 3 w w.heap.size A n c (ics p)) (hn : n ≤ 1000000) (hr : Rc 1 w w.heap.size F m c' (lvb f)) (hm : m ≤ 1000000) (hw : Rc 1 w w.heap.size E l c'' (lvb want)) :
    Calls Tryz.prog 25 #[.slice A n c, .slice F m c', .slice E l c''] w (RetV w (.int .i64 (ckd p f want : Int))) := by
  have hs := rstack_c A n c p F m c' f w hp hn hr hm
  have hs30 := (sk_len p f).1
  obtain ⟨K, hK⟩ : ∃ K, K = ckd p f want := ⟨_, rfl⟩
  rw [← hK]
  unfold ckd at hK
  obtain ⟨G, hG⟩ : ∃ G, G = sk p f := ⟨_, rfl⟩
  rw [← hG] at hs hK hs30
  obtain ⟨s, i, er⟩ := G
  dsimp only at hK hs30
  have Hs := Lib.hid hs; have HW := Lib.hid hw; have HK := Lib.hid hK; have H30 := Lib.hid hs30
  clear hs hw hK hG hp hn hr hm hs30
  go_enter Tryz.func25, Tryz.ntmps25
  go_wp2_with fail
  refine Hs.out.mono ?_
  rintro e w1 ⟨A1, c1, rfl, ho, b1⟩
  have heq := fun W (hb : Below w1.heap.size w1 W) => rsame_c A1 E s.length c1 l c'' W.heap.size s want W ((ho.rc.below hb).more hb.size) (((HW.out.below b1).more b1.size).below hb |>.more hb.size) (by have := H30.out; omega)
  have B1 := Lib.hid b1; have Heq := Lib.hid (heq w1 (Below.refl _ _))
  clear ho b1 heq
  by_cases h0 : er = 0
  · subst h0
    by_cases h1 : s = want
    · obtain rfl : K = 0 := HK.out.trans ((if_neg (by simp)).trans (if_pos h1))
      have heq := Heq.out
      rw [decide_eq_true h1] at heq
      have Heq2 := Lib.hid heq
      clear h1 heq Heq
      go_wp2_with fail
      refine Heq2.out.mono ?_
      rintro e w2 ⟨rfl, k, rfl⟩
      go_wp2
      go_ret
      exact ⟨rfl, below_drewN B1.out _⟩
    · obtain rfl : K = 11 := HK.out.trans ((if_neg (by simp)).trans (if_neg h1))
      have heq := Heq.out
      rw [decide_eq_false h1] at heq
      have Heq2 := Lib.hid heq
      clear h1 heq Heq
      go_wp2_with fail
      refine Heq2.out.mono ?_
      rintro e w2 ⟨rfl, k, rfl⟩
      go_wp2
      go_ret
      exact ⟨rfl, below_drewN B1.out _⟩
  · obtain rfl : K = er := HK.out.trans (if_pos h0)
    have e3 : ((K : Int) != 0) = true := by simp; omega
    have e4 : ((K : Int) == 0) = false := by simp; omega
    clear h0
    go_wp2
    go_ret
    exact ⟨rfl, B1.out⟩
end
end Go.Proofs.YtoalncojijmelaaGreatDoor
