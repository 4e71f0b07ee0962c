/-
  Joined: U6 U7 D2 D3 D4.
-/
import Derived.Test.YtpdapgbamlcjjaaGreatDoorJ15
import Derived.Test.YtpdapgbamlcjjaaGreatDoorJ5
/-
  strings.Cut at one byte; code.Parse.
-/
namespace Go.Proofs.YtpdapgbamlcjjaaGreatDoor
open Go.RowKit Vl Cd

theorem cut_one (d : UInt8) : ∀ l : List UInt8, Lib.cut l [d] = (cutA d l, cutB d l, decide (d ∈ l))
  | [] => by simp [Lib.cut, Lib.index, cutA, cutB]
  | b :: l => by
    have ih := cut_one d l
    have hge := Lib.index_ge l [d]
    unfold Lib.cut at ih ⊢
    have hi : Lib.index (b :: l) [d] = if d = b then 0 else if Lib.index l [d] = -1 then -1 else Lib.index l [d] + 1 := by
      simp [Lib.index, List.isPrefixOf]
    rw [hi]
    by_cases hb : b = d
    · subst hb
      rw [if_pos rfl, if_pos (by omega)]
      simp [cutA, cutB]
    · have hb' : ¬ d = b := fun e => hb e.symm
      rw [if_neg hb']
      by_cases hn : Lib.index l [d] = -1
      · rw [hn] at ih
        rw [if_neg (by omega)] at ih
        rw [if_pos hn, if_neg (by omega)]
        injection ih with e1 e2
        injection e2 with e2 e3
        simp [cutA, cutB, hb, hb', ← e1, ← e2]
        simpa using e3
      · rw [if_pos (by omega)] at ih
        rw [if_neg hn, if_pos (by omega)]
        injection ih with e1 e2
        injection e2 with e2 e3
        have ht : (Lib.index l [d] + 1).toNat = (Lib.index l [d]).toNat + 1 := by omega
        rw [ht]
        simp [cutA, cutB, hb, hb', ← e1]
        refine ⟨?_, by simpa using e3⟩
        rw [← e2]
        simp
theorem cutA_len (d : UInt8) : ∀ l : List UInt8, (cutA d l).length ≤ l.length
  | [] => Nat.le_refl _
  | c :: l => by have := cutA_len d l; rw [cutA]; split <;> simp <;> omega
theorem cutB_len (d : UInt8) : ∀ l : List UInt8, (cutB d l).length ≤ l.length
  | [] => Nat.le_refl _
  | c :: l => by have := cutB_len d l; rw [cutB]; split <;> simp <;> omega
theorem cut_c (s : List UInt8) (d : UInt8) (hs : s.length ≤ 1000000) (w : World) (hg : Gl w) :
    Calls Tryz.prog 28 #[st s, .string ⟨#[d]⟩] w fun e w' => e = .returned (.tuple #[st (cutA d s), st (cutB d s), .bool (decide (d ∈ s))]) ∧ ∃ k, w' = w.drewN k := by
  obtain ⟨m, hm⟩ := hg.mx
  refine (Tryz.strings_Cut ⟨s.toArray⟩ ⟨#[d]⟩ m w (by show s.length < _; omega) hm).mono ?_
  rintro e w' ⟨rfl, k, rfl⟩
  refine ⟨?_, k, rfl⟩
  rw [show (ByteArray.mk s.toArray).data.toList = s by simp, show (ByteArray.mk #[d]).data.toList = [d] from rfl, cut_one]

/-- What 'Parse' hands over. -/
noncomputable def prV (s : List UInt8) : Value := match pr s with | some x => .tuple #[iv x, .int .i64 0] | none => .tuple #[iv i0, .int .i64 3]
theorem prV_some {s : List UInt8} {x : Ins} (h : pr s = some x) : prV s = .tuple #[iv x, .int .i64 0] := by unfold prV; rw [h]
theorem prV_none {s : List UInt8} (h : pr s = none) : prV s = .tuple #[iv i0, .int .i64 3] := by unfold prV; rw [h]
theorem parse_key {s : List UInt8} {r : Int} {y : Ins} (hr : ∀ op : Int, 0 ≤ op → op ≤ 23 → nm op = cutA 32 s → r = op) (hy : With r (cutB 32 s) y) :
    (may y = true ∧ ln y = s ∧ pr s = some y) ∨ (pr s = none ∧ (may y = true → ln y ≠ s)) := by
  cases h : pr s with
  | none => exact .inr ⟨rfl, fun hm => pr_not h y ⟨hm, hy.2.1⟩⟩
  | some x =>
    obtain ⟨hx, e⟩ := pr_of h
    obtain ⟨e1, e2⟩ := ln_cut hx.1
    rw [e] at e1 e2
    have hop := may_op hx.1
    have := hr x.op hop.1 hop.2 e1.symm
    have hyx : y = x := hy.2.2 x hx this.symm (fun hh => by rw [this] at hh; rw [e2, if_pos hh])
    exact .inl ⟨by rw [hyx]; exact hx.1, by rw [hyx]; exact e, by rw [hyx]⟩

set_option maxRecDepth 100000 in
set_option maxHeartbeats 4000000 in
theorem parse_c (s : List UInt8) (hs : s.length ≤ 1000000) (w : World) (hg : Gl w) : Calls Tryz.prog 11 #[st s] w (RetV w (prV s)) := by
  have hcut := fun W hG => cut_c s 32 hs W hG
  have hnum := fun W => numberOf_c (cutA 32 s) W
  have hwith := fun r W hG => withOperand_c r (cutB 32 s) (Nat.le_trans (cutB_len 32 s) hs) W hG
  have hkey := fun r y => @parse_key s r y
  obtain ⟨A, hA⟩ : ∃ A, A = cutA 32 s := ⟨_, rfl⟩
  obtain ⟨B, hB⟩ : ∃ B, B = cutB 32 s := ⟨_, rfl⟩
  obtain ⟨w1, hw1⟩ : ∃ w1, w1 = w.alloc (.cells #[.int .i64 0, .int .i64 0, .string ⟨#[]⟩] 23) := ⟨_, rfl⟩
  have b1 : Below w.heap.size w w1 := by rw [hw1]; exact (Below.refl _ _).alloc (Nat.le_refl _) _
  have r1 : Bx w1 w.heap.size (.int .i64 0) (.int .i64 0) (.string ⟨#[]⟩) := by rw [hw1]; exact Bx.made _ _ _ _ _
  rw [← hA, ← hB] at hcut
  rw [← hA] at hnum
  rw [← hB] at hwith
  rw [← hA, ← hB] at hkey
  obtain ⟨Q, hQ⟩ : ∃ Q, Q = prV s := ⟨_, rfl⟩
  rw [← hQ]
  have hq1 : ∀ y, pr s = some y → Ending.returned (.tuple #[iv y, .int .i64 0]) = Ending.returned Q := fun y h => by rw [hQ, prV_some h]
  have hq0 : pr s = none → Ending.returned (.tuple #[iv i0, .int .i64 3]) = Ending.returned Q := fun h => by rw [hQ, prV_none h]
  have R1 := Lib.hid r1; have B1 := Lib.hid b1; have G0 := Lib.hid hg; have W1 := Lib.hid hw1; have G1 := Lib.hid (hg.below' b1)
  have Hcut := Lib.hid hcut; have Hnum := Lib.hid hnum; have Hwith := Lib.hid hwith; have Hkey := Lib.hid hkey; have Hq1 := Lib.hid hq1; have Hq0 := Lib.hid hq0
  clear hs hg hcut hnum hwith hkey hA hB hw1 b1 r1 hq0 hq1 hQ
  go_enter Tryz.func11, Tryz.ntmps11
  go_wp2_with (rw [← W1.out])
  refine (Hcut.out w1 G1.out).mono ?_
  rintro e w2 ⟨rfl, k, rfl⟩
  have B2 := Lib.hid (below_drewN B1.out k)
  have R2 := Lib.hid (R1.out.below (below_drewN (Below.refl w1.heap.size _) k) R1.out.lt)
  go_wp2_with fail
  refine (Hnum.out _).mono ?_
  rintro e w3 ⟨r, rfl, h1, h2, hr, b3⟩
  have R3 := Lib.hid (R2.out.below b3 R2.out.lt)
  have B3 := Lib.hid (B2.out.trans (b3.mono B2.out.size))
  have HR := Lib.hid (And.intro h1 (And.intro h2 hr))
  clear h1 h2 hr b3
  go_wp2_with fail
  refine (Hwith.out r w3 (G0.out.below' B3.out)).mono ?_
  rintro e w4 ⟨y, rfl, hy, b4⟩
  have HK := Lib.hid (Hkey.out r y HR.out.2.2 hy)
  have hI : I y.op := by have := HR.out; rw [hy.1]; unfold I; omega
  have B4 := Lib.hid (B3.out.trans (b4.mono B3.out.size))
  have R4 := Lib.hid (R3.out.below b4 R3.out.lt)
  obtain ⟨w5, hw5⟩ : ∃ w5, w5 = w4.alloc (.cells #[.int .i64 y.op, .int .i64 y.n, .string ⟨y.s.toArray⟩] 23) := ⟨_, rfl⟩
  have b5 : Below w4.heap.size w4 w5 := by rw [hw5]; exact (Below.refl _ _).alloc (Nat.le_refl _) _
  have X5 := Lib.hid (show Bx w5 w4.heap.size (.int .i64 y.op) (.int .i64 y.n) (.string ⟨y.s.toArray⟩) by rw [hw5]; exact Bx.made _ _ _ _ _)
  have R5 := Lib.hid (R4.out.below b5 R4.out.lt)
  have B5 := Lib.hid (B4.out.trans (b5.mono B4.out.size))
  have Hli := Lib.hid (line_c y hI hy.2.1 w5 (G0.out.below' B5.out))
  have W5 := Lib.hid hw5
  clear hy hI b4 hw5 b5
  obtain ⟨c0, c1, c2, -, -, -, -⟩ := X5.out
  rcases HK.out with ⟨hm, hl, hp⟩ | ⟨hp, hnl⟩
  · have hli := Hli.out
    unfold lnV at hli
    rw [if_pos hm, hl] at hli
    have HL := Lib.hid hli
    have d1 : (s == s) = true := beq_iff_eq.2 rfl
    have HQ := Lib.hid (Hq1.out y hp)
    clear hli hm hl hp
    · go_wp2_with (rw [← W5.out])
      refine HL.out.mono ?_
      rintro e w6 ⟨rfl, b6⟩
      have R6 := Lib.hid (R5.out.below b6 R5.out.lt)
      have X6 := Lib.hid (X5.out.below b6 X5.out.lt)
      have B6 := Lib.hid (B5.out.trans (b6.mono B5.out.size))
      clear b6
      obtain ⟨c0, c1, c2, -, -, -, -⟩ := X6.out
      obtain ⟨f0, f1, f2, g0, g1, g2, -⟩ := R6.out
      go_wp2
      change bodyPost _ _ _ _ _ (put3 w6 w.heap.size _ _ _)
      have s0 := fun v0 v1 v2 => (put3_box R6.out v0 v1 v2).c0
      have s1 := fun v0 v1 v2 => (put3_box R6.out v0 v1 v2).c1
      have s2 := fun v0 v1 v2 => (put3_box R6.out v0 v1 v2).c2
      refine bodyPost_ret (v := .tuple #[iv y, .int .i64 0]) ?_ rfl ⟨HQ.out, B6.out.trans ((put3_below _ _ _ _ _).mono (by omega))⟩
      simp [results, Tryz.results11, go_sem, s0, s1, s2]
  · have HQ := Lib.hid (Hq0.out hp)
    cases hm : may y
    · have hli := Hli.out
      unfold lnV at hli
      rw [hm, if_neg (by simp)] at hli
      have HL := Lib.hid hli
      clear hli hm hp hnl
      go_wp2_with (rw [← W5.out])
      refine HL.out.mono ?_
      rintro e w6 ⟨rfl, b6⟩
      have R6 := Lib.hid (R5.out.below b6 R5.out.lt)
      have X6 := Lib.hid (X5.out.below b6 X5.out.lt)
      have B6 := Lib.hid (B5.out.trans (b6.mono B5.out.size))
      clear b6
      obtain ⟨c0, c1, c2, -, -, -, -⟩ := X6.out
      obtain ⟨f0, f1, f2, g0, g1, g2, -⟩ := R6.out
      go_wp2
      change bodyPost _ _ _ _ _ (put3 w6 w.heap.size _ _ _)
      have s0 := fun v0 v1 v2 => (put3_box R6.out v0 v1 v2).c0
      have s1 := fun v0 v1 v2 => (put3_box R6.out v0 v1 v2).c1
      have s2 := fun v0 v1 v2 => (put3_box R6.out v0 v1 v2).c2
      refine bodyPost_ret (v := .tuple #[iv i0, .int .i64 3]) ?_ rfl ⟨HQ.out, B6.out.trans ((put3_below _ _ _ _ _).mono (by omega))⟩
      simp [results, Tryz.results11, go_sem, s0, s1, s2, i0]
    · have hli := Hli.out
      unfold lnV at hli
      rw [hm, if_pos rfl] at hli
      have d1 : (ln y == s) = false := beq_eq_false_iff_ne.2 (hnl hm)
      generalize ln y = L at hli d1
      have HL := Lib.hid hli
      clear hli hm hp hnl
      go_wp2_with (rw [← W5.out])
      refine HL.out.mono ?_
      rintro e w6 ⟨rfl, b6⟩
      have R6 := Lib.hid (R5.out.below b6 R5.out.lt)
      have X6 := Lib.hid (X5.out.below b6 X5.out.lt)
      have B6 := Lib.hid (B5.out.trans (b6.mono B5.out.size))
      clear b6
      obtain ⟨c0, c1, c2, -, -, -, -⟩ := X6.out
      obtain ⟨f0, f1, f2, g0, g1, g2, -⟩ := R6.out
      go_wp2
      change bodyPost _ _ _ _ _ (put3 w6 w.heap.size _ _ _)
      have s0 := fun v0 v1 v2 => (put3_box R6.out v0 v1 v2).c0
      have s1 := fun v0 v1 v2 => (put3_box R6.out v0 v1 v2).c1
      have s2 := fun v0 v1 v2 => (put3_box R6.out v0 v1 v2).c2
      refine bodyPost_ret (v := .tuple #[iv i0, .int .i64 3]) ?_ rfl ⟨HQ.out, B6.out.trans ((put3_below _ _ _ _ _).mono (by omega))⟩
      simp [results, Tryz.results11, go_sem, s0, s1, s2, i0]
end Go.Proofs.YtpdapgbamlcjjaaGreatDoor

/-
  Programs in memory; slices.Equal of programs, code.Same.
-/
namespace Go.Proofs.YtpdapgbamlcjjaaGreatDoor
open Go.RowKit Vl Cd

/-- The cells of a program. -/
def ics (l : List Ins) : List Value := l.flatMap fun v => [.int .i64 v.op, .int .i64 v.n, st v.s]
theorem ics_len (l : List Ins) : (ics l).length = l.length * 3 := by
  induction l with
  | nil => rfl
  | cons v l ih => unfold ics at ih ⊢; rw [List.flatMap_cons, List.length_append, ih]; simp; omega
theorem ics_app (l r : List Ins) : ics (l ++ r) = ics l ++ ics r := by simp [ics]
theorem ics_one (l : List Ins) : ∀ v ∈ ics l, v.oneCell' = true := by
  intro v hv
  obtain ⟨x, -, h⟩ := List.mem_flatMap.1 hv
  simp at h
  rcases h with rfl | rfl | rfl <;> rfl
theorem ics_get : ∀ (l : List Ins) (k : Nat) (v : Ins), l[k]? = some v → (ics l)[k * 3]? = some (.int .i64 v.op) ∧ (ics l)[k * 3 + 1]? = some (.int .i64 v.n) ∧ (ics l)[k * 3 + 2]? = some (st v.s)
  | [], k, v, h => by simp at h
  | x :: l, 0, v, h => by
    simp at h; subst h
    exact ⟨rfl, rfl, rfl⟩
  | x :: l, k + 1, v, h => by
    have ih := ics_get l k v (by simpa using h)
    have e : ics (x :: l) = [.int .i64 x.op, .int .i64 x.n, st x.s] ++ ics l := rfl
    rw [e, show (k + 1) * 3 = k * 3 + 3 by omega, show k * 3 + 3 + 1 = (k * 3 + 1) + 3 by omega, show k * 3 + 3 + 2 = (k * 3 + 2) + 3 by omega]
    rw [List.getElem?_append_right (by simp), List.getElem?_append_right (by simp), List.getElem?_append_right (by simp)]
    simpa using ih
theorem ics_num {w : World} {B n c : Nat} {A : Option Addr} {l : List Ins} (h : Rc 3 w B A n c (ics l)) : l.length = n := by have := h.1; rw [ics_len] at this; omega
theorem ics_at {w : World} {B n c k : Nat} {A : Option Addr} {l : List Ins} (h : Rc 3 w B A n c (ics l)) (hk : k < n) :
    ∃ b o v, A = some ⟨b, o, none⟩ ∧ b < B ∧ w.cell? ⟨b, o + k * 3, none⟩ = some (.int .i64 v.op) ∧ w.cell? ⟨b, o + k * 3 + 1, none⟩ = some (.int .i64 v.n) ∧ w.cell? ⟨b, o + k * 3 + 2, none⟩ = some (st v.s) ∧ l[k]? = some v := by
  have hl : l.length = n := ics_num h
  obtain ⟨b, o, e, hb, hc⟩ := h.2.2.2 (by omega)
  have hkl : k < l.length := by omega
  have hg := List.getElem?_eq_getElem hkl
  obtain ⟨g1, g2, g3⟩ := ics_get l k _ hg
  exact ⟨b, o, l[k], e, hb, hc _ _ g1, by rw [Nat.add_assoc]; exact hc _ _ g2, by rw [Nat.add_assoc]; exact hc _ _ g3, hg⟩
theorem ity : Sl Tryz.prog 33 23 (.agg #[.int .i64 0, .int .i64 0, .string ⟨#[]⟩]) 3 32 := ⟨Tryz.underlying33, by kernel_rfl, rfl, by omega⟩

def EqRel (w : World) (n : Nat) (p q : List Ins) (t : Value) (wr : World) : Prop := ∃ k j : Nat, k ≤ n ∧ t = .int .i64 (k : Int) ∧ (∀ j, j < k → p[j]? = q[j]?) ∧ wr = w.drewN j
set_option maxRecDepth 100000 in
set_option maxHeartbeats 1000000 in
theorem equal_c (A D : Option Addr) (n c m d B : Nat) (p q : List Ins) (w : World) (hp : Rc 3 w B A n c (ics p)) (hq : Rc 3 w B D m d (ics q)) (hn : n ≤ 1000000) :
    Calls Tryz.prog 38 #[.slice A n c, .slice D m d] w fun e w' => e = .returned (.bool (decide (p = q))) ∧ ∃ k, w' = w.drewN k := by
  have Hl := Lib.hid (And.intro (ics_num hp) (ics_num hq))
  have Hp := Lib.hid hp; have Hq := Lib.hid hq
  clear hp hq
  by_cases hnm : n = m
  · subst hnm
    go_enter Tryz.func38, Tryz.ntmps38
    go_wp2
    go_loopw [13] (fun t wr => EqRel w n p q t wr) (fun t _ => n - (intOf t).toNat)
    case atStart => exact ⟨0, 0, by omega, rfl, fun j h => by omega, rfl⟩
    case round =>
      obtain ⟨k, qq, hk, rfl, hno, rfl⟩ := hrel
      by_cases hlt : k < n
      · obtain ⟨b, o, x, rfl, hb, a0, a1, a2, hx⟩ := ics_at Hp.out hlt
        obtain ⟨b', o', y, rfl, hb', e0, e1, e2, hy⟩ := ics_at Hq.out hlt
        by_cases he : x = y
        · subst he
          have HNo := Lib.hid hno; have Hx := Lib.hid (hx.trans hy.symm)
          clear hno hx hy
          go_wp2
          go_quiet (fail)
          go_wp2
          go_roundw
          case rel => exact ⟨k + 1, qq + nq, hlt, by go_num, fun j hj => by
            by_cases hjk : j = k
            · rw [hjk]; exact Hx.out
            · exact HNo.out j (by omega), rfl⟩
          case measure => simp [intOf]; omega
        · have hne : p ≠ q := fun e => he (by rw [e, hy] at hx; exact (Option.some.inj hx).symm)
          have HE := Lib.hid hne
          obtain ⟨x1, x2, x3⟩ := x
          obtain ⟨y1, y2, y3⟩ := y
          dsimp only at a0 a1 a2 e0 e1 e2
          clear hno hx hy hne
          by_cases h1 : x1 = y1
          · subst h1
            by_cases h2 : x2 = y2
            · subst h2
              have d3 : (x3 == y3) = false := beq_eq_false_iff_ne.2 (fun e => he (by rw [e]))
              clear he
              go_wp2
              go_quiet (fail)
              go_wp2
              go_ret
              refine ⟨?_, qq + nq, by first | rfl | simp | exact World.drewN_drewN _ _ _⟩
              show Ending.returned (.bool false) = Ending.returned (.bool (decide (p = q)))
              rw [decide_eq_false HE.out]
            · have d2 : (x2 == y2) = false := beq_eq_false_iff_ne.2 h2
              clear he h2
              go_wp2
              go_quiet (fail)
              go_wp2
              go_ret
              refine ⟨?_, qq + nq, by first | rfl | simp | exact World.drewN_drewN _ _ _⟩
              show Ending.returned (.bool false) = Ending.returned (.bool (decide (p = q)))
              rw [decide_eq_false HE.out]
          · have d1 : (x1 == y1) = false := beq_eq_false_iff_ne.2 h1
            clear he h1
            go_wp2
            go_quiet (fail)
            go_wp2
            go_ret
            refine ⟨?_, qq + nq, by first | rfl | simp | exact World.drewN_drewN _ _ _⟩
            show Ending.returned (.bool false) = Ending.returned (.bool (decide (p = q)))
            rw [decide_eq_false HE.out]
      · obtain rfl : k = n := by omega
        have HNo := Lib.hid hno
        clear hno
        go_wp2
        go_ret
        refine ⟨?_, qq, rfl⟩
        have : p = q := List.ext_getElem? fun j => by
          by_cases hj : j < k
          · exact HNo.out j hj
          · rw [List.getElem?_eq_none (by have := Hl.out; omega), List.getElem?_eq_none (by have := Hl.out; omega)]
        show Ending.returned (.bool true) = Ending.returned (.bool (decide (p = q)))
        rw [decide_eq_true this]
  · have d1 : decide ((n : Int) = (m : Int)) = false := decide_eq_false (by omega)
    have d2 : ((n : Int) == (m : Int)) = false := beq_eq_false_iff_ne.2 (by omega)
    have d3 : ((n : Int) != (m : Int)) = true := by rw [bne, d2]; rfl
    go_enter Tryz.func38, Tryz.ntmps38
    go_wp2
    go_ret
    refine ⟨?_, 0, rfl⟩
    show Ending.returned (.bool false) = Ending.returned (.bool (decide (p = q)))
    rw [decide_eq_false]
    rintro rfl
    have := Hl.out
    omega

set_option maxRecDepth 100000 in
theorem same_c (A D : Option Addr) (n c m d B : Nat) (p q : List Ins) (w : World) (hp : Rc 3 w B A n c (ics p)) (hq : Rc 3 w B D m d (ics q)) (hn : n ≤ 1000000) :
    Calls Tryz.prog 23 #[.slice A n c, .slice D m d] w fun e w' => e = .returned (.bool (decide (p = q))) ∧ ∃ k, w' = w.drewN k := by
  have he := equal_c A D n c m d B p q w hp hq hn
  generalize hb : decide (p = q) = b at he ⊢
  have He := Lib.hid he
  clear hp hq he hb
  go_enter Tryz.func23, Tryz.ntmps23
  go_wp2_with fail
  refine He.out.mono ?_
  rintro e w1 ⟨rfl, k, rfl⟩
  go_wp2
  go_ret
  exact ⟨rfl, k, rfl⟩
end Go.Proofs.YtpdapgbamlcjjaaGreatDoor

/-
  The document's names, Name, May, Same.
-/
namespace Go.Proofs.YtpdapgbamlcjjaaGreatDoor
open Go.RowKit Vl Cd

theorem nmA_cell (w : World) {k : Nat} (hk : k < 24) : (w.alloc (.cells nmA 9)).cell? ⟨w.heap.size, k, none⟩ = some (st (nmk k)) := by
  simp [nmA_at hk]
set_option maxRecDepth 100000 in
set_option maxHeartbeats 2000000 in
theorem rnames_c (w : World) : Calls Tryz.prog 34 #[] w fun e w' => e = .returned (.slice (some ⟨w.heap.size, 0, none⟩) 24 24) ∧ w' = w.alloc (.cells nmA 9) := by
  go_enter Tryz.func34, Tryz.ntmps34
  go_wp2
  go_ret
  exact ⟨rfl, rfl⟩
set_option maxRecDepth 100000 in
set_option maxHeartbeats 2000000 in
theorem rname_c (op : Int) (hop : I op) (w : World) : Calls Tryz.prog 16 #[.int .i64 op] w (RetV w (st (nm op))) := by
  by_cases h0 : op < 0
  · have e : nm op = [] := by unfold nm; rw [if_pos (.inl h0)]
    have d0 : decide (op < 0) = true := decide_eq_true h0
    rw [e]
    go_enter Tryz.func16, Tryz.ntmps16
    go_wp2
    go_ret
    exact ⟨rfl, Below.refl _ _⟩
  · have d0 : decide (op < 0) = false := decide_eq_false h0
    by_cases h1 : 23 < op
    · have e : nm op = [] := by unfold nm; rw [if_pos (.inr h1)]
      have d1 : decide (23 < op) = true := decide_eq_true h1
      rw [e]
      go_enter Tryz.func16, Tryz.ntmps16
      go_wp2
      go_ret
      exact ⟨rfl, Below.refl _ _⟩
    · have d1 : decide (23 < op) = false := decide_eq_false h1
      obtain ⟨k, rfl⟩ : ∃ k : Nat, op = (k : Int) := ⟨op.toNat, by omega⟩
      have hk : k < 24 := by omega
      have hc := nmA_cell w hk
      rw [nm_nat hk]
      obtain ⟨w1, hw1⟩ : ∃ w1, w1 = w.alloc (.cells nmA 9) := ⟨_, rfl⟩
      have b1 : Below w.heap.size w w1 := by rw [hw1]; exact (Below.refl _ _).alloc (Nat.le_refl _) _
      have hn := rnames_c w
      rw [← hw1] at hn hc
      have Hn := Lib.hid hn; have B1 := Lib.hid b1
      clear h0 h1 hop hw1 hn b1
      go_enter Tryz.func16, Tryz.ntmps16
      go_wp2_with fail
      refine Hn.out.mono ?_
      rintro e w2 ⟨rfl, rfl⟩
      go_wp2
      go_ret
      exact ⟨rfl, B1.out⟩

set_option maxRecDepth 100000 in
set_option maxHeartbeats 4000000 in
theorem rmay_c (x : Ins) (w : World) : Calls Tryz.prog 14 #[iv x] w (RetV w (.bool (may x))) := by
  obtain ⟨op, n, s⟩ := x
  obtain ⟨X, hX, hXs, hXe, -⟩ := hide_st s
  obtain ⟨o, ho⟩ : ∃ o, o = may ⟨op, n, s⟩ := ⟨_, rfl⟩
  have hm := @may_s ⟨op, n, s⟩
  have ho' := @may_op ⟨op, n, s⟩
  have hn' := @may_n ⟨op, n, s⟩
  rw [← ho] at hm ho' hn'
  show Calls Tryz.prog 14 #[.agg #[.int .i64 op, .int .i64 n, .string ⟨s.toArray⟩]] w _
  rw [← ho, ← hX]
  unfold may at ho
  dsimp only at ho hm ho' hn'
  obtain ⟨w0, hw0⟩ : ∃ w0, w0 = w.alloc (.cells #[.int .i64 op, .int .i64 n, .string X] 23) := ⟨_, rfl⟩
  have b0 : Below w.heap.size w w0 := by rw [hw0]; exact (Below.refl _ _).alloc (Nat.le_refl _) _
  have x0 : Bx w0 w.heap.size (.int .i64 op) (.int .i64 n) (.string X) := by rw [hw0]; exact Bx.made _ _ _ _ _
  have W0 := Lib.hid hw0; have B0 := Lib.hid b0; have Hm := Lib.hid hm; have Ho' := Lib.hid ho'; have Hn' := Lib.hid hn'; have Hse := Lib.hid hXe; have Hsz := Lib.hid hXs
  clear hw0 b0 hX hm ho' hn' hXe hXs
  obtain ⟨c0, c1, c2, -, -, -, hlt⟩ := x0
  by_cases h0 : op < 0
  · have d0 : decide (op < 0) = true := decide_eq_true h0
    have HO := Lib.hid (show false = o by cases o with
      | false => rfl
      | true => have := Ho'.out rfl; omega)
    clear ho h0
    go_enter Tryz.func14, Tryz.ntmps14
    go_wp2_with (rw [← W0.out])
    go_ret
    exact ⟨by rw [← HO.out]; rfl, B0.out⟩
  · have d0 : decide (op < 0) = false := decide_eq_false h0
    by_cases h1 : 23 < op
    · have d1 : decide (23 < op) = true := decide_eq_true h1
      have HO := Lib.hid (show false = o by cases o with
        | false => rfl
        | true => have := Ho'.out rfl; omega)
      clear ho h0 h1
      go_enter Tryz.func14, Tryz.ntmps14
      go_wp2_with (rw [← W0.out])
      go_ret
      exact ⟨by rw [← HO.out]; rfl, B0.out⟩
    · have d1 : decide (23 < op) = false := decide_eq_false h1
      by_cases h2 : op = 1
      · subst h2
        by_cases h3 : 1000 < X.size
        · have d3 : decide ((1000 : Int) < (X.size : Int)) = true := decide_eq_true (by omega)
          have HO := Lib.hid (show false = o by cases o with
            | false => rfl
            | true => have := (Hm.out rfl).1; have := Hsz.out; omega)
          clear ho h0 h1 h3
          go_enter Tryz.func14, Tryz.ntmps14
          go_wp2_with (rw [← W0.out])
          go_ret
          exact ⟨by rw [← HO.out]; rfl, B0.out⟩
        · have d3 : decide ((1000 : Int) < (X.size : Int)) = false := decide_eq_false (by omega)
          have HO := Lib.hid (show (n == 0) = o by
            rw [ho, if_neg (by omega), if_pos rfl, decide_eq_true (by have := Hsz.out; omega), Bool.and_true])
          clear ho h0 h1 h3
          go_enter Tryz.func14, Tryz.ntmps14
          go_wp2_with (rw [← W0.out])
          go_ret
          exact ⟨by rw [← HO.out]; rfl, B0.out⟩
      · have d2 : (op == 1) = false := beq_eq_false_iff_ne.2 h2
        have d2' : (op != 1) = true := by rw [bne, d2]; rfl
        by_cases he : s = []
        · have e1 : X.toList.isEmpty = true := by rw [Hse.out]; exact beq_iff_eq.2 he
          have e3 : decide ((1000 : Int) < (X.size : Int)) = false := decide_eq_false (by have := Hsz.out; rw [he, List.length_nil] at this; omega)
          have hz : (s == []) = true := beq_iff_eq.2 he
          rw [hz] at ho
          by_cases h3 : op = 0
          · subst h3
            have HO := Lib.hid (show true = o by rw [ho, if_pos rfl])
            clear ho h0 h1 h2
            go_enter Tryz.func14, Tryz.ntmps14
            go_wp2_with (rw [← W0.out])
            go_ret
            exact ⟨by rw [← HO.out]; rfl, B0.out⟩
          · have d3 : (op == 0) = false := beq_eq_false_iff_ne.2 h3
            by_cases h4 : op = 2
            · subst h4
              by_cases hn : 0 ≤ n
              · have f1 : decide (0 ≤ n) = true := decide_eq_true hn
                by_cases hnn : n ≤ 49
                · have f2 : decide (n ≤ 49) = true := decide_eq_true hnn
                  have HO := Lib.hid (show true = o by rw [ho, if_neg (by omega), if_neg (by omega), if_pos rfl, f1, decide_eq_true (by omega)]; rfl)
                  clear ho h0 h1 h2 h3 hn hnn
                  go_enter Tryz.func14, Tryz.ntmps14
                  go_wp2_with (rw [← W0.out])
                  go_ret
                  exact ⟨by rw [← HO.out]; rfl, B0.out⟩
                · have f2 : decide (n ≤ 49) = false := decide_eq_false hnn
                  have HO := Lib.hid (show false = o by rw [ho, if_neg (by omega), if_neg (by omega), if_pos rfl, decide_eq_false (show ¬ n < 50 by omega)]; simp)
                  clear ho h0 h1 h2 h3 hn hnn
                  go_enter Tryz.func14, Tryz.ntmps14
                  go_wp2_with (rw [← W0.out])
                  go_ret
                  exact ⟨by rw [← HO.out]; rfl, B0.out⟩
              · have f1 : decide (0 ≤ n) = false := decide_eq_false hn
                have HO := Lib.hid (show false = o by rw [ho, if_neg (by omega), if_neg (by omega), if_pos rfl, f1]; rfl)
                clear ho h0 h1 h2 h3 hn
                go_enter Tryz.func14, Tryz.ntmps14
                go_wp2_with (rw [← W0.out])
                go_ret
                exact ⟨by rw [← HO.out]; rfl, B0.out⟩
            · have d4 : (op == 2) = false := beq_eq_false_iff_ne.2 h4
              have d4' : (op != 2) = true := by rw [bne, d4]; rfl
              have HO := Lib.hid (show (n == 0) = o by
                rw [ho, if_neg h3, if_neg h2, if_neg h4, decide_eq_true (by omega), decide_eq_true (by omega)]; simp)
              clear ho h0 h1 h2 h3 h4
              go_enter Tryz.func14, Tryz.ntmps14
              go_wp2_with (rw [← W0.out])
              go_ret
              exact ⟨by rw [← HO.out]; rfl, B0.out⟩
        · have e1 : X.toList.isEmpty = false := by rw [Hse.out]; exact beq_eq_false_iff_ne.2 he
          have HO := Lib.hid (show false = o by cases o with
            | false => rfl
            | true => exact absurd ((Hm.out rfl).2 h2) he)
          clear ho h0 h1 h2 he
          go_enter Tryz.func14, Tryz.ntmps14
          go_wp2_with (rw [← W0.out])
          go_ret
          exact ⟨by rw [← HO.out]; rfl, B0.out⟩
end Go.Proofs.YtpdapgbamlcjjaaGreatDoor

/-
  The document's quoted.
-/
namespace Go.Proofs.YtpdapgbamlcjjaaGreatDoor
open Go.RowKit Vl Cd

theorem str_take (s : ByteArray) (k : Nat) (h : k < s.size) : s.data.toList.take (k + 1) = s.data.toList.take k ++ [s[k]] := by
  have h2 : k < s.data.toList.length := by rw [Array.length_toList]; exact h
  rw [List.take_add_one, List.getElem?_eq_getElem h2]
  rfl
def QuRel (w : World) (X : ByteArray) (t3 t4 : Value) (wr : World) : Prop :=
  ∃ (A : Option Addr) (c k : Nat), k ≤ X.size ∧ t3 = .slice A (34 :: escs (X.data.toList.take k)).length c ∧ t4 = .int .i64 (k : Int) ∧ Own wr 5 w.heap.size A c (34 :: escs (X.data.toList.take k)) ∧ Below w.heap.size w wr
set_option maxRecDepth 100000 in
set_option maxHeartbeats 4000000 in
theorem rquoted_c (s : List UInt8) (hs1 : s.length ≤ 1000000) (w : World) : Calls Tryz.prog 27 #[st s] w (RetV w (st (qt s))) := by
  obtain ⟨X, hX, hXs, -, hXl⟩ := hide_st s
  show Calls _ _ #[.string ⟨s.toArray⟩] _ _
  rw [← hX, ← hXl]
  have hz : X.size ≤ 1000000 := by omega
  have hXL : X.data.toList.length = X.size := by rw [hXl, hXs]
  have HXL := Lib.hid hXL
  clear hX hXs hXl hXL
  obtain ⟨w1, hw1⟩ : ∃ w1, w1 = w.alloc (.cells #[.int .u8 34] 5) := ⟨_, rfl⟩
  have b1 : Below w.heap.size w w1 := by rw [hw1]; exact (Below.refl _ _).alloc (Nat.le_refl _) _
  have own1 : Own w1 5 w.heap.size (some ⟨w.heap.size, 0, none⟩) 1 [34] := by rw [hw1]; exact Own.lit w _ #[.int .u8 34] [34] rfl (by simp)
  have W1 := Lib.hid hw1; have B1 := Lib.hid b1; have Own1 := Lib.hid own1
  clear hw1 b1 own1
  go_enter Tryz.func27, Tryz.ntmps27
  go_wp2_with (rw [← W1.out])
  go_loopw [3, 4] (fun t3 t4 wr => QuRel w X t3 t4 wr) (fun _ t4 _ => X.size - (intOf t4).toNat)
  case atStart => exact ⟨_, _, 0, Nat.zero_le _, rfl, rfl, Own1.out, B1.out⟩
  case round =>
    obtain ⟨A0, c0, k, hk, rfl, rfl, hown, hbel⟩ := hrel
    by_cases hlt : k < X.size
    · have htk := str_take X k hlt
      have hel : (escs (X.data.toList.take k)).length ≤ 2000000 := by have := (escs_len (X.data.toList.take k)).1; rw [List.length_take] at this; omega
      obtain ⟨y, hy⟩ : ∃ y, y = X[k] := ⟨_, rfl⟩
      have hE0 : 34 :: escs (X.data.toList.take (k + 1)) = (34 :: escs (X.data.toList.take k)) ++ esc y := by
        rw [htk, escs_app, ← hy]; simp [escs]
      obtain ⟨L, hL⟩ : ∃ L, L = 34 :: escs (X.data.toList.take k) := ⟨_, rfl⟩
      have hLl : L.length ≤ 2000001 := by rw [hL, List.length_cons]; omega
      rw [← hL] at hE0 hown ⊢
      have Own0 := Lib.hid hown; have Bel0 := Lib.hid hbel; have HE0 := Lib.hid hE0
      have hyn : (X[k]).toNat = y.toNat := by rw [hy]
      have Hyn := Lib.hid hyn
      clear hown hbel hE0 htk hel hL hy
      by_cases h1 : y = 10
      · have e : esc y = [92, 110] := by rw [h1]; rfl
        obtain ⟨N, hN⟩ : ∃ N, N = L ++ [92, 110] := ⟨_, rfl⟩
        have HE := Lib.hid (show 34 :: escs (X.data.toList.take (k + 1)) = N by rw [HE0.out, e, hN])
        have SN := Lib.hid (show N.length ≤ 140737488355328 by rw [hN, List.length_append]; simp only [List.length_cons, List.length_nil]; omega)
        have HN := Lib.hid hN.symm
        have hx : (X[k]).toNat = 10 := by rw [hyn, h1]; rfl
        have d1 : ((X[k]).toNat == 10) = true := beq_iff_eq.2 hx
        have d2 : (((X[k]).toNat : Int) == 10) = true := beq_iff_eq.2 (by omega)
        clear hN e h1 hyn hx
        obtain ⟨w5, hw5⟩ : ∃ w5, w5 = wr.alloc (.cells #[.int .u8 92, .int .u8 110] 5) := ⟨_, rfl⟩
        have bw5 : Below wr.heap.size wr w5 := by rw [hw5]; exact (Below.refl _ _).alloc (Nat.le_refl _) _
        have rw5 : Rb w5 (wr.heap.size + 1) (some ⟨wr.heap.size, 0, none⟩) 2 2 [92, 110] := by rw [hw5]; exact Rb.lit wr _ (0, 0) #[.int .u8 92, .int .u8 110] [92, 110] 2 rfl rfl (by omega)
        have ow5 : Own w5 5 w.heap.size A0 c0 L := by rw [hw5]; exact Own0.out.alloc _
        have bbw5 := Bel0.out.trans (bw5.mono Bel0.out.size)
        have zw5 := bbw5.size
        have Ww5 := Lib.hid hw5; have Rw5 := Lib.hid rw5; have Ow5 := Lib.hid ow5; have BBw5 := Lib.hid bbw5; have Zw5 := Lib.hid zw5
        clear hw5 rw5 ow5 bbw5 bw5 zw5
        go_wp2_with (at_builtin; rw [← Ww5.out]; go_must (refine bty.wpAppTo rfl (.tmp 16) (.tmp 17) rfl (l := L) (r := [92, 110]) (N := N) rfl rfl Ow5.out Rw5.out HN.out ?haa1 ?haa2 ?_))
        case haa1 => exact SN.out
        case haa2 => exact Zw5.out
        intro Aw6 cw6 w6 ow6 gw6
        have bw6 := gw6.below Ow5.out Zw5.out
        have BBw6 := Lib.hid (BBw5.out.trans bw6)
        have Ow6 := Lib.hid ow6
        clear ow6 gw6 bw6
        go_wp2
        go_roundw
        case rel => exact ⟨_, _, k + 1, hlt, by rw [HE.out], by go_num, by rw [HE.out]; exact Ow6.out, BBw6.out⟩
        case measure => simp [intOf]; omega
      · have hx1 : (X[k]).toNat ≠ 10 := fun q => h1 (UInt8.toNat_inj.1 (hyn.symm.trans q))
        have d1 : ((X[k]).toNat == 10) = false := beq_eq_false_iff_ne.2 hx1
        have d2 : (((X[k]).toNat : Int) == 10) = false := beq_eq_false_iff_ne.2 (fun q => hx1 (by omega))
        by_cases h2 : y = 34
        · have e : esc y = [92, y] := by rw [h2]; rfl
          obtain ⟨N1, hN1⟩ : ∃ N1, N1 = L ++ [92] := ⟨_, rfl⟩
          obtain ⟨N, hN⟩ : ∃ N, N = N1 ++ [y] := ⟨_, rfl⟩
          have HE := Lib.hid (show 34 :: escs (X.data.toList.take (k + 1)) = N by rw [HE0.out, e, hN, hN1]; simp)
          have SN1 := Lib.hid (show N1.length ≤ 140737488355328 by rw [hN1, List.length_append]; simp only [List.length_cons, List.length_nil]; omega)
          have SN := Lib.hid (show N.length ≤ 140737488355328 by rw [hN, hN1, List.length_append, List.length_append]; simp only [List.length_cons, List.length_nil]; omega)
          have HN := Lib.hid hN.symm; have HN1 := Lib.hid hN1.symm
          have hx : (X[k]).toNat = 34 := by rw [hyn, h2]; rfl
          have d3 : ((X[k]).toNat == 34) = true := beq_iff_eq.2 hx
          have d4 : (((X[k]).toNat : Int) == 34) = true := beq_iff_eq.2 (by omega)
          clear hN hN1 e h1 h2 hx hx1 hyn
          obtain ⟨w5, hw5⟩ : ∃ w5, w5 = wr.alloc (.cells #[.int .u8 92] 5) := ⟨_, rfl⟩
          have bw5 : Below wr.heap.size wr w5 := by rw [hw5]; exact (Below.refl _ _).alloc (Nat.le_refl _) _
          have rw5 : Rb w5 (wr.heap.size + 1) (some ⟨wr.heap.size, 0, none⟩) 1 1 [92] := by rw [hw5]; exact Rb.lit wr _ (0, 0) #[.int .u8 92] [92] 1 rfl rfl (by omega)
          have ow5 : Own w5 5 w.heap.size A0 c0 L := by rw [hw5]; exact Own0.out.alloc _
          have bbw5 := Bel0.out.trans (bw5.mono Bel0.out.size)
          have zw5 := bbw5.size
          have Ww5 := Lib.hid hw5; have Rw5 := Lib.hid rw5; have Ow5 := Lib.hid ow5; have BBw5 := Lib.hid bbw5; have Zw5 := Lib.hid zw5
          clear hw5 rw5 ow5 bbw5 bw5 zw5
          go_wp2_with (at_builtin; rw [← Ww5.out]; go_must (refine bty.wpAppTo rfl (.tmp 29) (.tmp 30) rfl (l := L) (r := [92]) (N := N1) rfl rfl Ow5.out Rw5.out HN1.out ?hab1 ?hab2 ?_))
          case hab1 => exact SN1.out
          case hab2 => exact Zw5.out
          intro Aw6 cw6 w6 ow6 gw6
          have bw6 := gw6.below Ow5.out Zw5.out
          have BBw6 := Lib.hid (BBw5.out.trans bw6)
          have Ow6 := Lib.hid ow6
          clear ow6 gw6 bw6
          obtain ⟨w7, hw7⟩ : ∃ w7, w7 = w6.alloc (.cells #[.int .u8 ((X[k]).toNat : Int)] 5) := ⟨_, rfl⟩
          have bw7 : Below w6.heap.size w6 w7 := by rw [hw7]; exact (Below.refl _ _).alloc (Nat.le_refl _) _
          have rw7 : Rb w7 (w6.heap.size + 1) (some ⟨w6.heap.size, 0, none⟩) 1 1 [y] := by rw [hw7]; exact (by rw [Hyn.out]; exact Rb.one w6 _ y)
          have ow7 : Own w7 5 w.heap.size Aw6 cw6 N1 := by rw [hw7]; exact Ow6.out.alloc _
          have bbw7 := BBw6.out.trans (bw7.mono BBw6.out.size)
          have zw7 := bbw7.size
          have Ww7 := Lib.hid hw7; have Rw7 := Lib.hid rw7; have Ow7 := Lib.hid ow7; have BBw7 := Lib.hid bbw7; have Zw7 := Lib.hid zw7
          clear hw7 rw7 ow7 bbw7 bw7 zw7
          go_wp2_with (at_builtin; rw [← Ww7.out]; go_must (refine bty.wpAppTo rfl (.tmp 32) (.tmp 36) rfl (l := N1) (r := [y]) (N := N) rfl rfl Ow7.out Rw7.out HN.out ?hbc1 ?hbc2 ?_))
          case hbc1 => exact SN.out
          case hbc2 => exact Zw7.out
          intro Aw8 cw8 w8 ow8 gw8
          have bw8 := gw8.below Ow7.out Zw7.out
          have BBw8 := Lib.hid (BBw7.out.trans bw8)
          have Ow8 := Lib.hid ow8
          clear ow8 gw8 bw8
          go_wp2
          go_roundw
          case rel => exact ⟨_, _, k + 1, hlt, by rw [HE.out], by go_num, by rw [HE.out]; exact Ow8.out, BBw8.out⟩
          case measure => simp [intOf]; omega
        · have hx2 : (X[k]).toNat ≠ 34 := fun q => h2 (UInt8.toNat_inj.1 (hyn.symm.trans q))
          have d3 : ((X[k]).toNat == 34) = false := beq_eq_false_iff_ne.2 hx2
          have d4 : (((X[k]).toNat : Int) == 34) = false := beq_eq_false_iff_ne.2 (fun q => hx2 (by omega))
          by_cases h3 : y = 92
          · have e : esc y = [92, y] := by rw [h3]; rfl
            obtain ⟨N1, hN1⟩ : ∃ N1, N1 = L ++ [92] := ⟨_, rfl⟩
            obtain ⟨N, hN⟩ : ∃ N, N = N1 ++ [y] := ⟨_, rfl⟩
            have HE := Lib.hid (show 34 :: escs (X.data.toList.take (k + 1)) = N by rw [HE0.out, e, hN, hN1]; simp)
            have SN1 := Lib.hid (show N1.length ≤ 140737488355328 by rw [hN1, List.length_append]; simp only [List.length_cons, List.length_nil]; omega)
            have SN := Lib.hid (show N.length ≤ 140737488355328 by rw [hN, hN1, List.length_append, List.length_append]; simp only [List.length_cons, List.length_nil]; omega)
            have HN := Lib.hid hN.symm; have HN1 := Lib.hid hN1.symm
            have hx : (X[k]).toNat = 92 := by rw [hyn, h3]; rfl
            have d5 : ((X[k]).toNat == 92) = true := beq_iff_eq.2 hx
            have d6 : (((X[k]).toNat : Int) == 92) = true := beq_iff_eq.2 (by omega)
            clear hN hN1 e h1 h2 h3 hx hx1 hx2 hyn
            obtain ⟨w5, hw5⟩ : ∃ w5, w5 = wr.alloc (.cells #[.int .u8 92] 5) := ⟨_, rfl⟩
            have bw5 : Below wr.heap.size wr w5 := by rw [hw5]; exact (Below.refl _ _).alloc (Nat.le_refl _) _
            have rw5 : Rb w5 (wr.heap.size + 1) (some ⟨wr.heap.size, 0, none⟩) 1 1 [92] := by rw [hw5]; exact Rb.lit wr _ (0, 0) #[.int .u8 92] [92] 1 rfl rfl (by omega)
            have ow5 : Own w5 5 w.heap.size A0 c0 L := by rw [hw5]; exact Own0.out.alloc _
            have bbw5 := Bel0.out.trans (bw5.mono Bel0.out.size)
            have zw5 := bbw5.size
            have Ww5 := Lib.hid hw5; have Rw5 := Lib.hid rw5; have Ow5 := Lib.hid ow5; have BBw5 := Lib.hid bbw5; have Zw5 := Lib.hid zw5
            clear hw5 rw5 ow5 bbw5 bw5 zw5
            go_wp2_with (at_builtin; rw [← Ww5.out]; go_must (refine bty.wpAppTo rfl (.tmp 29) (.tmp 30) rfl (l := L) (r := [92]) (N := N1) rfl rfl Ow5.out Rw5.out HN1.out ?had1 ?had2 ?_))
            case had1 => exact SN1.out
            case had2 => exact Zw5.out
            intro Aw6 cw6 w6 ow6 gw6
            have bw6 := gw6.below Ow5.out Zw5.out
            have BBw6 := Lib.hid (BBw5.out.trans bw6)
            have Ow6 := Lib.hid ow6
            clear ow6 gw6 bw6
            obtain ⟨w7, hw7⟩ : ∃ w7, w7 = w6.alloc (.cells #[.int .u8 ((X[k]).toNat : Int)] 5) := ⟨_, rfl⟩
            have bw7 : Below w6.heap.size w6 w7 := by rw [hw7]; exact (Below.refl _ _).alloc (Nat.le_refl _) _
            have rw7 : Rb w7 (w6.heap.size + 1) (some ⟨w6.heap.size, 0, none⟩) 1 1 [y] := by rw [hw7]; exact (by rw [Hyn.out]; exact Rb.one w6 _ y)
            have ow7 : Own w7 5 w.heap.size Aw6 cw6 N1 := by rw [hw7]; exact Ow6.out.alloc _
            have bbw7 := BBw6.out.trans (bw7.mono BBw6.out.size)
            have zw7 := bbw7.size
            have Ww7 := Lib.hid hw7; have Rw7 := Lib.hid rw7; have Ow7 := Lib.hid ow7; have BBw7 := Lib.hid bbw7; have Zw7 := Lib.hid zw7
            clear hw7 rw7 ow7 bbw7 bw7 zw7
            go_wp2_with (at_builtin; rw [← Ww7.out]; go_must (refine bty.wpAppTo rfl (.tmp 32) (.tmp 36) rfl (l := N1) (r := [y]) (N := N) rfl rfl Ow7.out Rw7.out HN.out ?hbe1 ?hbe2 ?_))
            case hbe1 => exact SN.out
            case hbe2 => exact Zw7.out
            intro Aw8 cw8 w8 ow8 gw8
            have bw8 := gw8.below Ow7.out Zw7.out
            have BBw8 := Lib.hid (BBw7.out.trans bw8)
            have Ow8 := Lib.hid ow8
            clear ow8 gw8 bw8
            go_wp2
            go_roundw
            case rel => exact ⟨_, _, k + 1, hlt, by rw [HE.out], by go_num, by rw [HE.out]; exact Ow8.out, BBw8.out⟩
            case measure => simp [intOf]; omega
          · have hx3 : (X[k]).toNat ≠ 92 := fun q => h3 (UInt8.toNat_inj.1 (hyn.symm.trans q))
            have d5 : ((X[k]).toNat == 92) = false := beq_eq_false_iff_ne.2 hx3
            have d6 : (((X[k]).toNat : Int) == 92) = false := beq_eq_false_iff_ne.2 (fun q => hx3 (by omega))
            have e : esc y = [y] := by unfold esc; rw [if_neg h3, if_neg h2, if_neg h1]
            obtain ⟨N, hN⟩ : ∃ N, N = L ++ [y] := ⟨_, rfl⟩
            have HE := Lib.hid (show 34 :: escs (X.data.toList.take (k + 1)) = N by rw [HE0.out, e, hN])
            have SN := Lib.hid (show N.length ≤ 140737488355328 by rw [hN, List.length_append]; simp only [List.length_cons, List.length_nil]; omega)
            have HN := Lib.hid hN.symm
            clear hN e h1 h2 h3 hx1 hx2 hx3 hyn
            obtain ⟨w5, hw5⟩ : ∃ w5, w5 = wr.alloc (.cells #[.int .u8 ((X[k]).toNat : Int)] 5) := ⟨_, rfl⟩
            have bw5 : Below wr.heap.size wr w5 := by rw [hw5]; exact (Below.refl _ _).alloc (Nat.le_refl _) _
            have rw5 : Rb w5 (wr.heap.size + 1) (some ⟨wr.heap.size, 0, none⟩) 1 1 [y] := by rw [hw5]; exact (by rw [Hyn.out]; exact Rb.one wr _ y)
            have ow5 : Own w5 5 w.heap.size A0 c0 L := by rw [hw5]; exact Own0.out.alloc _
            have bbw5 := Bel0.out.trans (bw5.mono Bel0.out.size)
            have zw5 := bbw5.size
            have Ww5 := Lib.hid hw5; have Rw5 := Lib.hid rw5; have Ow5 := Lib.hid ow5; have BBw5 := Lib.hid bbw5; have Zw5 := Lib.hid zw5
            clear hw5 rw5 ow5 bbw5 bw5 zw5
            go_wp2_with (at_builtin; rw [← Ww5.out]; go_must (refine bty.wpAppTo rfl (.tmp 32) (.tmp 36) rfl (l := L) (r := [y]) (N := N) rfl rfl Ow5.out Rw5.out HN.out ?haf1 ?haf2 ?_))
            case haf1 => exact SN.out
            case haf2 => exact Zw5.out
            intro Aw6 cw6 w6 ow6 gw6
            have bw6 := gw6.below Ow5.out Zw5.out
            have BBw6 := Lib.hid (BBw5.out.trans bw6)
            have Ow6 := Lib.hid ow6
            clear ow6 gw6 bw6
            go_wp2
            go_roundw
            case rel => exact ⟨_, _, k + 1, hlt, by rw [HE.out], by go_num, by rw [HE.out]; exact Ow6.out, BBw6.out⟩
            case measure => simp [intOf]; omega
    · obtain rfl : k = X.size := by omega
      rw [List.take_of_length_le (by rw [HXL.out]; exact Nat.le_refl _)] at hown ⊢
      have hel := (escs_len X.data.toList).1
      rw [HXL.out] at hel
      obtain ⟨L, hL⟩ : ∃ L, L = 34 :: escs X.data.toList := ⟨_, rfl⟩
      have hQ : qt X.data.toList = L ++ [34] := by rw [hL]; rfl
      have hLl : L.length ≤ 2000001 := by rw [hL, List.length_cons]; omega
      rw [← hL] at hown ⊢
      obtain ⟨N, hN⟩ : ∃ N, N = L ++ [34] := ⟨_, rfl⟩
      have HQN := Lib.hid (show qt X.data.toList = N by rw [hQ, hN])
      have SN := Lib.hid (show N.length ≤ 140737488355328 by rw [hN, List.length_append]; simp only [List.length_cons, List.length_nil]; omega)
      have HN := Lib.hid hN.symm
      have Own0 := Lib.hid hown; have Bel0 := Lib.hid hbel
      clear hown hbel hQ hL hel hN
      obtain ⟨w5, hw5⟩ : ∃ w5, w5 = wr.alloc (.cells #[.int .u8 34] 5) := ⟨_, rfl⟩
      have bw5 : Below wr.heap.size wr w5 := by rw [hw5]; exact (Below.refl _ _).alloc (Nat.le_refl _) _
      have rw5 : Rb w5 (wr.heap.size + 1) (some ⟨wr.heap.size, 0, none⟩) 1 1 [34] := by rw [hw5]; exact Rb.lit wr _ (0, 0) #[.int .u8 34] [34] 1 rfl rfl (by omega)
      have ow5 : Own w5 5 w.heap.size A0 c0 L := by rw [hw5]; exact Own0.out.alloc _
      have bbw5 := Bel0.out.trans (bw5.mono Bel0.out.size)
      have zw5 := bbw5.size
      have Ww5 := Lib.hid hw5; have Rw5 := Lib.hid rw5; have Ow5 := Lib.hid ow5; have BBw5 := Lib.hid bbw5; have Zw5 := Lib.hid zw5
      clear hw5 rw5 ow5 bbw5 bw5 zw5
      go_wp2_with (at_builtin; rw [← Ww5.out]; go_must (refine bty.wpAppTo rfl (.tmp 38) (.tmp 39) rfl (l := L) (r := [34]) (N := N) rfl rfl Ow5.out Rw5.out HN.out ?hag1 ?hag2 ?_))
      case hag1 => exact SN.out
      case hag2 => exact Zw5.out
      intro Aw6 cw6 w6 ow6 gw6
      have bw6 := gw6.below Ow5.out Zw5.out
      have BBw6 := Lib.hid (BBw5.out.trans bw6)
      have Ow6 := Lib.hid ow6
      clear ow6 gw6 bw6
      have hc := bty.conv Ow6.out.rb
      go_wp2
      go_ret
      exact ⟨by rw [HQN.out]; rfl, BBw6.out⟩
end Go.Proofs.YtpdapgbamlcjjaaGreatDoor

/-
  The document's Line.
-/
namespace Go.Proofs.YtpdapgbamlcjjaaGreatDoor
open Go.RowKit Vl Cd

set_option maxRecDepth 100000 in
set_option maxHeartbeats 4000000 in
theorem rline_c (x : Ins) (hop : I x.op) (hn : I x.n) (w : World) : Calls Tryz.prog 10 #[iv x] w (RetV w (lnV x)) := by
  have hmay := fun W => rmay_c x W
  have hnm := fun W => rname_c x.op hop W
  have hms : may x = true → x.s.length ≤ 1000 := fun h => (may_s h).1
  have hln : ln x = (if hasO x.op then nm x.op ++ 32 :: opd x else nm x.op) := rfl
  have hlv : lnV x = if may x then .tuple #[st (ln x), .int .i64 0] else .tuple #[st [], .int .i64 1] := rfl
  obtain ⟨LV, hLV⟩ : ∃ L, L = lnV x := ⟨_, rfl⟩
  rw [← hLV] at hlv ⊢
  unfold opd at hln
  generalize hM : may x = M at *
  generalize ln x = Q at *
  clear hM hLV
  obtain ⟨op, n, s⟩ := x
  dsimp only at *
  obtain ⟨w0, hw0⟩ : ∃ w0, w0 = w.alloc (.cells #[.int .i64 op, .int .i64 n, .string ⟨s.toArray⟩] 23) := ⟨_, rfl⟩
  have b0 : Below w.heap.size w w0 := by rw [hw0]; exact (Below.refl _ _).alloc (Nat.le_refl _) _
  have x0 : Bx w0 w.heap.size (.int .i64 op) (.int .i64 n) (.string ⟨s.toArray⟩) := by rw [hw0]; exact Bx.made _ _ _ _ _
  have W0 := Lib.hid hw0; have B0 := Lib.hid b0; have X0 := Lib.hid x0
  have Hmay := Lib.hid hmay; have Hnm := Lib.hid hnm; have Hms := Lib.hid hms; have Hln := Lib.hid hln; have Hlv := Lib.hid hlv; have Hn := Lib.hid hn
  obtain ⟨c0, c1, c2, -, -, -, hlt⟩ := x0
  clear hw0 b0 hop hn hmay hnm hms hln hlv
  have hm : True := trivial
  cases M
  · go_enter Tryz.func10, Tryz.ntmps10
    go_wp2_with (rw [← W0.out])
    refine (Hmay.out w0).mono ?_
    rintro e w1 ⟨rfl, b1⟩
    have X1 := Lib.hid (X0.out.below b1 hlt)
    have B1 := Lib.hid (B0.out.trans (b1.mono B0.out.size))
    clear c0 c1 c2 b1 hlt
    obtain ⟨c0, c1, c2, -, -, -, hlt⟩ := X1.out
    go_wp2
    go_ret2
    exact ⟨by rw [Hlv.out]; rfl, B1.out⟩
  have Hs := Lib.hid (Hms.out rfl)
  by_cases h0 : op = 0
  · subst h0
    go_enter Tryz.func10, Tryz.ntmps10
    go_wp2_with (rw [← W0.out])
    refine (Hmay.out w0).mono ?_
    rintro e w1 ⟨rfl, b1⟩
    have X1 := Lib.hid (X0.out.below b1 hlt)
    have B1 := Lib.hid (B0.out.trans (b1.mono B0.out.size))
    clear c0 c1 c2 b1 hlt
    obtain ⟨c0, c1, c2, -, -, -, hlt⟩ := X1.out
    have hq : LV = Value.tuple #[st Q, .int .i64 0] := Hlv.out.trans (by first | exact if_pos rfl | exact if_pos trivial)
    rw [Hln.out] at hq
    have HQ := Lib.hid (show Ending.returned (.tuple #[st (nm 0 ++ 32 :: figures n), .int .i64 0]) = Ending.returned LV by rw [hq]; rfl)
    have hnm := Hnm.out
    have hnl := (nm_plain 0).1
    have hfl := figures_len Hn.out
    obtain ⟨N, hN⟩ : ∃ N, N = nm 0 := ⟨_, rfl⟩
    obtain ⟨O, hO⟩ : ∃ O, O = figures n := ⟨_, rfl⟩
    have Hfi := Lib.hid (fun W => (show Calls Tryz.prog 26 #[.int .i64 n] W (RetV W (st O)) from by rw [hO]; exact figuresI_c n Hn.out W))
    rw [← hN] at hnm hnl
    rw [← hO] at hfl
    have HQ := Lib.hid (show Ending.returned (.tuple #[st (N ++ 32 :: O), .int .i64 0]) = Ending.returned LV by rw [hN, hO]; exact HQ.out)
    have Hnm := Lib.hid hnm
    have k1 : ¬ 9223372036854775807 < N.length + 1 := by omega
    have k2 : ¬ 9223372036854775807 < N.length + 1 + O.length := by omega
    clear hq hN hO hnm hnl hfl hm
    go_wp2_with fail
    go_region_held3 (fun w' => w'.cell? ⟨w.heap.size, 0, none⟩ = some (.int .i64 0) ∧ w'.cell? ⟨w.heap.size, 1, none⟩ = some (.int .i64 n)) (go_keep) (first | (go_at_call 16; refine (Hnm.out _).mono ?_; rintro e w4 ⟨rfl, b4⟩; have hA : Below w1.heap.size w1 w4 := (below_drewN (Below.refl _ _) 1).trans b4; have e1 := (X1.out.below hA hlt).c0; have e2 := (X1.out.below hA hlt).c1) | (go_at_call 26; refine (Hfi.out _).mono ?_; rintro e w5 ⟨rfl, b5⟩; have hB : Below w1.heap.size w1 w5 := hA.trans (b5.mono hA.size); have e1 := (X1.out.below hB hlt).c0; have e2 := (X1.out.below hB hlt).c1))
    have B2 := Lib.hid (B1.out.trans (hB.mono B1.out.size))
    go_wp2
    go_ret2
    refine ⟨?_, B2.out⟩
    rw [← HQ.out, show (ByteArray.mk #[32]) = ⟨[(32 : UInt8)].toArray⟩ from rfl, ba_app, ba_app]
    simp
  have d0 : (op == 0) = false := beq_eq_false_iff_ne.2 h0
  by_cases h2 : op = 2
  · subst h2
    clear h0
    go_enter Tryz.func10, Tryz.ntmps10
    go_wp2_with (rw [← W0.out])
    refine (Hmay.out w0).mono ?_
    rintro e w1 ⟨rfl, b1⟩
    have X1 := Lib.hid (X0.out.below b1 hlt)
    have B1 := Lib.hid (B0.out.trans (b1.mono B0.out.size))
    clear c0 c1 c2 b1 hlt
    obtain ⟨c0, c1, c2, -, -, -, hlt⟩ := X1.out
    have hq : LV = Value.tuple #[st Q, .int .i64 0] := Hlv.out.trans (by first | exact if_pos rfl | exact if_pos trivial)
    rw [Hln.out] at hq
    have HQ := Lib.hid (show Ending.returned (.tuple #[st (nm 2 ++ 32 :: figures n), .int .i64 0]) = Ending.returned LV by rw [hq]; rfl)
    have hnm := Hnm.out
    have hnl := (nm_plain 2).1
    have hfl := figures_len Hn.out
    obtain ⟨N, hN⟩ : ∃ N, N = nm 2 := ⟨_, rfl⟩
    obtain ⟨O, hO⟩ : ∃ O, O = figures n := ⟨_, rfl⟩
    have Hfi := Lib.hid (fun W => (show Calls Tryz.prog 26 #[.int .i64 n] W (RetV W (st O)) from by rw [hO]; exact figuresI_c n Hn.out W))
    rw [← hN] at hnm hnl
    rw [← hO] at hfl
    have HQ := Lib.hid (show Ending.returned (.tuple #[st (N ++ 32 :: O), .int .i64 0]) = Ending.returned LV by rw [hN, hO]; exact HQ.out)
    have Hnm := Lib.hid hnm
    have k1 : ¬ 9223372036854775807 < N.length + 1 := by omega
    have k2 : ¬ 9223372036854775807 < N.length + 1 + O.length := by omega
    clear hq hN hO hnm hnl hfl hm
    go_wp2_with fail
    go_region_held3 (fun w' => w'.cell? ⟨w.heap.size, 0, none⟩ = some (.int .i64 2) ∧ w'.cell? ⟨w.heap.size, 1, none⟩ = some (.int .i64 n)) (go_keep) (first | (go_at_call 16; refine (Hnm.out _).mono ?_; rintro e w4 ⟨rfl, b4⟩; have hA : Below w1.heap.size w1 w4 := (below_drewN (Below.refl _ _) 1).trans b4; have e1 := (X1.out.below hA hlt).c0; have e2 := (X1.out.below hA hlt).c1) | (go_at_call 26; refine (Hfi.out _).mono ?_; rintro e w5 ⟨rfl, b5⟩; have hB : Below w1.heap.size w1 w5 := hA.trans (b5.mono hA.size); have e1 := (X1.out.below hB hlt).c0; have e2 := (X1.out.below hB hlt).c1))
    have B2 := Lib.hid (B1.out.trans (hB.mono B1.out.size))
    go_wp2
    go_ret2
    refine ⟨?_, B2.out⟩
    rw [← HQ.out, show (ByteArray.mk #[32]) = ⟨[(32 : UInt8)].toArray⟩ from rfl, ba_app, ba_app]
    simp
  have d2 : (op == 2) = false := beq_eq_false_iff_ne.2 h2
  by_cases h1 : op = 1
  · subst h1
    clear h0 h2
    have hq : LV = Value.tuple #[st Q, .int .i64 0] := Hlv.out.trans (by first | exact if_pos rfl | exact if_pos trivial)
    rw [Hln.out] at hq
    have hql : (qt s).length ≤ 100000 := by unfold qt; have := (escs_len s).1; have := Hs.out; simp; omega
    have Hqu := Lib.hid (fun W => rquoted_c s (by have := Hs.out; omega) W)
    obtain ⟨O, hO⟩ : ∃ O, O = qt s := ⟨_, rfl⟩
    have Hqu := Lib.hid (fun W => (show Calls Tryz.prog 27 #[st s] W (RetV W (st O)) from by rw [hO]; exact Hqu.out W))
    have HQ := Lib.hid (show Ending.returned (.tuple #[st ([116, 101, 120, 116, 32] ++ O), .int .i64 0]) = Ending.returned LV by rw [hq, hO]; rfl)
    rw [← hO] at hql
    have k1 : ¬ 9223372036854775807 < 5 + O.length := by omega
    have k2 : ¬ 9223372036854775807 < O.length + 5 := by omega
    clear hq hO hm hql
    go_enter Tryz.func10, Tryz.ntmps10
    go_wp2_with (rw [← W0.out])
    refine (Hmay.out w0).mono ?_
    rintro e w1 ⟨rfl, b1⟩
    have X1 := Lib.hid (X0.out.below b1 hlt)
    have B1 := Lib.hid (B0.out.trans (b1.mono B0.out.size))
    clear c0 c1 c2 b1 hlt
    obtain ⟨c0, c1, c2, -, -, -, hlt⟩ := X1.out
    go_wp2_with fail
    refine (Hqu.out w1).mono ?_
    rintro e w2 ⟨rfl, b2⟩
    have B2 := Lib.hid (B1.out.trans (b2.mono B1.out.size))
    go_wp2
    go_ret2
    refine ⟨?_, B2.out⟩
    rw [← HQ.out]
    first | rfl | (rw [show (ByteArray.mk #[116, 101, 120, 116, 32]) = ⟨[(116 : UInt8), 101, 120, 116, 32].toArray⟩ from rfl, ba_app])
  have d1 : (op == 1) = false := beq_eq_false_iff_ne.2 h1
  · have hq : LV = Value.tuple #[st Q, .int .i64 0] := Hlv.out.trans (by first | exact if_pos rfl | exact if_pos trivial)
    have hO : hasO op = false := by unfold hasO; rw [d0, d1, d2]; rfl
    rw [Hln.out, hO] at hq
    have HQ := Lib.hid (show Ending.returned (.tuple #[st (nm op), .int .i64 0]) = Ending.returned LV by rw [hq]; rfl)
    clear hq hO h0 h1 h2 hm
    go_enter Tryz.func10, Tryz.ntmps10
    go_wp2_with (rw [← W0.out])
    refine (Hmay.out w0).mono ?_
    rintro e w1 ⟨rfl, b1⟩
    have X1 := Lib.hid (X0.out.below b1 hlt)
    have B1 := Lib.hid (B0.out.trans (b1.mono B0.out.size))
    clear c0 c1 c2 b1 hlt
    obtain ⟨c0, c1, c2, -, -, -, hlt⟩ := X1.out
    go_wp2_with fail
    refine (Hnm.out w1).mono ?_
    rintro e w2 ⟨rfl, b2⟩
    have B2 := Lib.hid (B1.out.trans (b2.mono B1.out.size))
    go_wp2
    go_ret2
    exact ⟨by rw [← HQ.out]; rfl, B2.out⟩
end Go.Proofs.YtpdapgbamlcjjaaGreatDoor
