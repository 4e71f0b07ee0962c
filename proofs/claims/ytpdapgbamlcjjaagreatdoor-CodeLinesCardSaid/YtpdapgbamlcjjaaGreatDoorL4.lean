/-
  The walk of the law CodeOne.
-/
import Derived.Test.YtpdapgbamlcjjaaGreatDoorL3
namespace Go.Proofs.YtpdapgbamlcjjaaGreatDoor
open Go.RowKit Vl Cd

def OnRel (w : World) (n : Nat) (t : Value) (wr : World) : Prop := ∃ k : Nat, k ≤ n ∧ t = .int .i64 (k : Int) ∧ wr = w
set_option maxRecDepth 100000 in
set_option maxHeartbeats 4000000 in
theorem codeOne_walk (x : Ins) (hop : I x.op) (hn : I x.n) (w : World) (hG : Gl w) :
    Calls Tryz.prog 6 #[iv x] w (RetV w (.bool true)) := by
  have hline := fun W hG => line_c x hop hn W hG
  have hmay := fun W => may_c x hop W
  have hpr : may x = true → prV (ln x) = .tuple #[iv x, .int .i64 0] := fun h => prV_some (pr_some ⟨h, hn⟩ rfl)
  have hlen : may x = true → (ln x).length ≤ 2010 := fun h => ln_len hn h
  have hten : ∀ (k : Nat) (c : UInt8), (ln x)[k]? = some c → c ≠ 10 := fun k c h => ln_ten x c (List.mem_of_getElem? h)
  have hiv : iv x = .agg #[.int .i64 x.op, .int .i64 x.n, .string ⟨x.s.toArray⟩] := rfl
  rw [hiv] at hpr
  simp only [hiv] at hline hmay
  unfold lnV at hline
  rw [hiv]
  obtain ⟨S, hS, hSs, -, -⟩ := hide_st x.s
  rw [← hS] at hpr ⊢
  simp only [← hS] at hline hmay
  generalize x.op = op at *
  generalize x.n = n at *
  generalize ln x = Q at *
  generalize may x = M at *
  have Hline := Lib.hid hline; have Hmay := Lib.hid hmay; have Hpr := Lib.hid hpr; have Hlen := Lib.hid hlen; have Hten := Lib.hid hten; have HG := Lib.hid hG
  clear hline hmay hpr hlen hten hG hop hn hiv hS hSs
  obtain ⟨w0, hw0⟩ : ∃ w0, w0 = w.alloc (.cells #[.int .i64 op, .int .i64 n, .string S] 23) := ⟨_, rfl⟩
  have B0 := Lib.hid (show Below w.heap.size w w0 by rw [hw0]; exact (Below.refl _ _).alloc (Nat.le_refl _) _)
  have X0 := Lib.hid (show Bx w0 w.heap.size (.int .i64 op) (.int .i64 n) (.string S) by rw [hw0]; exact Bx.made _ _ _ _ _)
  have W0 := Lib.hid hw0
  clear hw0
  obtain ⟨c0, c1, c2, -, -, -, -⟩ := X0.out
  by_cases h4 : (1200 : Int) < (S.size : Int)
  · have d1 : decide ((1200 : Int) < (S.size : Int)) = true := decide_eq_true h4
    clear h4
    go_enter Tryz.func6, Tryz.ntmps6
    go_wp2_with (rw [← W0.out])
    refine (alive_c w0 (HG.out.below' B0.out)).mono ?_
    rintro e wf ⟨rfl, bf⟩
    have BF := Lib.hid (B0.out.trans (bf.mono B0.out.size))
    clear bf
    go_wp2
    go_ret
    exact ⟨rfl, BF.out⟩
  have d1 : decide ((1200 : Int) < (S.size : Int)) = false := decide_eq_false h4
  clear h4
  cases M
  · go_enter Tryz.func6, Tryz.ntmps6
    go_wp2_with (rw [← W0.out])
    refine (Hline.out w0 (HG.out.below' B0.out)).mono ?_
    rintro e w1 ⟨rfl, b1⟩
    have B1 := Lib.hid (B0.out.trans (b1.mono B0.out.size)); have X1 := Lib.hid (X0.out.below b1 X0.out.lt)
    clear b1 c0 c1 c2
    obtain ⟨c0, c1, c2, -, -, -, -⟩ := X1.out
    go_wp2_with fail
    refine (Hmay.out w1).mono ?_
    rintro e w2 ⟨rfl, b2⟩
    have B2 := Lib.hid (B1.out.trans (b2.mono B1.out.size)); have X2 := Lib.hid (X1.out.below b2 X1.out.lt)
    clear b2 c0 c1 c2
    go_wp2
    go_loopw [5] (fun t wr => OnRel w2 0 t wr) (fun t _ => 0 - (intOf t).toNat)
    case atStart => exact ⟨0, Nat.le_refl _, rfl, rfl⟩
    case round =>
      obtain ⟨k, hk, rfl, rfl⟩ := hrel
      obtain rfl : k = 0 := by omega
      obtain ⟨y, ey, hy⟩ : ∃ (y : Ins) (ey : Int), prV [] = .tuple #[iv y, .int .i64 ey] := by
        cases h : pr [] with
        | none => exact ⟨i0, 3, prV_none h⟩
        | some y => exact ⟨y, 0, prV_some h⟩
      have hpa := parse_c [] (by simp) wr (HG.out.below' B2.out)
      rw [hy] at hpa
      have Hpa := Lib.hid hpa
      clear hpa hy
      go_wp2_with fail
      refine Hpa.out.mono ?_
      rintro e w3 ⟨rfl, b3⟩
      obtain ⟨w4, hw4⟩ : ∃ w4, w4 = w3.alloc (.cells #[.int .i64 y.op, .int .i64 y.n, .string ⟨y.s.toArray⟩] 23) := ⟨_, rfl⟩
      have B3 := B2.out.trans (b3.mono B2.out.size)
      have B4 := Lib.hid (show Below w.heap.size w w4 by rw [hw4]; exact B3.alloc B3.size _)
      have W4 := Lib.hid hw4
      clear hw4 b3 B3
      go_wp2_with (rw [← W4.out])
      refine (alive_c w4 (HG.out.below' B4.out)).mono ?_
      rintro e w5 ⟨rfl, b5⟩
      have B5 := Lib.hid (B4.out.trans (b5.mono B4.out.size))
      clear b5
      go_wp2
      go_ret
      exact ⟨by first | rfl | simp, B5.out⟩
  · have hl : Q.length ≤ 2010 := by first | exact Hlen.out rfl | exact Hlen.out trivial
    have hpr : prV Q = .tuple #[.agg #[.int .i64 op, .int .i64 n, .string S], .int .i64 0] := by first | exact Hpr.out rfl | exact Hpr.out trivial
    obtain ⟨X, hX, hXs, -, hXl⟩ := hide_st Q
    have hz : X.size ≤ 2010 := by omega
    have hpa := fun W hG => parse_c Q (by omega) W hG
    simp only [hpr] at hpa
    have Hpa := Lib.hid (fun W hG => (show Calls Tryz.prog 11 #[.string X] W (RetV W (.tuple #[.agg #[.int .i64 op, .int .i64 n, .string S], .int .i64 0])) from by rw [hX]; exact hpa W hG))
    have HX := Lib.hid hX; have HXl := Lib.hid hXl
    have hli := Hline.out
    simp only [if_true] at hli
    have Hline2 := Lib.hid (fun W hG => (show Calls Tryz.prog 9 #[.agg #[.int .i64 op, .int .i64 n, .string S]] W (RetV W (.tuple #[.string X, .int .i64 0])) from by rw [hX]; exact hli W hG))
    clear hl hpr hpa hXs hXl hX hli
    go_enter Tryz.func6, Tryz.ntmps6
    go_wp2_with (rw [← W0.out])
    refine (Hline2.out w0 (HG.out.below' B0.out)).mono ?_
    rintro e w1 ⟨rfl, b1⟩
    have B1 := Lib.hid (B0.out.trans (b1.mono B0.out.size)); have X1 := Lib.hid (X0.out.below b1 X0.out.lt)
    clear b1 c0 c1 c2
    obtain ⟨c0, c1, c2, -, -, -, -⟩ := X1.out
    go_wp2_with fail
    refine (Hmay.out w1).mono ?_
    rintro e w2 ⟨rfl, b2⟩
    have B2 := Lib.hid (B1.out.trans (b2.mono B1.out.size)); have X2 := Lib.hid (X1.out.below b2 X1.out.lt)
    clear b2 c0 c1 c2
    go_wp2
    go_loopw [5] (fun t wr => OnRel w2 X.size t wr) (fun t _ => X.size - (intOf t).toNat)
    case atStart => exact ⟨0, Nat.zero_le _, rfl, rfl⟩
    case round =>
      obtain ⟨k, hk, rfl, rfl⟩ := hrel
      by_cases hlt : k < X.size
      · have hq := Hten.out k X[k] (by
          have h2 : k < X.data.toList.length := by rw [Array.length_toList]; exact hlt
          rw [← HXl.out]
          exact List.getElem?_eq_getElem h2)
        have hx : (X[k]).toNat ≠ 10 := fun q => hq (UInt8.toNat_inj.1 q)
        have e1 : ((X[k]).toNat == 10) = false := beq_eq_false_iff_ne.2 hx
        have e2 : (((X[k]).toNat : Int) == 10) = false := beq_eq_false_iff_ne.2 (fun q => hx (by omega))
        clear hq hx
        go_wp2
        go_roundw
        case rel => exact ⟨k + 1, hlt, by go_num, rfl⟩
        case measure => simp [intOf]; omega
      · obtain rfl : k = X.size := by omega
        go_wp2_with fail
        refine (Hpa.out wr (HG.out.below' B2.out)).mono ?_
        rintro e w3 ⟨rfl, b3⟩
        obtain ⟨w4, hw4⟩ : ∃ w4, w4 = w3.alloc (.cells #[.int .i64 op, .int .i64 n, .string S] 23) := ⟨_, rfl⟩
        have b4 : Below w3.heap.size w3 w4 := by rw [hw4]; exact (Below.refl _ _).alloc (Nat.le_refl _) _
        have Y4 := Lib.hid (show Bx w4 w3.heap.size (.int .i64 op) (.int .i64 n) (.string S) by rw [hw4]; exact Bx.made _ _ _ _ _)
        have X4 := Lib.hid ((X2.out.below b3 X2.out.lt).below b4 (Nat.lt_of_lt_of_le X2.out.lt b3.size))
        have B3 := B2.out.trans (b3.mono B2.out.size)
        have B4 := Lib.hid (B3.trans (b4.mono B3.size))
        have W4 := Lib.hid hw4
        clear hw4 b3 b4 B3
        go_wp2_with (rw [← W4.out])
        refine (alive_c w4 (HG.out.below' B4.out)).mono ?_
        rintro e w5 ⟨rfl, b5⟩
        have B5 := Lib.hid (B4.out.trans (b5.mono B4.out.size))
        obtain ⟨y0, y1, y2, -, -, -, -⟩ := Y4.out.below b5 Y4.out.lt
        obtain ⟨x0, x1, x2, -, -, -, -⟩ := X4.out.below b5 X4.out.lt
        have e3 : (S.toList == S.toList) = true := beq_iff_eq.2 rfl
        clear b5
        go_wp2
        go_ret
        exact ⟨by first | rfl | simp, B5.out⟩
end Go.Proofs.YtpdapgbamlcjjaaGreatDoor
