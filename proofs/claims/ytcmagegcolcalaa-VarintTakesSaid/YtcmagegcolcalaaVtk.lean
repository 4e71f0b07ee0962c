/-
  The walk of the law VarintTakes.
-/
import Derived.Test.YtcmagegcolcalaaVa
import Derived.Test.YtcmagegcolcalaaVs
import Derived.Test.YtcmagegcolcalaaVsz
import Derived.Deep.DeepCutAuto
import Derived.Laws.StructEq
namespace Go.Proofs.Ytcmagegcolcalaa
open Go.RowKit

def FillRel1 (e : TypeId) (base : Nat) (A : Option Addr) (c n : Nat) (W : World) (i : Value) (wr : World) : Prop :=
  ∃ (k : Nat) (l : List UInt8), i = .int .i64 (k : Int) ∧ k ≤ n ∧ l.length = n ∧ Own wr e base A c l ∧ Below base W wr

theorem rtakeLit (w : World) (A : Option Addr) (n c : Nat) (l r : List UInt8) (a x : Nat) (hr : Rb w w.heap.size A n c l) (hn : n ≤ 1000000) (h : takeS l = (a, r, x)) :
    Calls Try.prog 18 #[.slice A n c] w (RetT w.heap.size w (a, r, x)) := by
  have h' := rtake_c A n c l w hr hn
  rw [h] at h'
  exact h'
theorem takeFrameLit (w : World) (A : Option Addr) (n c : Nat) (l : List UInt8) (most : Int) (t r : List UInt8) (x : Nat) (hr : Rb w w.heap.size A n c l) (hn : n ≤ 1000000) (hm : I64 most) (h : tframeS l most = (t, r, x)) :
    Calls Try.prog 19 #[.slice A n c, .int .i64 most] w (RetF w.heap.size w (t, r, x)) := by
  have h' := takeFrame_c A n c l most w hr hn hm
  rw [h] at h'
  exact h'
theorem rtakeFrameLit (w : World) (A : Option Addr) (n c : Nat) (l : List UInt8) (most : Int) (t r : List UInt8) (x : Nat) (hr : Rb w w.heap.size A n c l) (hn : n ≤ 1000000) (hm : I64 most) (h : tframeS l most = (t, r, x)) :
    Calls Try.prog 20 #[.slice A n c, .int .i64 most] w (RetF w.heap.size w (t, r, x)) := by
  have h' := rtakeFrame_c A n c l most w hr hn hm
  rw [h] at h'
  exact h'
theorem rtakePairLit (w : World) (A : Option Addr) (n c : Nat) (l : List UInt8) (most : Int) (k v y : List UInt8) (x : Nat) (hr : Rb w w.heap.size A n c l) (hn : n ≤ 1000000) (hm : I64 most) (h : tpairS l most = ((k, v), y, x)) :
    Calls Try.prog 22 #[.slice A n c, .int .i64 most] w (RetP w.heap.size w ((k, v), y, x)) := by
  have h' := rtakePair_c A n c l most w hr hn hm
  rw [h] at h'
  exact h'

set_option maxRecDepth 100000 in
theorem varintTakes_long (A : Option Addr) (n c : Nat) (k : Int) (w : World) (hn : 3000 < n) (hm : n ≤ maxLen) :
    Calls Try.prog 4 #[.slice A n c, .int .i64 k] w fun e w' => e = .returned (.bool true) ∧ Below w.heap.size w w' := by
  unfold maxLen at hm
  go_enter Try.func4, Try.ntmps4
  go_wp2_with fail
  refine (alive_c _).mono ?_
  rintro e w2 ⟨rfl, hb2⟩
  go_wp2
  go_ret
  exact ⟨rfl, hb2⟩

set_option maxRecDepth 100000 in
set_option maxHeartbeats 4000000 in
theorem varintTakes_short (A : Option Addr) (n c : Nat) (l : List UInt8) (k : Int) (w : World) (hr : Rb w w.heap.size A n c l) (hn : n ≤ 3000) (hk : I64 k) :
    Calls Try.prog 4 #[.slice A n c, .int .i64 k] w fun e w' => e = .returned (.bool true) ∧ Below w.heap.size w w' := by
  have hl := hr.len
  obtain ⟨a, X, x1, h1⟩ : ∃ a r x, takeS l = (a, r, x) := ⟨_, _, _, rfl⟩
  obtain ⟨T, U, x2, h2⟩ : ∃ t r x, tframeS l k = (t, r, x) := ⟨_, _, _, rfl⟩
  obtain ⟨K, V, Y, x3, h3⟩ : ∃ u v y x, tpairS l k = ((u, v), y, x) := ⟨_, _, _, _, rfl⟩
  have hXl : X.length ≤ 3000 := by
    rcases tk_cases l with ⟨a', s, htk, ha, hs, hs10⟩ | ⟨e, htk, he⟩
    · rw [takeS_ok l a' s htk] at h1
      injection h1 with _ h1; injection h1 with h1 _
      rw [← h1, List.length_drop]; omega
    · rw [takeS_err l e htk he] at h1
      injection h1 with _ h1; injection h1 with h1 _
      rw [← h1]; simp
  have Hr := Lib.hid hr; have Hl := Lib.hid hl; have Hk := Lib.hid hk; have H1 := Lib.hid h1; have H2 := Lib.hid h2; have H3 := Lib.hid h3; clear hr hl hk h1 h2 h3
  go_enter Try.func4, Try.ntmps4
  go_wp2_with (at_builtin; go_must (refine bty.wpApp rfl (.tmp 30) (.tmp 31) rfl (l := []) (r := l) rfl rfl (Own.made0 _ _) (Hr.out.alloc (Nat.le_refl _) _) ?hs1 ?hs2 ?_))
  case hs1 => rw [Hl.out]; simp; omega
  case hs2 => simp
  intro A1 c1 w1 hown1 hb1
  have hb01 : Below w.heap.size w w1 := ((Below.refl _ _).alloc (Nat.le_refl _) _).trans hb1
  have hz1 := hb01.size
  have hown1' : Own w1 5 w.heap.size A1 c1 l := by simpa using hown1
  have Hr1 := Lib.hid (rb_len hown1'.rb (n := n) Hl.out.symm)
  have Hb1 := Lib.hid ((Hr.out.below hb01).more hz1)
  have HB01 := Lib.hid hb01
  have ebl : l.length = n := Hl.out
  rw [ebl]
  clear hown1 hb1 hown1' ebl hb01
  go_wp2_with fail
  refine (takeLit _ A1 n c1 l X a x1 Hr1.out (by omega) H1.out).mono ?_
  rintro e w2 ⟨A2, c2, rfl, hown2, hb2⟩
  have hz2 := hb2.size
  have Hown2 := Lib.hid hown2
  have Hr2 := Lib.hid ((Hr1.out.below hb2).more hz2); have Hb2 := Lib.hid ((Hb1.out.below hb2).more hz2); have Hx2 := Lib.hid hown2.rb
  have HB12 := Lib.hid hb2
  clear hown2 hb2
  go_wp2_with fail
  refine (rtakeLit _ A n c l X a x1 Hb2.out (by omega) H1.out).mono ?_
  rintro e w3 ⟨A3, c3, rfl, hown3, hb3⟩
  have hz3 := hb3.size
  have Hr3 := Lib.hid ((Hr2.out.below hb3).more hz3); have Hb3 := Lib.hid ((Hb2.out.below hb3).more hz3); have Hx3 := Lib.hid ((Hx2.out.below hb3).more hz3); have Hy3 := Lib.hid hown3.rb
  have HB23 := Lib.hid hb3
  clear hown3 hb3
  go_wp2_with fail
  refine (takeFrameLit _ A1 n c1 l k T U x2 Hr3.out (by omega) Hk.out H2.out).mono ?_
  rintro e w4 ⟨A4, c4, rfl, hown4, hb4⟩
  have hz4 := hb4.size
  have Hr4 := Lib.hid ((Hr3.out.below hb4).more hz4); have Hb4 := Lib.hid ((Hb3.out.below hb4).more hz4); have Hx4 := Lib.hid ((Hx3.out.below hb4).more hz4); have Hy4 := Lib.hid ((Hy3.out.below hb4).more hz4); have Hu4 := Lib.hid hown4.rb
  have HB24 := Lib.hid (HB23.out.trans (hb4.mono hz3))
  clear hown4 hb4
  go_wp2_with fail
  refine (rtakeFrameLit _ A n c l k T U x2 Hb4.out (by omega) Hk.out H2.out).mono ?_
  rintro e w5 ⟨A5, c5, rfl, hown5, hb5⟩
  have hz5 := hb5.size
  have Hr5 := Lib.hid ((Hr4.out.below hb5).more hz5); have Hb5 := Lib.hid ((Hb4.out.below hb5).more hz5); have Hx5 := Lib.hid ((Hx4.out.below hb5).more hz5); have Hy5 := Lib.hid ((Hy4.out.below hb5).more hz5); have Hu5 := Lib.hid ((Hu4.out.below hb5).more hz5); have Hv5 := Lib.hid hown5.rb
  have HB25 := Lib.hid (HB24.out.trans (hb5.mono (Nat.le_trans hz3 hz4)))
  clear hown5 hb5
  go_wp2_with fail
  refine (takePairLit _ A1 n c1 l k K V Y x3 Hr5.out (by omega) Hk.out H3.out).mono ?_
  rintro e w6 ⟨A6, c6, rfl, hown6, hb6⟩
  have hz6 := hb6.size
  have Hb6 := Lib.hid ((Hb5.out.below hb6).more hz6); have Hx6 := Lib.hid ((Hx5.out.below hb6).more hz6); have Hy6 := Lib.hid ((Hy5.out.below hb6).more hz6); have Hu6 := Lib.hid ((Hu5.out.below hb6).more hz6); have Hv6 := Lib.hid ((Hv5.out.below hb6).more hz6); have Hp6 := Lib.hid hown6.rb
  have HB26 := Lib.hid (HB25.out.trans (hb6.mono (Nat.le_trans (Nat.le_trans hz3 hz4) hz5)))
  clear hown6 hb6
  go_upto_region 9 with fail
  obtain ⟨W, hW⟩ : ∃ W, W = w6.alloc (.cells #[.string ⟨K.toArray⟩, .string ⟨V.toArray⟩] 35) := ⟨_, rfl⟩
  rw [← hW]
  have hbW : Below w6.heap.size w6 W := by rw [hW]; exact (Below.refl _ _).alloc (Nat.le_refl _) _
  have hszW : w6.heap.size < W.heap.size := by rw [hW]; simp
  have hbox0 : W.cell? ⟨w6.heap.size, 0, none⟩ = some (.string ⟨K.toArray⟩) := by rw [hW]; simp
  have hbox1 : W.cell? ⟨w6.heap.size, 1, none⟩ = some (.string ⟨V.toArray⟩) := by rw [hW]; simp
  have hzW := hbW.size
  have Hb7 := Lib.hid ((Hb6.out.below hbW).more hzW); have Hx7 := Lib.hid ((Hx6.out.below hbW).more hzW); have Hy7 := Lib.hid ((Hy6.out.below hbW).more hzW); have Hu7 := Lib.hid ((Hu6.out.below hbW).more hzW); have Hv7 := Lib.hid ((Hv6.out.below hbW).more hzW); have Hp7 := Lib.hid ((Hp6.out.below hbW).more hzW)
  have HB27 := Lib.hid (HB26.out.trans (hbW.mono HB26.out.size))
  have HBx0 := Lib.hid hbox0; have HBx1 := Lib.hid hbox1
  clear hW hbW hbox0 hbox1
  go_wp2_with fail
  refine (rtakePairLit _ A n c l k K V Y x3 Hb7.out (by omega) Hk.out H3.out).mono ?_
  rintro e w8 ⟨A8, c8, rfl, hown8, hb8⟩
  have hz8 := hb8.size
  have Hx8 := Lib.hid ((Hx7.out.below hb8).more hz8); have Hy8 := Lib.hid ((Hy7.out.below hb8).more hz8); have Hu8 := Lib.hid ((Hu7.out.below hb8).more hz8); have Hv8 := Lib.hid ((Hv7.out.below hb8).more hz8); have Hp8 := Lib.hid ((Hp7.out.below hb8).more hz8); have Hq8 := Lib.hid hown8.rb
  have HB28 := Lib.hid (HB27.out.trans (hb8.mono HB27.out.size))
  have HC0 := Lib.hid ((hb8.cell (p := ⟨w6.heap.size, 0, none⟩) hszW).trans HBx0.out); have HC1 := Lib.hid ((hb8.cell (p := ⟨w6.heap.size, 1, none⟩) hszW).trans HBx1.out)
  clear hown8 hb8 HBx0 HBx1
  go_upto_region 10 with fail
  obtain ⟨Z, hZ⟩ : ∃ Z, Z = w8.alloc (.cells #[.string ⟨K.toArray⟩, .string ⟨V.toArray⟩] 35) := ⟨_, rfl⟩
  rw [← hZ]
  have hbZ : Below w8.heap.size w8 Z := by rw [hZ]; exact (Below.refl _ _).alloc (Nat.le_refl _) _
  have hzZ := hbZ.size
  have d0 : Z.cell? ⟨w8.heap.size, 0, none⟩ = some (.string ⟨K.toArray⟩) := by rw [hZ]; simp
  have d1 : Z.cell? ⟨w8.heap.size, 1, none⟩ = some (.string ⟨V.toArray⟩) := by rw [hZ]; simp
  have d2 : Z.cell? ⟨w6.heap.size, 0, none⟩ = some (.string ⟨K.toArray⟩) := (hbZ.cell (p := ⟨w6.heap.size, 0, none⟩) (Nat.lt_of_lt_of_le hszW hz8)).trans HC0.out
  have d3 : Z.cell? ⟨w6.heap.size, 1, none⟩ = some (.string ⟨V.toArray⟩) := (hbZ.cell (p := ⟨w6.heap.size, 1, none⟩) (Nat.lt_of_lt_of_le hszW hz8)).trans HC1.out
  have v1 := bty.conv (Hx8.out.below hbZ)
  have v2 := bty.conv (Hy8.out.below hbZ)
  have v3 := bty.conv (Hu8.out.below hbZ)
  have v4 := bty.conv (Hv8.out.below hbZ)
  have v5 := bty.conv (Hp8.out.below hbZ)
  have v6 := bty.conv (Hq8.out.below hbZ)
  have HB2Z := Lib.hid (HB28.out.trans (hbZ.mono HB28.out.size))
  have HownZ := Lib.hid (Hown2.out.keep HB2Z.out)
  have HB1Z := Lib.hid (HB12.out.trans (HB2Z.out.mono hz2))
  clear hZ hbZ
  go_wp2
  clear d0 d1 d2 d3 v1 v2 v3 v4 v5 v6
  go_loopw [25] (fun i wr => FillRel1 5 w1.heap.size A2 c2 X.length Z i wr) (fun i _ => X.length - (intOf i).toNat)
  case atStart => exact ⟨0, X, rfl, by omega, rfl, HownZ.out, Below.refl _ _⟩
  case round =>
    obtain ⟨j, l', rfl, hj, hl', hownR, hbR⟩ := hrel
    by_cases hlt : j < X.length
    · obtain ⟨g, rfl, hg1, hg2, hfz, ⟨v0, hcell⟩, hown'⟩ := hownR.put_ (k := j) (by omega) 1
      have Hl' := Lib.hid hl'; have Hown' := Lib.hid hown'; clear hl' hownR hown'
      go_wp2
      go_roundw
      case rel => exact ⟨j + 1, l'.set j 1, by go_num, by omega, by rw [List.length_set]; exact Hl'.out, Hown'.out, hbR.setCell hg1 _⟩
      case measure => simp [intOf]; omega
    · have HB1r := Lib.hid (HB1Z.out.trans hbR)
      clear hownR hl' hbR
      have hzr := HB1r.out.size
      go_wp2_with fail
      refine (alive_c _).mono ?_
      rintro e w9 ⟨rfl, hb9⟩
      have hb19 := HB1r.out.trans (hb9.mono hzr)
      have cvo := bty.conv (Hr1.out.below hb19)
      have cvb := bty.conv (Hb1.out.below hb19)
      have Hb19 := Lib.hid hb19; clear hb19 hb9
      go_wp2
      go_ret
      exact ⟨by simp, HB01.out.trans (Hb19.out.mono hz1)⟩

theorem varintTakes_walk (A : Option Addr) (n c : Nat) (l : List UInt8) (k : Int) (w : World) (hr : Rb w w.heap.size A n c l) (hk : I64 k) :
    Calls Try.prog 4 #[.slice A n c, .int .i64 k] w fun e w' => e = .returned (.bool true) ∧ Below w.heap.size w w' := by
  by_cases h : 3000 < n
  · exact varintTakes_long A n c k w h (Nat.le_trans hr.2.1 hr.2.2.1)
  · exact varintTakes_short A n c l k w hr (by omega) hk
end Go.Proofs.Ytcmagegcolcalaa
