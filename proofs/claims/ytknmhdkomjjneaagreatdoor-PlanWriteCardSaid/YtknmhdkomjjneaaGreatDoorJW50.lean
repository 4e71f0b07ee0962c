/-
  Joined: QC.
-/
import Derived.Test.YtknmhdkomjjneaaGreatDoorJW49
import Derived.Test.YtknmhdkomjjneaaGreatDoorJW28
import Derived.BigQuiet
import Derived.Deep.QuietTactic
/-
  The document's Write: what the call returns and leaves.
-/
namespace Go.Proofs.YtknmhdkomjjneaaGreatDoor.Bun
open Go.RowKit
theorem _root_.Go.Proofs.YtknmhdkomjjneaaGreatDoor.Own.apart_keep {w w' : World} {e : TypeId} {base c : Nat} {A D D' : Option Addr} {l : List UInt8} (h : Own w e base A c l) (hg : Grows w w' D D') (hne : ob A = none ∨ ob A ≠ ob D) : Own w' e base A c l :=
  Oc.other (z := 1) h fun g hA => hg.heap g (own_ob h g (by rw [hA]; rfl)).2 (by
    rcases hne with h1 | h1
    · rw [hA] at h1; cases h1
    · intro q; exact h1 (by rw [hA]; exact q))
theorem own_new {w w' : World} {e : TypeId} {base B c d : Nat} {A D : Option Addr} {l r : List UInt8} (h : Own w' e B A c l) (hD : Own w e base D d r) (hB : w.heap.size ≤ B) : ob A = none ∨ ob A ≠ ob D := by
  cases hA : ob A with
  | none => exact .inl rfl
  | some g =>
    refine .inr fun q => ?_
    have h1 := (own_ob h g hA).1
    have h2 := (own_ob hD g q.symm).2
    omega
theorem own_apart_next {w w' : World} {e : TypeId} {base c : Nat} {A D D' : Option Addr} {l : List UInt8} (h : Own w e base A c l) (hg : Grows w w' D D') (hne : ob A = none ∨ ob A ≠ ob D) : ob A = none ∨ ob A ≠ ob D' := by
  rcases hne with h1 | h1
  · exact .inl h1
  · refine .inr fun q => ?_
    rcases hg.2 with h2 | ⟨k, h2, h3⟩
    · exact h1 (q.trans h2)
    · have := (own_ob h k (q.trans h2)).2; omega
def Prev (l : List Bm.Rec) (j : Nat) (N : List UInt8) : Prop := (j = 0 ∧ N = []) ∨ (0 < j ∧ ∃ p, l[j - 1]? = some [N, p])
def RwRel (base n : Nat) (w : World) (l : List Bm.Rec) (o1 o2 i : Value) (wr : World) : Prop :=
  ∃ A c M D d X N, ∃ j : Nat, o1 = .slice A (List.length M) c ∧ o2 = .slice D (List.length X) d ∧ i = .int .i64 (j : Int) ∧ j ≤ n ∧ Own wr 5 base A c M ∧ Own wr 5 base D d X ∧ (ob A = none ∨ ob A ≠ ob D) ∧
    M = Vm.vb n ++ ((l.take j).map Bm.ew).flatten ∧ X = Bm.body (l.take j) ∧ M.length ≤ 3 + 106 * j ∧ X.length ≤ 1004 * j ∧ Bm.MB l j N ∧ Prev l j N ∧ Below base w wr

set_option maxRecDepth 100000 in
set_option maxHeartbeats 8000000 in
theorem rwrite_c (A : Option Addr) (n c : Nat) (l : List Bm.Rec) (w : World) (hr : RL w w.heap.size A n c l) (hz : ∀ r ∈ l, ∀ q ∈ r, q.length ≤ 140737488355328) (hn : n ≤ 1000) (L : List UInt8) (x : Nat) (hL : Bm.wrS l = (L, x)) (k : Nat) (hk : L.length = k) :
    Calls Tryz.prog 53 #[.slice A n c] w fun e w' => ∃ A c, e = .returned (.tuple #[.slice A k c, .int .i64 (x : Int)]) ∧ (Own w' 5 w.heap.size A c L ∧ L.length = k) ∧ Below w.heap.size w w' := by
  have hl := hr.len
  have hno : Bm.mayB [] l = false → k = 0 ∧ x = 10 ∧ L = [] := fun h => by
    rw [Bm.wrS_not h] at hL
    injection hL with h1 h2
    subst h1 h2
    exact ⟨hk.symm, rfl, rfl⟩
  have hyes : Bm.mayB [] l = true → x = 0 ∧ L = Bm.wr l := fun h => by
    rw [Bm.wrS_ok (by omega) h] at hL
    injection hL with h1 h2
    exact ⟨h2.symm, h1.symm⟩
  have hput0 := rput_c none 0 0 [] n w (Rb.nil _ _) (by omega) (by omega)
  rw [List.nil_append] at hput0
  have hv3 := Bm.vb3 n (by omega)
  have Hr := Lib.hid hr; have Hl := Lib.hid hl; have Hz := Lib.hid hz; have Hno := Lib.hid hno; have Hyes := Lib.hid hyes; have Hput0 := Lib.hid hput0; have Hk := Lib.hid hk
  clear hr hl hz hno hyes hput0 hk hL
  go_enter Tryz.func53, Tryz.ntmps53
  go_wp2_with fail
  refine Hput0.out.mono ?_
  rintro e w1 ⟨A1, c1, rfl, hown1, hb1⟩
  have z1 := hb1.size
  have Hown1 := Lib.hid hown1; clear hown1
  go_wp2
  go_loopw [4, 5, 6] (fun o1 o2 i wr => RwRel w.heap.size n w l o1 o2 i wr) (fun _ _ i _ => n - (intOf i).toNat)
  case atStart =>
    refine ⟨A1, c1, Vm.vb n, some ⟨w1.heap.size, 0, none⟩, 0, [], [], 0, rfl, rfl, rfl, Nat.zero_le _, Hown1.out.alloc _, (Own.made0 w1 _).mono z1, ?_, by simp, by simp [Bm.body], by omega, by simp, Bm.MB.start l, .inl ⟨rfl, rfl⟩, hb1.alloc z1 _⟩
    cases hA : ob A1 with
    | none => exact .inl rfl
    | some g => exact .inr fun q => by have := (own_ob Hown1.out g hA).2; injection q with q; have q2 : g = w1.heap.size := q; omega
  case round =>
    obtain ⟨A3, c3, M, D3, d3, X, N, j, rfl, rfl, rfl, hj, hown, hownX, hap, hM, hX, hMl, hXl, hmb, hprev, hbel⟩ := hrel
    have zr := hbel.size
    by_cases hlt : j < n
    · obtain ⟨b, off, D, m, d, r, hEA, hb, hcell, hx, _, hrec⟩ := (Hr.out.below hbel).at_ hlt
      subst hEA
      have hrl := lvs_num hrec
      by_cases hm : m = 2
      · subst hm
        obtain ⟨b2, off2, s, rfl, hb2, hc2, hx2, _⟩ := lvs_at hrec (k := 0) (by omega)
        obtain ⟨b3, off3, y, hE, hb3, hc3, hx3, _⟩ := lvs_at hrec (k := 1) (by omega)
        injection hE with hE
        injection hE with h1 h2 _
        subst h1 h2
        rw [Nat.add_zero] at hc2
        obtain rfl : r = [s, y] := by
          match r, hrl, hx2, hx3 with
          | [p, q], _, hx2, hx3 => simp at hx2 hx3; rw [hx2, hx3]
        by_cases hs1 : s.length < 1
        · have hs0 : s = [] := List.eq_nil_of_length_eq_zero (by omega)
          obtain ⟨rfl, rfl, rfl⟩ := Hno.out (hmb.bad hx (by rw [Bm.okr_two, hs0, Bm.less_nil]; rfl))
          have d1 : decide ((s.length : Int) < 1) = true := by simp; omega
          have Hbel := Lib.hid hbel
          clear hown hownX hap hM hX hmb hprev hx hrec hrl hx2 hx3 hs0
          go_wp2_with fail
          go_quiet (fail)
          go_wp2
          go_ret2
          exact ⟨none, 0, rfl, ⟨Own.nil _ _ _, rfl⟩, below_drewN Hbel.out _⟩
        · have d1 : decide ((s.length : Int) < 1) = false := by simp; omega
          by_cases hs2 : 100 < s.length
          · obtain ⟨rfl, rfl, rfl⟩ := Hno.out (hmb.bad hx (by rw [Bm.okr_two, decide_eq_false (by omega : ¬ s.length ≤ 100)]; simp))
            have d2 : decide ((100 : Int) < (s.length : Int)) = true := by simp; omega
            have Hbel := Lib.hid hbel
            clear hown hownX hap hM hX hmb hprev hx hrec hrl hx2 hx3
            go_wp2_with fail
            go_quiet (fail)
            go_wp2
            go_ret2
            exact ⟨none, 0, rfl, ⟨Own.nil _ _ _, rfl⟩, below_drewN Hbel.out _⟩
          · have d2 : decide ((100 : Int) < (s.length : Int)) = false := by simp; omega
            by_cases hy1 : 1000 < y.length
            · obtain ⟨rfl, rfl, rfl⟩ := Hno.out (hmb.bad hx (by rw [Bm.okr_two, decide_eq_false (by omega : ¬ y.length ≤ 1000)]; simp))
              have hyz := Hz.out _ (List.mem_of_getElem? hx) y (by simp)
              have d3 : decide ((1000 : Int) < (y.length : Int)) = true := by simp; omega
              have Hbel := Lib.hid hbel
              clear hown hownX hap hM hX hmb hprev hx hrec hrl hx2 hx3
              go_wp2_with fail
              go_quiet (fail)
              go_wp2
              go_ret2
              exact ⟨none, 0, rfl, ⟨Own.nil _ _ _, rfl⟩, below_drewN Hbel.out _⟩
            · have d3 : decide ((1000 : Int) < (y.length : Int)) = false := by simp; omega
              have hyz := Hz.out _ (List.mem_of_getElem? hx) y (by simp)
              rcases hprev with ⟨hj0, hN0⟩ | ⟨hjp, p, hpr⟩
              · subst hj0 hN0
                have hls : Op.bytesLess [] s = true := by rw [Bm.nil_less, decide_eq_true (by omega)]
                rw [Nat.add_zero] at hcell
                have hfr := fun W (hW : Rb W W.heap.size A3 M.length c3 M) => rframe_c A3 M.length c3 M ⟨s.toArray⟩ W hW (by omega) (by show s.length ≤ _; omega)
                rw [fr_eq] at hfr
                obtain ⟨M2, hM2⟩ : ∃ M2, M ++ (Vm.vb s.length ++ s) = M2 := ⟨_, rfl⟩
                rw [hM2] at hfr
                have hM2l : M2.length ≤ M.length + 103 := by rw [← hM2]; simp only [List.length_append]; have := Bm.vb3 s.length (by omega); omega
                obtain ⟨yl, hyl⟩ : ∃ yl, y.length = yl := ⟨_, rfl⟩
                have ew : IntKind.u64.wrap (y.length : Int) = (yl : Int) := by rw [hyl, IntKind.wrap_u64]; omega
                have hpt := fun A4 c4 W (hW : Rb W W.heap.size A4 M2.length c4 M2) => rput_c A4 M2.length c4 M2 yl W hW (by omega) (by omega)
                obtain ⟨M3, hM3⟩ : ∃ M3, M2 ++ Vm.vb yl = M3 := ⟨_, rfl⟩
                rw [hM3] at hpt
                have hM3l : M3.length ≤ 3 + 106 * (0 + 1) := by rw [← hM3, List.length_append]; have := Bm.vb3 yl (by omega); omega
                have hsd := fun A5 c5 W (hW : Rb W W.heap.size A5 yl c5 y) => rsealed_c A5 yl c5 y W hW (by omega)
                obtain ⟨Y, hY⟩ : ∃ Y, Y = Bm.sl y := ⟨_, rfl⟩
                rw [show y ++ Cm.four (Cm.sum Cm.tab y) = Y from hY.symm] at hsd
                have hYl : Y.length = yl + 4 := by rw [hY, Bm.sl_len, hyl]
                obtain ⟨X2, hX2⟩ : ∃ X2, X ++ Y = X2 := ⟨_, rfl⟩
                have hX2l : X2.length ≤ 1004 * (0 + 1) := by rw [← hX2, List.length_append]; omega
                have hfM : M3 = Vm.vb n ++ ((l.take (0 + 1)).map Bm.ew).flatten := by
                  rw [Bm.ents_next l 0 _ hx, ← hM3, ← hM2, hM, Bm.ew, hyl]
                  simp only [List.append_assoc]
                have hfX : X2 = Bm.body (l.take (0 + 1)) := by rw [Bm.body_next l 0 _ hx, ← hX2, hX, hY, Bm.bw]
                have hst := hmb.step hx (by rw [Bm.okr_two, hls, decide_eq_true (by omega : s.length ≤ 100), decide_eq_true (by omega : y.length ≤ 1000)]; rfl)
                have hpv : Prev l (0 + 1) s := .inr ⟨by omega, y, by rw [Nat.add_sub_cancel]; exact hx⟩
                have Hfr := Lib.hid hfr; have Hpt := Lib.hid hpt; have Hsd := Lib.hid hsd; have HX2 := Lib.hid hX2; have HfM := Lib.hid hfM; have HfX := Lib.hid hfX; have Hst := Lib.hid hst; have Hpv := Lib.hid hpv; have Hown := Lib.hid hown; have HownX := Lib.hid hownX; have Hyl := Lib.hid hyl; have HM3l := Lib.hid hM3l; have HX2l := Lib.hid hX2l; have HYl := Lib.hid hYl
                clear hfr hpt hsd hM2 hM3 hX2 hfM hfX hst hpv hown hownX hap hM hX hmb hx hrec hrl hx2 hx3 hY hyl hM3l hX2l hYl
                go_wp2_with fail
                go_quiet (fail)
                go_wp2_with fail
                refine (Hfr.out _ (Hown.out.rb.drewN _)).mono ?_
                rintro e w4 ⟨A4, c4, rfl, hown4, hb4'⟩
                have hb4 : Below wr.heap.size wr w4 := ⟨hb4'.os, hb4'.tape, hb4'.output, hb4'.size, hb4'.block⟩
                have z4 := hb4.size
                have ownX4 := HownX.out.keep hb4
                have bw4 := hbel.trans (hb4.mono zr)
                have d2' := (hb4.cell (p := ⟨b2, off2 + 1, none⟩) (by show b2 < _; omega)).trans hc3
                have Hown4 := Lib.hid hown4; have HownX4 := Lib.hid ownX4
                clear hown4 ownX4 hc2 hc3 hb4'
                go_wp2_with fail
                refine (Hpt.out A4 c4 w4 Hown4.out.rb).mono ?_
                rintro e w5 ⟨A5, c5, rfl, hown5, hb5⟩
                have z5 := hb5.size
                have ownX5 := HownX4.out.keep hb5
                have bw5 := bw4.trans (hb5.mono (by omega))
                have hap5 := own_new hown5 HownX4.out (Nat.le_refl _)
                have d3' := (hb5.cell (p := ⟨b2, off2 + 1, none⟩) (by show b2 < _; omega)).trans d2'
                obtain ⟨cc, w6, hcv, hr6, b6⟩ := conv_bytes w5 ⟨y.toArray⟩ (by show y.length ≤ _; omega)
                have z6 := b6.size
                have hr6' : Rb w6 w6.heap.size (some ⟨w5.heap.size, 0, none⟩) yl cc y := by rw [← Hyl.out]; exact hr6
                have hcv' : (convert 9 22 (.string ⟨y.toArray⟩)).run Tryz.prog w5 = .ok (.slice (some ⟨w5.heap.size, 0, none⟩) yl cc) w6 := by rw [← Hyl.out]; exact hcv
                have own6 := hown5.keep b6
                have ownX6 := ownX5.keep b6
                have Hr6 := Lib.hid hr6'; have Own6 := Lib.hid own6; have OwnX6 := Lib.hid ownX6; have Hap5 := Lib.hid hap5
                clear hcv hr6 hr6' own6 ownX6 hap5 hown5 ownX5 d2'
                go_wp2_with fail
                refine (Hsd.out _ cc w6 Hr6.out).mono ?_
                rintro e w7 ⟨A7, c7, rfl, hown7, hb7⟩
                have z7 := hb7.size
                have own7 := Own6.out.keep hb7
                have ownX7 := OwnX6.out.keep hb7
                have bw7 := (bw5.trans (b6.mono (by omega))).trans (hb7.mono (by omega))
                have HY7 := Lib.hid hown7.rb; have Own7 := Lib.hid own7; have OwnX7 := Lib.hid ownX7
                clear hown7 own7 ownX7 hcv' d3'
                go_wp2_with (at_builtin; go_must (refine bty.wpAppTo rfl (.tmp 81) (.tmp 86) rfl (l := X) (r := Y) (N := X2) rfl rfl OwnX7.out HY7.out HX2.out ?hs1 ?hs2 ?_))
                case hs1 => have := HX2l.out; omega
                case hs2 => omega
                intro A8 c8 w8 hown8 hg8
                have bw8 := bw7.trans (hg8.below OwnX7.out (by omega))
                have own8 := (Own7.out.apart_keep hg8 Hap5.out).mono (base' := w.heap.size) (by omega)
                have hap8 := own_apart_next Own7.out hg8 Hap5.out
                have HownX8 := Lib.hid hown8; have Hown8 := Lib.hid own8; have Hap8 := Lib.hid hap8
                clear hown8 hg8 own8 hap8
                go_wp2
                go_roundw
                case rel => exact ⟨A5, c5, M3, A8, c8, X2, s, 0 + 1, rfl, rfl, by go_num, hlt, Hown8.out, HownX8.out, Hap8.out, HfM.out, HfX.out, HM3l.out, HX2l.out, Hst.out, Hpv.out, bw8⟩
                case measure => simp [intOf]; omega
              · obtain ⟨b', off', D', m', d', r', hEA', hb', hcell', hxp, _, hrec'⟩ := (Hr.out.below hbel).at_ (k := j - 1) (by omega)
                injection hEA' with hEA'
                injection hEA' with h1 h2 _
                subst h1 h2
                rw [hpr] at hxp
                injection hxp with hxp
                subst hxp
                obtain rfl : m' = 2 := (lvs_num hrec').symm
                obtain ⟨b4, off4, N', rfl, hb4, hc4, hx4, _⟩ := lvs_at hrec' (k := 0) (by omega)
                obtain rfl : N = N' := by simpa using hx4
                rw [Nat.add_zero] at hc4
                obtain ⟨jp, hjp2⟩ : ∃ jp, jp = j - 1 := ⟨_, rfl⟩
                rw [← hjp2] at hcell'
                have q1 : (j : Int) - 1 = (jp : Int) := by omega
                have q2 : IntKind.i64.wrap ((j : Int) - 1) = (jp : Int) := by rw [q1]; exact IntWalk.i64_in _ (by omega)
                have q3 : jp < n := by omega
                have d4 : decide ((0 : Int) < (j : Int)) = true := by simp; omega
                cases hls : Op.bytesLess N s with
                | false =>
                  obtain ⟨rfl, rfl, rfl⟩ := Hno.out (hmb.bad hx (by rw [Bm.okr_two, hls]; rfl))
                  have Hbel := Lib.hid hbel
                  clear hown hownX hap hM hX hmb hx hrec hrl hx2 hx3 hpr hrec' hx4 hjp2
                  go_wp2_with fail
                  go_quiet (fail)
                  go_wp2
                  go_ret2
                  exact ⟨none, 0, rfl, ⟨Own.nil _ _ _, rfl⟩, below_drewN Hbel.out _⟩
                | true =>
                  have hprev : True := trivial
                  have hfr := fun W (hW : Rb W W.heap.size A3 M.length c3 M) => rframe_c A3 M.length c3 M ⟨s.toArray⟩ W hW (by omega) (by show s.length ≤ _; omega)
                  rw [fr_eq] at hfr
                  obtain ⟨M2, hM2⟩ : ∃ M2, M ++ (Vm.vb s.length ++ s) = M2 := ⟨_, rfl⟩
                  rw [hM2] at hfr
                  have hM2l : M2.length ≤ M.length + 103 := by rw [← hM2]; simp only [List.length_append]; have := Bm.vb3 s.length (by omega); omega
                  obtain ⟨yl, hyl⟩ : ∃ yl, y.length = yl := ⟨_, rfl⟩
                  have ew : IntKind.u64.wrap (y.length : Int) = (yl : Int) := by rw [hyl, IntKind.wrap_u64]; omega
                  have hpt := fun A4 c4 W (hW : Rb W W.heap.size A4 M2.length c4 M2) => rput_c A4 M2.length c4 M2 yl W hW (by omega) (by omega)
                  obtain ⟨M3, hM3⟩ : ∃ M3, M2 ++ Vm.vb yl = M3 := ⟨_, rfl⟩
                  rw [hM3] at hpt
                  have hM3l : M3.length ≤ 3 + 106 * (j + 1) := by rw [← hM3, List.length_append]; have := Bm.vb3 yl (by omega); omega
                  have hsd := fun A5 c5 W (hW : Rb W W.heap.size A5 yl c5 y) => rsealed_c A5 yl c5 y W hW (by omega)
                  obtain ⟨Y, hY⟩ : ∃ Y, Y = Bm.sl y := ⟨_, rfl⟩
                  rw [show y ++ Cm.four (Cm.sum Cm.tab y) = Y from hY.symm] at hsd
                  have hYl : Y.length = yl + 4 := by rw [hY, Bm.sl_len, hyl]
                  obtain ⟨X2, hX2⟩ : ∃ X2, X ++ Y = X2 := ⟨_, rfl⟩
                  have hX2l : X2.length ≤ 1004 * (j + 1) := by rw [← hX2, List.length_append]; omega
                  have hfM : M3 = Vm.vb n ++ ((l.take (j + 1)).map Bm.ew).flatten := by
                    rw [Bm.ents_next l j _ hx, ← hM3, ← hM2, hM, Bm.ew, hyl]
                    simp only [List.append_assoc]
                  have hfX : X2 = Bm.body (l.take (j + 1)) := by rw [Bm.body_next l j _ hx, ← hX2, hX, hY, Bm.bw]
                  have hst := hmb.step hx (by rw [Bm.okr_two, hls, decide_eq_true (by omega : s.length ≤ 100), decide_eq_true (by omega : y.length ≤ 1000)]; rfl)
                  have hpv : Prev l (j + 1) s := .inr ⟨by omega, y, by rw [Nat.add_sub_cancel]; exact hx⟩
                  have Hfr := Lib.hid hfr; have Hpt := Lib.hid hpt; have Hsd := Lib.hid hsd; have HX2 := Lib.hid hX2; have HfM := Lib.hid hfM; have HfX := Lib.hid hfX; have Hst := Lib.hid hst; have Hpv := Lib.hid hpv; have Hown := Lib.hid hown; have HownX := Lib.hid hownX; have Hyl := Lib.hid hyl; have HM3l := Lib.hid hM3l; have HX2l := Lib.hid hX2l; have HYl := Lib.hid hYl
                  clear hfr hpt hsd hM2 hM3 hX2 hfM hfX hst hpv hown hownX hap hM hX hmb hprev hx hrec hrl hx2 hx3 hY hyl hM3l hX2l hYl hpr hrec' hx4 hjp2
                  go_wp2_with fail
                  go_quiet (fail)
                  go_wp2_with fail
                  refine (Hfr.out _ (Hown.out.rb.drewN _)).mono ?_
                  rintro e w4 ⟨A4, c4, rfl, hown4, hb4'⟩
                  have hb4 : Below wr.heap.size wr w4 := ⟨hb4'.os, hb4'.tape, hb4'.output, hb4'.size, hb4'.block⟩
                  have z4 := hb4.size
                  have ownX4 := HownX.out.keep hb4
                  have bw4 := hbel.trans (hb4.mono zr)
                  have d2' := (hb4.cell (p := ⟨b2, off2 + 1, none⟩) (by show b2 < _; omega)).trans hc3
                  have Hown4 := Lib.hid hown4; have HownX4 := Lib.hid ownX4
                  clear hown4 ownX4 hc2 hc3 hb4'
                  go_wp2_with fail
                  refine (Hpt.out A4 c4 w4 Hown4.out.rb).mono ?_
                  rintro e w5 ⟨A5, c5, rfl, hown5, hb5⟩
                  have z5 := hb5.size
                  have ownX5 := HownX4.out.keep hb5
                  have bw5 := bw4.trans (hb5.mono (by omega))
                  have hap5 := own_new hown5 HownX4.out (Nat.le_refl _)
                  have d3' := (hb5.cell (p := ⟨b2, off2 + 1, none⟩) (by show b2 < _; omega)).trans d2'
                  obtain ⟨cc, w6, hcv, hr6, b6⟩ := conv_bytes w5 ⟨y.toArray⟩ (by show y.length ≤ _; omega)
                  have z6 := b6.size
                  have hr6' : Rb w6 w6.heap.size (some ⟨w5.heap.size, 0, none⟩) yl cc y := by rw [← Hyl.out]; exact hr6
                  have hcv' : (convert 9 22 (.string ⟨y.toArray⟩)).run Tryz.prog w5 = .ok (.slice (some ⟨w5.heap.size, 0, none⟩) yl cc) w6 := by rw [← Hyl.out]; exact hcv
                  have own6 := hown5.keep b6
                  have ownX6 := ownX5.keep b6
                  have Hr6 := Lib.hid hr6'; have Own6 := Lib.hid own6; have OwnX6 := Lib.hid ownX6; have Hap5 := Lib.hid hap5
                  clear hcv hr6 hr6' own6 ownX6 hap5 hown5 ownX5 d2'
                  go_wp2_with fail
                  refine (Hsd.out _ cc w6 Hr6.out).mono ?_
                  rintro e w7 ⟨A7, c7, rfl, hown7, hb7⟩
                  have z7 := hb7.size
                  have own7 := Own6.out.keep hb7
                  have ownX7 := OwnX6.out.keep hb7
                  have bw7 := (bw5.trans (b6.mono (by omega))).trans (hb7.mono (by omega))
                  have HY7 := Lib.hid hown7.rb; have Own7 := Lib.hid own7; have OwnX7 := Lib.hid ownX7
                  clear hown7 own7 ownX7 hcv' d3'
                  go_wp2_with (at_builtin; go_must (refine bty.wpAppTo rfl (.tmp 81) (.tmp 86) rfl (l := X) (r := Y) (N := X2) rfl rfl OwnX7.out HY7.out HX2.out ?hs1 ?hs2 ?_))
                  case hs1 => have := HX2l.out; omega
                  case hs2 => omega
                  intro A8 c8 w8 hown8 hg8
                  have bw8 := bw7.trans (hg8.below OwnX7.out (by omega))
                  have own8 := (Own7.out.apart_keep hg8 Hap5.out).mono (base' := w.heap.size) (by omega)
                  have hap8 := own_apart_next Own7.out hg8 Hap5.out
                  have HownX8 := Lib.hid hown8; have Hown8 := Lib.hid own8; have Hap8 := Lib.hid hap8
                  clear hown8 hg8 own8 hap8
                  go_wp2
                  go_roundw
                  case rel => exact ⟨A5, c5, M3, A8, c8, X2, s, j + 1, rfl, rfl, by go_num, hlt, Hown8.out, HownX8.out, Hap8.out, HfM.out, HfX.out, HM3l.out, HX2l.out, Hst.out, Hpv.out, bw8⟩
                  case measure => simp [intOf]; omega
      · obtain ⟨rfl, rfl, rfl⟩ := Hno.out (hmb.bad hx (Bm.okr_len (by omega)))
        have hm9 : m ≤ 9223372036854775807 := by have h2 := hrec.2.1; have h3 := hrec.2.2.1; unfold maxLen at h3; omega
        have dm : ((m : Int) != 2) = true := by simp; omega
        have Hbel := Lib.hid hbel
        clear hown hownX hap hM hX hmb hprev hx hrec hrl
        go_wp2_with fail
        go_quiet (fail)
        go_wp2
        go_ret2
        exact ⟨none, 0, rfl, ⟨Own.nil _ _ _, rfl⟩, below_drewN Hbel.out _⟩
    · have hjn : j = n := by omega
      subst hjn
      have htk : l.take j = l := List.take_of_length_le (by rw [Hl.out]; exact Nat.le_refl _)
      have hmay := hmb.end_ (by rw [Hl.out]; exact Nat.le_refl _)
      obtain ⟨rfl, hLw⟩ := Hyes.out hmay
      rw [htk] at hM hX
      have hMe : M = Bm.ents l := by unfold Bm.ents; rw [Hl.out]; exact hM
      have hsd := fun W (hW : Rb W W.heap.size A3 M.length c3 M) => rsealed_c A3 M.length c3 M W hW (by omega)
      obtain ⟨S, hS⟩ : ∃ S, S = Bm.sl M := ⟨_, rfl⟩
      rw [show M ++ Cm.four (Cm.sum Cm.tab M) = S from hS.symm] at hsd
      obtain ⟨sl, hsl⟩ : ∃ sl, S.length = sl := ⟨_, rfl⟩
      have hSl : sl = M.length + 4 := by rw [← hsl, hS, Bm.sl_len]
      have hput := fun W => rput_c none 0 0 [] sl W (Rb.nil _ _) (by omega) (by omega)
      rw [List.nil_append] at hput
      obtain ⟨V, hV⟩ : ∃ V, V = Vm.vb sl := ⟨_, rfl⟩
      rw [← hV] at hput
      have hVl : V.length ≤ 3 := by rw [hV]; exact Bm.vb3 sl (by omega)
      obtain ⟨H, hH⟩ : ∃ H, V ++ S = H := ⟨_, rfl⟩
      have hHl : H.length ≤ 200000 := by rw [← hH, List.length_append]; omega
      have hfin : H ++ X = L := by rw [hLw, Bm.wr, ← hMe, ← hS, hsl, ← hV, hH, hX]
      have hLl : L.length ≤ 2000000 := by rw [← hfin, List.length_append]; omega
      have ew : IntKind.u64.wrap (S.length : Int) = (sl : Int) := by rw [hsl, IntKind.wrap_u64]; omega
      have Hsd := Lib.hid hsd; have Hput := Lib.hid hput; have HH := Lib.hid hH; have Hfin := Lib.hid hfin; have Hown := Lib.hid hown; have HownX := Lib.hid hownX
      clear hsd hput hH hfin hown hownX hap hM hX hMe hmb hprev hS hV htk hmay hLw hsl hSl
      go_wp2_with fail
      refine (Hsd.out wr Hown.out.rb).mono ?_
      rintro e w4 ⟨A4, c4, rfl, hown4, hb4⟩
      have z4 := hb4.size
      have ownX4 := HownX.out.keep hb4
      have Hown4 := Lib.hid hown4; have HownX4 := Lib.hid ownX4
      clear hown4 ownX4
      go_wp2_with fail
      refine (Hput.out w4).mono ?_
      rintro e w5 ⟨A5, c5, rfl, hown5, hb5⟩
      have z5 := hb5.size
      have own5 := Hown4.out.keep hb5
      have ownX5 := HownX4.out.keep hb5
      have hapS := own_new hown5 Hown4.out (Nat.le_refl _)
      have hapX := own_new hown5 HownX4.out (Nat.le_refl _)
      have bw5 := (hbel.trans (hb4.mono zr)).trans (hb5.mono (by omega))
      have HS5 := Lib.hid own5.rb; have Hown5 := Lib.hid hown5; have HownX5 := Lib.hid ownX5; have HapX := Lib.hid hapX
      clear own5 hown5 ownX5 hapX hapS
      go_wp2_with (at_builtin; go_must (refine bty.wpAppTo rfl (.tmp 94) (.tmp 95) rfl (l := V) (r := S) (N := H) rfl rfl Hown5.out HS5.out HH.out ?hs1 ?hs2 ?_))
      case hs1 => omega
      case hs2 => omega
      intro A6 c6 w6 hown6 hg6
      have hb6 := hg6.below Hown5.out (by omega)
      have hneX : ob D3 = none ∨ ob D3 ≠ ob A5 := by
        rcases HapX.out with h1 | h1
        · cases hD : ob D3 with
          | none => exact .inl rfl
          | some g => exact .inr (by rw [h1]; exact fun q => by cases q)
        · exact .inr fun q => h1 q.symm
      have ownX6 := HownX5.out.apart_keep hg6 hneX
      have bw6 := bw5.trans (hb6.mono (by omega))
      have z6 := hg6.size
      have Hown6 := Lib.hid hown6; have HX6 := Lib.hid ownX6.rb
      clear hown6 hg6 ownX6 hneX
      go_wp2_with (at_builtin; go_must (refine bty.wpAppTo rfl (.tmp 97) (.tmp 98) rfl (l := H) (r := X) (N := L) rfl rfl Hown6.out HX6.out Hfin.out ?hs1 ?hs2 ?_))
      case hs1 => omega
      case hs2 => omega
      intro A7 c7 w7 hown7 hg7
      have bw7 := bw6.trans ((hg7.below Hown6.out (by omega)).mono (by omega))
      have Hown7 := Lib.hid (hown7.mono (base' := w.heap.size) (by omega))
      clear hown7 hg7
      go_wp2
      go_ret2
      exact ⟨A7, c7, by rw [← Hk.out]; rfl, ⟨Hown7.out, Hk.out⟩, bw7⟩
end Go.Proofs.YtknmhdkomjjneaaGreatDoor.Bun
