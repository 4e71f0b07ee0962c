/-
  Joined: Rm Rn.
-/
import Derived.Test.YtpdapgbamlcjjaaGreatDoorJ12
import Derived.Test.YtpdapgbamlcjjaaGreatDoorJ6
import Derived.Test.YtpdapgbamlcjjaaGreatDoorJ13
import Derived.BigQuiet
import Derived.Deep.QuietTactic
/-
  strings.(*byteStringReplacer).Replace: quotes, backslashes and line ends written as two bytes.
-/
namespace Go.Proofs.YtpdapgbamlcjjaaGreatDoor
open Go.RowKit Vl

/-- How often the first k old bytes stand in it. -/
def pc (l : List UInt8) (k : Nat) : Nat := ((olds k).map fun o => l.count o).sum
theorem pc_zero (l : List UInt8) : pc l 0 = 0 := rfl
theorem pc_three (l : List UInt8) : pc l 3 = Cd.cnt l := by unfold pc olds Cd.cnt; simp; omega
theorem olds_next {k : Nat} (hk : k < 3) : ∃ o, olds (k + 1) = olds k ++ [o] ∧ (Cd.esc o).length = 2 ∧ [([10] : List UInt8), [34], [92]][k]? = some [o] ∧ o ∈ olds 3 := by
  rcases (show k = 0 ∨ k = 1 ∨ k = 2 by omega) with rfl | rfl | rfl
  · exact ⟨10, rfl, rfl, rfl, by decide⟩
  · exact ⟨34, rfl, rfl, rfl, by decide⟩
  · exact ⟨92, rfl, rfl, rfl, by decide⟩
theorem pc_next (l : List UInt8) {k : Nat} {o : UInt8} (h : olds (k + 1) = olds k ++ [o]) : pc l (k + 1) = pc l k + l.count o := by
  unfold pc; rw [h]; simp
theorem pc_le (l : List UInt8) {k : Nat} (hk : k ≤ 3) : pc l k ≤ Cd.cnt l := by
  rw [← pc_three]
  rcases (show k = 0 ∨ k = 1 ∨ k = 2 ∨ k = 3 by omega) with rfl | rfl | rfl | rfl <;> (unfold pc olds; simp <;> omega)

theorem below_cell' {B g : Nat} {a w : World} (h : Below B a w) (k : Nat) (v : Value) (hg : B ≤ g := by exact Nat.le_refl _) : Below B a (w.setCell ⟨g, k, none⟩ v) := h.setCell hg v
def L1Rel (w : World) (n : Nat) (l : List UInt8) (s a t : Value) (wr : World) : Prop := ∃ k q : Nat, k ≤ 3 ∧ s = .int .i64 ((n + pc l k : Nat) : Int) ∧ a = .bool (decide (pc l k ≠ 0)) ∧ t = .int .i64 (k : Int) ∧ wr = w.drewN q
def L2Rel (n : Nat) (l : List UInt8) (s a t : Value) : Prop := ∃ k : Nat, k ≤ n ∧ s = .int .i64 ((n + Cd.cnt (l.take k) : Nat) : Int) ∧ a = .bool (decide (Cd.cnt (l.take k) ≠ 0)) ∧ t = .int .i64 (k : Int)
def L3Rel (w1 : World) (g n N : Nat) (l : List UInt8) (j t : Value) (wr : World) : Prop := ∃ (k : Nat) (L : List UInt8), k ≤ n ∧ L = Cd.escs (l.take k) ∧ j = .int .i64 ((L.length : Nat) : Int) ∧ t = .int .i64 (k : Int) ∧ wr.heap[g]? = some (.cells (RowZ L N).toArray 5 (0, 0)) ∧ Below g w1 wr

set_option maxRecDepth 100000 in
set_option maxHeartbeats 8000000 in
theorem repB_c (X : ByteArray) (hX : X.size ≤ 1000000) (base g : Nat) (w : World) (hB : Bsr w base g) :
    Calls Tryz.prog 155 #[.pointer (some ⟨g, 0, none⟩), .string X] w (RetV w (st (Cd.escs X.data.toList))) := by
  obtain ⟨⟨F, A, c, hK, h256, hE, hR⟩, hge⟩ := hB
  obtain ⟨l, hl⟩ : ∃ l, l = X.data.toList := ⟨_, rfl⟩
  have hln : l.length = X.size := by rw [hl]; exact str_len X
  have hXl : (ByteArray.mk l.toArray) = X := by rw [hl]
  rw [← hl]
  obtain ⟨ra, ro, hA, -, hrc⟩ := hR.2.2.2 (by omega)
  subst hA
  have q256 := hK.c 256 (by omega)
  rw [h256] at q256
  have hcn := Cd.cnt_le l
  have hlt := hK.lt
  have HK := Lib.hid hK; have HE := Lib.hid hE; have HRC := Lib.hid hrc; have Hl := Lib.hid hl; have Hln := Lib.hid hln; have HXl := Lib.hid hXl; have Hlt := Lib.hid hlt
  have enn : ∀ (A : Option Addr) (n c : Nat) (W : World), (binOp .neq 54 (.slice A n c) (.slice none 0 0)).run Tryz.prog W = .ok (.bool (!A.isNone)) W := fun A n c W => run_neq_slice_nil W 54 5 A n c Tryz.underlying54
  have hin : ∀ k (h : k < X.size), l[k]? = some (X[k]'h) := fun k h => by
    rw [hl]
    have h2 : k < X.data.toList.length := by rw [str_len]; exact h
    rw [List.getElem?_eq_getElem h2]; rfl
  have Hin := Lib.hid hin; have Henn := Lib.hid enn; have Hcn := Lib.hid hcn
  clear hK hE hrc hR hl hln hXl h256 hge hlt hin hcn
  go_enter Tryz.func155, Tryz.ntmps155
  by_cases h24 : 24 ≤ X.size
  · have d24 : decide ((24 : Int) ≤ (X.size : Int)) = true := by simp; omega
    have d24' : decide (24 ≤ X.size) = true := decide_eq_true h24
    go_wp2
    go_loopw [5, 6, 32] (fun s a t wr => L1Rel w X.size l s a t wr) (fun _ _ t _ => 3 - (intOf t).toNat)
    case atStart => exact ⟨0, 0, by omega, rfl, rfl, rfl, rfl⟩
    case round =>
      obtain ⟨k, q, hk, rfl, rfl, rfl, rfl⟩ := hrel
      by_cases hlt : k < 3
      · obtain ⟨o, ho1, ho2, ho3, ho4⟩ := olds_next hlt
        have e := HRC.out k (.string ⟨#[o]⟩) (lvs_get _ k [o] ho3)
        obtain ⟨Y, hY⟩ : ∃ Y : ByteArray, Y = ⟨#[o]⟩ := ⟨_, rfl⟩
        rw [← hY] at e
        have sY : Y.size = 1 := by rw [hY]; rfl
        have pY : 0 < Y.size := by omega
        have xY : (Y[0]'pY).toNat = o.toNat := by subst hY; rfl
        have hct := Tryz.strings_Count_one X o (w.drewN q)
        rw [← hY, ← Hl.out] at hct
        obtain ⟨nk, hnk⟩ : ∃ nk, nk = l.count o := ⟨_, rfl⟩
        have hcb : Lib.countByte l o = nk := hnk.symm
        rw [hcb] at hct
        have hp1 := pc_next l ho1
        rw [← hnk] at hp1
        have hp2 := pc_le l (show k + 1 ≤ 3 by omega)
        obtain ⟨p, hp⟩ : ∃ p, p = pc l k := ⟨_, rfl⟩
        rw [← hp] at hp1 ⊢
        have o256 := o.toNat_lt
        obtain ⟨eb, ek, he1⟩ : ∃ eb ek, F o.toNat = .slice (some ⟨eb, 0, none⟩) 2 ek := by
          rcases HE.out o with ⟨h1, -⟩ | ⟨-, b', k', h2, -⟩
          · rw [h1] at ho2; simp at ho2
          · exact ⟨b', k', h2⟩
        have qo := HK.out.c o.toNat (by omega)
        rw [he1] at qo
        have hbd : (X.size : Int) + (p : Int) + (nk : Int) ≤ 3000000 := by have := Hcn.out; have := Hln.out; omega
        have hnb : (nk : Int) ≤ 3000000 := by omega
        have HP1 := Lib.hid hp1
        have Hct := Lib.hid hct
        clear hY ho1 ho2 ho3 ho4 hct hcb hnk hp1 hp2 hp he1
        go_wp2_with fail
        refine Hct.out.mono ?_
        rintro e w' ⟨rfl, rfl⟩
        clear Hct
        by_cases h0 : nk = 0
        · subst h0
          go_wp2
          go_roundw
          case rel => exact ⟨k + 1, q, by omega, by rw [HP1.out, Nat.add_zero]; simp, by rw [HP1.out, Nat.add_zero]; simp, by go_num, rfl⟩
          case measure => simp [intOf]; omega
        · have d0 : ((nk : Int) != 0) = true := by simp; omega
          have d0' : (nk != 0) = true := by simp; omega
          have e1 : IntKind.i64.wrap ((nk : Int) * 1) = (nk : Int) := by rw [IntKind.wrap_i64]; omega
          have e2 : IntKind.i64.wrap (((X.size + p : Nat) : Int) + (nk : Int)) = ((X.size + (p + nk) : Nat) : Int) := by rw [IntKind.wrap_i64]; omega
          go_wp2
          go_quiet (fail)
          go_wp2
          go_roundw
          case rel => exact ⟨k + 1, _, by omega, by rw [HP1.out]; first | rfl | (congr 1; omega), by rw [HP1.out]; simp; omega, by go_num, rfl⟩
          case measure => simp [intOf]; omega
      · obtain rfl : k = 3 := by omega
        rw [pc_three, show ((3 : Nat) : Int) = 3 from rfl]
        obtain ⟨W, hW⟩ : ∃ W, W = w.drewN q := ⟨_, rfl⟩
        have hWb : Below w.heap.size w W := by rw [hW]; exact below_drewN (Below.refl _ _) q
        have HKW : Hid (Blk W g 257 F) := Lib.hid (by rw [hW]; exact HK.out.drewN q)
        have HEW : Hid (∀ x : UInt8, Es W (Fr base W) (F x.toNat) x) := Lib.hid (fun x => (HE.out x).keep (by rw [hW]; exact ⟨fun _ h => h, fun _ _ => rfl⟩))
        rw [← hW]
        clear hW HK HE HRC q256

        have Hwb := Lib.hid hWb
        clear hWb
        by_cases hc0 : Cd.cnt l = 0
        · have hes := Cd.escs_none l hc0
          have HES := Lib.hid hes
          have dd : decide (Cd.cnt l ≠ 0) = false := by simp [hc0]
          rw [dd]
          clear dd hes hc0
          go_wp2
          go_ret
          refine ⟨?_, Hwb.out⟩
          show Ending.returned (.string X) = .returned (st (Cd.escs l))
          rw [HES.out]
          exact congrArg (fun z => Ending.returned (.string z)) HXl.out.symm
        · have hlen := Cd.escs_cnt l
          have hN2 := Cd.cnt_le l
          obtain ⟨N, hN⟩ : ∃ N, N = X.size + Cd.cnt l := ⟨_, rfl⟩
          have hNl : (Cd.escs l).length = N := by rw [hlen, Hln.out, hN]
          have hNb : N ≤ 2000000 := by have := Hln.out; omega
          have dd : decide (Cd.cnt l ≠ 0) = true := by simp [hc0]
          rw [dd, ← hN]
          have hmk := bty.make W N (N : Int) (N : Int) N rfl rfl (Nat.le_refl _) (by omega)
          obtain ⟨w1, hw1⟩ : ∃ w1, w1 = W.alloc (.cells (zrow N) 5) := ⟨_, rfl⟩
          have hg1 : w1.heap[W.heap.size]? = some (.cells (RowZ [] N).toArray 5 (0, 0)) := by rw [hw1, ← rowZ_made]; exact heap_alloc_new W _
          have b1 : Below W.heap.size W w1 := by rw [hw1]; exact (Below.refl _ _).alloc (Nat.le_refl _) _
          rw [← hw1] at hmk
          have Hg1 := Lib.hid hg1; have B1 := Lib.hid b1; have HNl := Lib.hid hNl
          clear hg1 b1 hNl hlen hN2 hN dd hw1 hc0
          have HEN := Lib.hid enn
          clear enn
          go_wp2
          go_loopw [13, 14] (fun j t wr => L3Rel w1 W.heap.size X.size N l j t wr) (fun _ t _ => X.size - (intOf t).toNat)
          case atStart => exact ⟨0, [], by omega, rfl, rfl, rfl, Hg1.out, Below.refl _ _⟩
          case round =>
            obtain ⟨k, L, hk, hL, rfl, rfl, hg, hb⟩ := hrel
            have bw := B1.out.trans hb
            by_cases hlt : k < X.size
            · have hx := Hin.out k hlt
              have x256 := (X[k]'hlt).toNat_lt
              have hes := Cd.escs_take l k _ hx
              have hsp := Cd.escs_split l (k + 1)
              rw [hes, ← hL] at hsp
              have hfit : L.length + (Cd.esc (X[k]'hlt)).length ≤ N := by
                have := congrArg List.length hsp
                rw [HNl.out, List.length_append, List.length_append] at this
                omega
              rw [← hL] at hes
              have HKr := HKW.out.below bw HKW.out.lt
              have qo := HKr.c (X[k]'hlt).toNat (by omega)
              rcases HEW.out (X[k]'hlt) with ⟨z1, z2⟩ | ⟨z1, eb, ek, z2, ⟨-, z3⟩, z4, z5, z6⟩
              · rw [z1] at hfit hes
                rw [z2] at qo
                have hfit : L.length < N := by have h9 := hfit; simp at h9; omega
                obtain ⟨q1, q2, q3⟩ := rowZ_cells hg hfit
                have hp := rowZ_put (X[k]'hlt) hg hfit
                have en := Henn.out none 0 0
                have Hp := Lib.hid hp; have Hes := Lib.hid hes; have Hb := Lib.hid hb
                clear hp hes hb hsp hx hL hg z1 z2 HKr bw
                go_wp2
                go_roundw
                case rel => exact ⟨k + 1, L ++ [X[k]'hlt], by omega, Hes.out.symm, by rw [List.length_append]; go_num, by go_num, Hp.out, below_cell' Hb.out _ _⟩
                case measure => simp [intOf]; omega
              · rw [z2] at qo
                rw [z1] at hfit
                have hr : Rb wr wr.heap.size (some ⟨eb, 0, none⟩) 2 ek (Cd.esc (X[k]'hlt)) := ⟨z1, z4, z5, fun _ => ⟨eb, 0, rfl, Nat.lt_of_lt_of_le z3 bw.size, fun j y hy => by rw [Nat.zero_add]; exact (bw.cell z3).trans (z6 j y hy)⟩⟩
                obtain ⟨D, hD1, hD2⟩ := bty.fromRow (P := Tryz.prog) W.heap.size N L.length (by omega)
                have hD1 := fun V => hD1 V .i64
                have en := Henn.out (some ⟨eb, 0, none⟩) 2 ek
                have x0 : (0 : Int) ≤ ((X[k]'hlt).toNat : Int) := by omega
                have x1 : ((X[k]'hlt).toNat : Int) < 256 := by omega
                have x2 : ¬ ((X[k]'hlt).toNat : Int) < 0 := by omega
                have x3 : ¬ 256 ≤ ((X[k]'hlt).toNat : Int) := by omega
                have x4 : ¬ 256 ≤ (X[k]'hlt).toNat := by omega
                have Hes := Lib.hid hes; have Hb := Lib.hid hb; have Hr := Lib.hid hr; have Hg := Lib.hid hg; have HD2 := Lib.hid hD2; have Hz := Lib.hid z1
                clear hes hb hsp hx hL hg z1 z2 z3 z4 z5 z6 HKr bw hr hD2
                go_wp2
                go_region_law (refine bty.stepCopyTo (by rfl) (.tmp 105) (.tmp 111) rfl W.heap.size N 2 ek wr.heap.size (N - L.length) (N - L.length) D (some ⟨eb, 0, none⟩) L (Cd.esc (X[k]'hlt)) rfl (by omega) rfl (Hg.out) (Hr.out.drewN 1) (by omega) HD2.out W.heap.size w1 (below_drewN Hb.out 1) (Nat.le_refl _) ?_; intro w4 hg4 hb4)
                all_goals
                  go_wp2
                  first | go_roundw | refine ⟨?rel, ?measure⟩
                  case rel => exact ⟨k + 1, L ++ Cd.esc (X[k]'hlt), by omega, Hes.out.symm, by rw [List.length_append, Hz.out]; first | rfl | simp, by go_num, hg4.out, hb4⟩
                  case measure => simp [intOf]; omega
            · obtain rfl : k = X.size := by omega
              have hLf : L = Cd.escs l := by rw [hL, List.take_of_length_le (by rw [Hln.out]; exact Nat.le_refl _)]
              have hown : Own wr 5 W.heap.size (some ⟨W.heap.size, 0, none⟩) L.length L := own_rowZ (by have := hg; rwa [show N = L.length by rw [hLf, HNl.out]] at this) (Nat.le_refl _) (by rw [hLf, HNl.out]; omega)
              have hcv := bty.conv (rb_len hown.rb (show L.length = N by rw [hLf, HNl.out]))
              rw [show L.length = N by rw [hLf, HNl.out]] at hcv
              have BW := Lib.hid (Hwb.out.trans (bw.mono Hwb.out.size))
              have HL := Lib.hid hLf
              clear hown hLf hL hg hb bw
              go_wp2
              go_ret
              refine ⟨?_, BW.out⟩
              show Ending.returned (.string ⟨L.toArray⟩) = .returned (st (Cd.escs l))
              rw [HL.out]
  · have d24 : decide ((24 : Int) ≤ (X.size : Int)) = false := by simp; omega
    have d24' : decide (24 ≤ X.size) = false := decide_eq_false h24
    go_wp2
    go_loop [5, 6, 10] (fun s a t => L2Rel X.size l s a t) (fun _ _ t => X.size - (intOf t).toNat)
    case atStart => exact ⟨0, by omega, rfl, rfl, rfl⟩
    case round =>
      obtain ⟨k, hk, rfl, rfl, rfl⟩ := hrel
      by_cases hlt : k < X.size
      · have hx := Hin.out k hlt
        have hct := Cd.cnt_take l k _ hx
        have x256 := (X[k]'hlt).toNat_lt
        have qo := HK.out.c (X[k]'hlt).toNat (by omega)
        obtain ⟨p, hp⟩ : ∃ p, p = Cd.cnt (l.take k) := ⟨_, rfl⟩
        have hpb : p ≤ 1000000 := by rw [hp]; have := Cd.cnt_le (l.take k); rw [List.length_take] at this; omega
        rw [← hp] at hct ⊢
        have hz := HE.out (X[k]'hlt)
        have HH := Lib.hid hct
        clear hct hp hx
        rcases hz with ⟨z1, z2⟩ | ⟨z1, eb, ek, z2, -⟩
        · rw [z2] at qo
          have z3 := HH.out
          rw [if_neg (by rw [z1]; simp)] at z3
          have HH := Lib.hid z3
          have e1 : (!((none : Option Addr).isNone)) = false := rfl
          have en := Henn.out none 0 0
          clear z1 z2 z3
          go_wp2
          go_round
          case rel => exact ⟨k + 1, by omega, by rw [HH.out, Nat.add_zero]; try simp, by rw [HH.out, Nat.add_zero]; try simp, by go_num⟩
          case measure => simp [intOf]; omega
        · rw [z2] at qo
          have z3 := HH.out
          rw [if_pos z1] at z3
          have HH := Lib.hid z3
          have en := Henn.out (some ⟨eb, 0, none⟩) 2 ek
          have e2 : IntKind.i64.wrap (((X.size + p : Nat) : Int) + 1) = ((X.size + (p + 1) : Nat) : Int) := by rw [IntKind.wrap_i64]; omega
          clear z1 z2 z3
          go_wp2
          go_round
          case rel => exact ⟨k + 1, by omega, by rw [HH.out]; first | rfl | (congr 1; omega), by rw [HH.out]; simp, by go_num⟩
          case measure => simp [intOf]; omega
      · obtain rfl : k = X.size := by omega
        rw [List.take_of_length_le (by rw [Hln.out]; exact Nat.le_refl _)]
        obtain ⟨W, hW⟩ : ∃ W, W = w := ⟨_, rfl⟩
        have hWb : Below w.heap.size w W := by rw [hW]; exact Below.refl _ _
        have HKW : Hid (Blk W g 257 F) := Lib.hid (by rw [hW]; exact HK.out)
        have HEW : Hid (∀ x : UInt8, Es W (Fr base W) (F x.toNat) x) := Lib.hid (by rw [hW]; exact HE.out)
        rw [← hW]
        clear HK HE HRC q256
        subst hW

        have Hwb := Lib.hid hWb
        clear hWb
        by_cases hc0 : Cd.cnt l = 0
        · have hes := Cd.escs_none l hc0
          have HES := Lib.hid hes
          have dd : decide (Cd.cnt l ≠ 0) = false := by simp [hc0]
          rw [dd]
          clear dd hes hc0
          go_wp2
          go_ret
          refine ⟨?_, Hwb.out⟩
          show Ending.returned (.string X) = .returned (st (Cd.escs l))
          rw [HES.out]
          exact congrArg (fun z => Ending.returned (.string z)) HXl.out.symm
        · have hlen := Cd.escs_cnt l
          have hN2 := Cd.cnt_le l
          obtain ⟨N, hN⟩ : ∃ N, N = X.size + Cd.cnt l := ⟨_, rfl⟩
          have hNl : (Cd.escs l).length = N := by rw [hlen, Hln.out, hN]
          have hNb : N ≤ 2000000 := by have := Hln.out; omega
          have dd : decide (Cd.cnt l ≠ 0) = true := by simp [hc0]
          rw [dd, ← hN]
          have hmk := bty.make W N (N : Int) (N : Int) N rfl rfl (Nat.le_refl _) (by omega)
          obtain ⟨w1, hw1⟩ : ∃ w1, w1 = W.alloc (.cells (zrow N) 5) := ⟨_, rfl⟩
          have hg1 : w1.heap[W.heap.size]? = some (.cells (RowZ [] N).toArray 5 (0, 0)) := by rw [hw1, ← rowZ_made]; exact heap_alloc_new W _
          have b1 : Below W.heap.size W w1 := by rw [hw1]; exact (Below.refl _ _).alloc (Nat.le_refl _) _
          rw [← hw1] at hmk
          have Hg1 := Lib.hid hg1; have B1 := Lib.hid b1; have HNl := Lib.hid hNl
          clear hg1 b1 hNl hlen hN2 hN dd hw1 hc0
          have HEN := Lib.hid enn
          clear enn
          go_wp2
          go_loopw [13, 14] (fun j t wr => L3Rel w1 W.heap.size X.size N l j t wr) (fun _ t _ => X.size - (intOf t).toNat)
          case atStart => exact ⟨0, [], by omega, rfl, rfl, rfl, Hg1.out, Below.refl _ _⟩
          case round =>
            obtain ⟨k, L, hk, hL, rfl, rfl, hg, hb⟩ := hrel
            have bw := B1.out.trans hb
            by_cases hlt : k < X.size
            · have hx := Hin.out k hlt
              have x256 := (X[k]'hlt).toNat_lt
              have hes := Cd.escs_take l k _ hx
              have hsp := Cd.escs_split l (k + 1)
              rw [hes, ← hL] at hsp
              have hfit : L.length + (Cd.esc (X[k]'hlt)).length ≤ N := by
                have := congrArg List.length hsp
                rw [HNl.out, List.length_append, List.length_append] at this
                omega
              rw [← hL] at hes
              have HKr := HKW.out.below bw HKW.out.lt
              have qo := HKr.c (X[k]'hlt).toNat (by omega)
              rcases HEW.out (X[k]'hlt) with ⟨z1, z2⟩ | ⟨z1, eb, ek, z2, ⟨-, z3⟩, z4, z5, z6⟩
              · rw [z1] at hfit hes
                rw [z2] at qo
                have hfit : L.length < N := by have h9 := hfit; simp at h9; omega
                obtain ⟨q1, q2, q3⟩ := rowZ_cells hg hfit
                have hp := rowZ_put (X[k]'hlt) hg hfit
                have en := Henn.out none 0 0
                have Hp := Lib.hid hp; have Hes := Lib.hid hes; have Hb := Lib.hid hb
                clear hp hes hb hsp hx hL hg z1 z2 HKr bw
                go_wp2
                go_roundw
                case rel => exact ⟨k + 1, L ++ [X[k]'hlt], by omega, Hes.out.symm, by rw [List.length_append]; go_num, by go_num, Hp.out, below_cell' Hb.out _ _⟩
                case measure => simp [intOf]; omega
              · rw [z2] at qo
                rw [z1] at hfit
                have hr : Rb wr wr.heap.size (some ⟨eb, 0, none⟩) 2 ek (Cd.esc (X[k]'hlt)) := ⟨z1, z4, z5, fun _ => ⟨eb, 0, rfl, Nat.lt_of_lt_of_le z3 bw.size, fun j y hy => by rw [Nat.zero_add]; exact (bw.cell z3).trans (z6 j y hy)⟩⟩
                obtain ⟨D, hD1, hD2⟩ := bty.fromRow (P := Tryz.prog) W.heap.size N L.length (by omega)
                have hD1 := fun V => hD1 V .i64
                have en := Henn.out (some ⟨eb, 0, none⟩) 2 ek
                have x0 : (0 : Int) ≤ ((X[k]'hlt).toNat : Int) := by omega
                have x1 : ((X[k]'hlt).toNat : Int) < 256 := by omega
                have x2 : ¬ ((X[k]'hlt).toNat : Int) < 0 := by omega
                have x3 : ¬ 256 ≤ ((X[k]'hlt).toNat : Int) := by omega
                have x4 : ¬ 256 ≤ (X[k]'hlt).toNat := by omega
                have Hes := Lib.hid hes; have Hb := Lib.hid hb; have Hr := Lib.hid hr; have Hg := Lib.hid hg; have HD2 := Lib.hid hD2; have Hz := Lib.hid z1
                clear hes hb hsp hx hL hg z1 z2 z3 z4 z5 z6 HKr bw hr hD2
                go_wp2
                go_region_law (refine bty.stepCopyTo (by rfl) (.tmp 105) (.tmp 111) rfl W.heap.size N 2 ek wr.heap.size (N - L.length) (N - L.length) D (some ⟨eb, 0, none⟩) L (Cd.esc (X[k]'hlt)) rfl (by omega) rfl (Hg.out) (Hr.out.drewN 1) (by omega) HD2.out W.heap.size w1 (below_drewN Hb.out 1) (Nat.le_refl _) ?_; intro w4 hg4 hb4)
                all_goals
                  go_wp2
                  first | go_roundw | refine ⟨?rel, ?measure⟩
                  case rel => exact ⟨k + 1, L ++ Cd.esc (X[k]'hlt), by omega, Hes.out.symm, by rw [List.length_append, Hz.out]; first | rfl | simp, by go_num, hg4.out, hb4⟩
                  case measure => simp [intOf]; omega
            · obtain rfl : k = X.size := by omega
              have hLf : L = Cd.escs l := by rw [hL, List.take_of_length_le (by rw [Hln.out]; exact Nat.le_refl _)]
              have hown : Own wr 5 W.heap.size (some ⟨W.heap.size, 0, none⟩) L.length L := own_rowZ (by have := hg; rwa [show N = L.length by rw [hLf, HNl.out]] at this) (Nat.le_refl _) (by rw [hLf, HNl.out]; omega)
              have hcv := bty.conv (rb_len hown.rb (show L.length = N by rw [hLf, HNl.out]))
              rw [show L.length = N by rw [hLf, HNl.out]] at hcv
              have BW := Lib.hid (Hwb.out.trans (bw.mono Hwb.out.size))
              have HL := Lib.hid hLf
              clear hown hLf hL hg hb bw
              go_wp2
              go_ret
              refine ⟨?_, BW.out⟩
              show Ending.returned (.string ⟨L.toArray⟩) = .returned (st (Cd.escs l))
              rw [HL.out]
end Go.Proofs.YtpdapgbamlcjjaaGreatDoor

/-
  code.quoted.
-/
namespace Go.Proofs.YtpdapgbamlcjjaaGreatDoor
open Go.RowKit Vl

theorem rc_onlyset {z : Nat} {w : World} {R n c k : Nat} {A : Option Addr} {vs : List Value} (h : Rc z w R A n c vs) (v : Value) : Rc z (w.setCell ⟨R, k, none⟩ v) R A n c vs :=
  h.keep fun p hp => World.cell?_setCell_other w _ p _ (fun e => by have := congrArg Addr.block e; simp at this; omega)
theorem lq_arr : (#[.string ⟨#[92]⟩, .string ⟨#[92, 92]⟩, .string ⟨#[34]⟩, .string ⟨#[92, 34]⟩, .string ⟨#[10]⟩, .string ⟨#[92, 110]⟩] : Array Value).toList = lvs LQ := rfl

set_option maxRecDepth 100000 in
set_option maxHeartbeats 2000000 in
theorem quoted_c (s : List UInt8) (hs : s.length ≤ 1000000) (w : World) : Calls Tryz.prog 39 #[st s] w (RetV w (st (Cd.qt s))) := by
  obtain ⟨X, hX⟩ : ∃ X : ByteArray, X = ⟨s.toArray⟩ := ⟨_, rfl⟩
  have hXs : X.size = s.length := by rw [hX]; rfl
  have hXl : X.data.toList = s := by rw [hX]
  show Calls _ _ #[.string ⟨s.toArray⟩] _ _
  rw [← hX]
  obtain ⟨w0, hw0⟩ : ∃ w0, w0 = w.alloc (.cells #[.string ⟨#[92]⟩, .string ⟨#[92, 92]⟩, .string ⟨#[34]⟩, .string ⟨#[92, 34]⟩, .string ⟨#[10]⟩, .string ⟨#[92, 110]⟩] 9) := ⟨_, rfl⟩
  have b0 : Below w.heap.size w w0 := by rw [hw0]; exact (Below.refl _ _).alloc (Nat.le_refl _) _
  have r0 : Rc 1 w0 (w.heap.size + 1) (some ⟨w.heap.size, 0, none⟩) 6 6 (lvs LQ) := by rw [hw0, ← lq_arr]; exact Rc.lit w 9 _ 6 rfl (by simp [maxLen])
  have hN := newR_c LQ (some ⟨w.heap.size, 0, none⟩) 6 _ w0 r0
  have HN := Lib.hid hN; have W0 := Lib.hid hw0; have B0 := Lib.hid b0
  have hl2 := (Cd.escs_len s).1
  obtain ⟨E, hE⟩ : ∃ E, E = Cd.escs s := ⟨_, rfl⟩
  rw [← hE] at hl2
  have HE := Lib.hid hE; have HX := Lib.hid hXl
  clear hN hw0 b0 r0 hX hE hXl
  go_enter Tryz.func39, Tryz.ntmps39
  go_wp2_with (rw [← W0.out])
  refine HN.out.mono ?_
  rintro e w1 ⟨R, A, c, rfl, hge, h5, hrow, b1⟩
  have hlt := h5.lt
  have hrow1 := rc_onlyset hrow (k := 1) (.int .i32 1)
  have h51 := h5.set 1 (.int .i32 1)
  simp only [if_pos, reduceIte, Nat.reduceEqDiff] at h51
  have hB := buildB_c R A c (w1.setCell ⟨R, 1, none⟩ (.int .i32 1)) h51.c4 (hrow1.more (by simp; omega))
  have hrep := replaceB_c R X (st E) w1 (fun w' g => Bsr w' (w1.setCell ⟨R, 1, none⟩ (.int .i32 1)).heap.size g) _ _ _ h5 hB
    (fun a b g h ho => h.keep ho.1 fun k hk1 hk2 => ho.2 k hk2 (by simp at hk1; omega))
    (fun a g h => by rw [HE.out, ← HX.out]; exact repB_c X (by omega) _ g a h)
  have Hrep := Lib.hid hrep; have BB := Lib.hid (B0.out.trans (b1.mono B0.out.size))
  have HR := Lib.hid (show w.heap.size ≤ R from Nat.le_trans B0.out.size hge)
  clear hrep hB hrow hrow1 h5 h51 hlt hge b1 HN
  go_wp2_with fail
  refine Hrep.out.mono ?_
  rintro e w2 ⟨rfl, b2⟩
  have bb := BB.out.trans (b2.mono HR.out)
  have k1 : ¬ 9223372036854775807 < 1 + E.length := by omega
  have k2 : ¬ 9223372036854775807 < 1 + E.length + 1 := by omega
  have k3 : ¬ 9223372036854775807 < E.length + 1 := by omega
  have k4 : ¬ 9223372036854775807 < E.length + 1 + 1 := by omega
  clear b2 Hrep
  go_wp2
  go_ret
  refine ⟨?_, bb⟩
  rw [show Cd.qt s = 34 :: (E ++ [34]) from by rw [HE.out]; rfl]
  first | rfl | simp [st]
end Go.Proofs.YtpdapgbamlcjjaaGreatDoor
