/-
  The document's Cells: what the call returns and leaves.
-/
import Derived.Test.YtjdmpnonjlffaaaY8
namespace Go.Proofs.Ytjdmpnonjlffaaa
open Go.RowKit Go.Maps

def RelRC (base m : Nat) (ws : List Int) (l : List UInt8) (w : World) (s o i : Value) (wr : World) : Prop :=
  ∃ A c, ∃ j : Nat, ∃ D, s = .string ⟨List.toArray D⟩ ∧ D = l.drop (Fx.pre ws j) ∧ o = .slice A j c ∧ i = .int .i64 (j : Int) ∧ j ≤ m ∧ Fx.pre ws j ≤ l.length ∧ Oc 1 wr 9 base A j c (lvs (Fx.cl ws l j)) ∧ Below base w wr

theorem rcells_arg (X : ByteArray) (A : Option Addr) (m c B : Nat) (ws : List Int) (hw : Fx.wok ws = false) (w : World) (hr : Rc 1 w B A m c (ivs ws)) :
    Calls Try.prog 22 #[.string X, .slice A m c] w fun e w' => e = .returned (.tuple #[.slice none 0 0, .int .i64 1]) ∧ w = w' := by
  have Hr := Lib.hid hr; clear hr
  go_enter Try.func22, Try.ntmps22
  go_wp2_with fail
  refine (rws_c A m c B ws false hw.symm _ Hr.out).mono ?_
  rintro e w1 ⟨rfl, rfl⟩
  go_wp2
  go_ret2
  exact ⟨rfl, rfl⟩

set_option maxHeartbeats 4000000 in
set_option maxRecDepth 100000 in
theorem rcells_c (l : List UInt8) (A : Option Addr) (m c : Nat) (ws : List Int) (hw : Fx.wok ws = true) (w : World) (hr : Rc 1 w w.heap.size A m c (ivs ws)) :
    Calls Try.prog 22 #[.string ⟨l.toArray⟩, .slice A m c] w (RetC w (Fx.ceS ws l)) := by
  have hl : ws.length = m := by have := hr.len1; rw [ivs_length] at this; exact this
  have hm : m ≤ 50 := by have := Fx.wok_len hw; omega
  have Hr := Lib.hid hr; have Hl := Lib.hid hl; have Hw := Lib.hid hw; clear hr hl hw
  go_enter Try.func22, Try.ntmps22
  go_wp2_with fail
  refine (rws_c A m c _ ws true Hw.out.symm _ Hr.out).mono ?_
  rintro e w1 ⟨rfl, rfl⟩
  go_wp2
  go_loopw [0, 6, 7] (fun s o i wr => RelRC w.heap.size m ws l w s o i wr) (fun _ _ i _ => m - (intOf i).toNat)
  case atStart => exact ⟨some ⟨w.heap.size, 0, none⟩, 0, 0, l, rfl, by simp [Fx.pre], rfl, rfl, Nat.zero_le _, Nat.zero_le _, Oc.made0 1 _ _, (Below.refl _ _).alloc (Nat.le_refl _) _⟩
  case round =>
    obtain ⟨A3, c3, j, D, rfl, hD, rfl, rfl, hj, hpj, hown, hbel⟩ := hrel
    have z3 := hbel.size
    rename World => wr
    have hDl : D.length = l.length - Fx.pre ws j := by rw [hD, List.length_drop]
    by_cases hlt : j < m
    · obtain ⟨b, off, x, rfl, hb, hcell, hxx⟩ := (Hr.out.below hbel).int hlt
      have hx2 := Fx.wok_at Hw.out hxx
      obtain ⟨W, rfl⟩ : ∃ W : Nat, x = (W : Int) := ⟨x.toNat, by omega⟩
      have hnx := Fx.pre_next hxx
      rw [Int.toNat_natCast] at hnx
      have hpl := Fx.pre_le ws (show j + 1 ≤ m by omega)
      have hfd := Fx.fld_eq ws l j hxx
      rw [Int.toNat_natCast, ← hD] at hfd
      obtain ⟨X, hX⟩ : ∃ X : ByteArray, X = ⟨D.toArray⟩ := ⟨_, rfl⟩
      have hXs : X.size = D.length := by rw [hX]; rfl
      by_cases hWD : W ≤ D.length
      · have e1 : X.extract 0 W = ⟨(Fx.fld ws l j).toArray⟩ := by rw [hX, ext_eq, hfd]; rfl
        have e2 : X.extract W X.size = ⟨(D.drop W).toArray⟩ := by rw [hXs, hX, ext_eq, List.take_length]
        have e3 : D.drop W = l.drop (Fx.pre ws (j + 1)) := by rw [hD, List.drop_drop, hnx]
        have hWX : W ≤ X.size := by omega
        have hpj2 : Fx.pre ws (j + 1) ≤ l.length := by omega
        have hcl := Fx.cl_next ws l j
        obtain ⟨K, hK⟩ : ∃ K, K = Fx.fld ws l j := ⟨_, rfl⟩
        obtain ⟨Y, hY⟩ : ∃ Y : ByteArray, Y = X.extract 0 W := ⟨_, rfl⟩
        rw [← hY, ← hK] at e1
        rw [← hK] at hcl
        rw [← hX]
        obtain ⟨w5, h5⟩ : ∃ w5, w5 = wr.alloc (.cells #[.string (X.extract 0 W)] 9) := ⟨_, rfl⟩
        have b5 : Below wr.heap.size wr w5 := by rw [h5]; exact (Below.refl _ _).alloc (Nat.le_refl _) _
        have hlit : Rc 1 w5 (wr.heap.size + 1) (some ⟨wr.heap.size, 0, none⟩) 1 1 (lvs [K]) := by rw [h5, ← hY, e1]; exact Rc.lit (z := 1) wr _ #[.string ⟨K.toArray⟩] 1 rfl (by simp [maxLen])
        have hown5 := hown.keep b5
        have bw5 := hbel.trans (b5.mono z3)
        have z5 := b5.size
        obtain ⟨L, hL⟩ : ∃ L, L = lvs (Fx.cl ws l j) := ⟨_, rfl⟩
        obtain ⟨M, hM⟩ : ∃ M, M = lvs (Fx.cl ws l (j + 1)) := ⟨_, rfl⟩
        have hLM : L ++ lvs [K] = M := by rw [hL, hM, hcl, lvs_append]
        rw [← hL] at hown5
        have H5 := Lib.hid h5; have Hlit := Lib.hid hlit; have Hown5 := Lib.hid hown5; have E2 := Lib.hid e2; have E3 := Lib.hid e3; have HLM := Lib.hid hLM; have HM := Lib.hid hM; have Hpj2 := Lib.hid hpj2
        clear h5 hlit hown5 b5 e1 e2 e3 hLM hM hL hcl hK hY hX hown hpj2 hpl hnx hfd hD hDl hxx hXs hWD hpj
        have hW0 : (0 : Int) ≤ (W : Int) := by omega
        go_wp2_with (at_builtin; rw [← H5.out]; go_must (refine Sl.wpAppAt sty rfl (.tmp 25) (.tmp 32) rfl (n := j) (m := 1) (N := j + 1) (ws := M) rfl rfl Hown5.out Hlit.out ?hs1 rfl HLM.out ?hs4 ?hs5 ?hs6 ?_))
        case hs1 => exact lvs_one _
        case hs4 => omega
        case hs5 => omega
        case hs6 => omega
        intro A8 c8 w8 hown8 hg8
        have bw8 := bw5.trans (hg8.belowC Hown5.out (by omega))
        have hcell8 : w8.cell? ⟨b, off + j, none⟩ = some (.int .i64 (W : Int)) := (bw8.cell (p := ⟨b, off + j, none⟩) hb).trans ((hbel.cell (p := ⟨b, off + j, none⟩) hb).symm.trans hcell)
        rw [HM.out] at hown8
        have Hown8 := Lib.hid hown8; clear hown8 hg8
        go_wp2
        go_roundw
        case rel => exact ⟨A8, c8, j + 1, D.drop W, by rw [E2.out], E3.out, rfl, by go_num, hlt, Hpj2.out, Hown8.out, bw8⟩
        case measure => simp [intOf]; omega
      · have hsh := Fx.ceS_short (ws := ws) (s := l) Hw.out (by rw [Hl.out]; omega)
        have Hsh := Lib.hid hsh
        have dW : (X.size : Int) < (W : Int) := by omega
        rw [← hX]
        clear hsh hown hfd hD hxx hnx hpl hX
        go_wp2
        go_ret2
        rw [Hsh.out]
        exact ⟨none, 0, rfl, Rc.nil 1 _ _, hbel⟩
    · obtain rfl : j = m := by omega
      by_cases hend : Fx.pre ws j = l.length
      · have hok := Fx.ceS_ok (ws := ws) (s := l) Hw.out (by rw [Hl.out]; exact hend)
        rw [Hl.out] at hok
        obtain rfl : D = [] := List.eq_nil_of_length_eq_zero (by omega)
        have Hok := Lib.hid hok; have Hfin := Lib.hid hown.rc
        clear hok hown hD hDl
        go_wp2
        go_ret2
        rw [Hok.out]
        exact ⟨A3, c3, by rw [Fx.cl_len]; rfl, by rw [Fx.cl_len]; exact Hfin.out, hbel⟩
      · have hla := Fx.ceS_large (ws := ws) (s := l) Hw.out (by rw [Hl.out]; omega)
        have Hla := Lib.hid hla
        obtain ⟨x, D', rfl⟩ : ∃ x D', D = x :: D' := by
          cases D with
          | nil => simp at hDl; omega
          | cons x D' => exact ⟨x, D', rfl⟩
        clear hla hown hD hDl
        go_wp2
        go_ret2
        rw [Hla.out]
        exact ⟨none, 0, rfl, Rc.nil 1 _ _, hbel⟩
end Go.Proofs.Ytjdmpnonjlffaaa
