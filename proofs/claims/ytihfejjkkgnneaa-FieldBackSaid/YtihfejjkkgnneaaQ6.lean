/-
  The document's Pairs; rows of pairs that are alike.
-/
import Derived.Test.YtihfejjkkgnneaaQ5
import Derived.Test.YtihfejjkkgnneaaR1
import Derived.Laws.StructEq
namespace Go.Proofs.Ytihfejjkkgnneaa
open Go.RowKit Go.Maps

theorem pairsL_last : ∀ (l : List (List UInt8)) (x : List UInt8), x ≠ [] → Fm.pairsL (l ++ [x]) = none
  | [], x, h => by rw [List.nil_append, Fm.pairsL, if_neg h]
  | [a], x, h => by
    have ih := pairsL_last [] x h
    rw [List.nil_append] at ih
    show Fm.pairsL (a :: x :: []) = none
    rw [Fm.pairsL, ih]
    cases Fm.pairOf a <;> rfl
  | a :: b :: r, x, h => by
    have ih := pairsL_last (b :: r) x h
    show Fm.pairsL (a :: b :: (r ++ [x])) = none
    rw [Fm.pairsL, show b :: (r ++ [x]) = b :: r ++ [x] from rfl, ih]
    cases Fm.pairOf a <;> rfl
/-- What is known of the pairs under way. -/
def Pl (L : List (List UInt8)) (k : Nat) (P : List (List UInt8 × List UInt8)) : Prop := Fm.pairsL L = (Fm.pairsL (L.drop k)).map (P ++ ·)
theorem Pl.start (L : List (List UInt8)) : Pl L 0 [] := by
  unfold Pl
  rw [List.drop_zero]
  cases Fm.pairsL L <;> simp
theorem pairsL_step (x : List UInt8) (r : List (List UInt8)) (h : r ≠ []) : Fm.pairsL (x :: r) = match Fm.pairOf x, Fm.pairsL r with | some p, some q => some (p :: q) | _, _ => none := by
  cases r with
  | nil => exact absurd rfl h
  | cons y q => rfl
theorem Pl.step {L : List (List UInt8)} {k m : Nat} {P : List (List UInt8 × List UInt8)} {x : List UInt8} {p : List UInt8 × List UInt8} (h : Pl L k P) (hm : L.length = m + 1) (hk : k < m) (hd : L.drop k = x :: L.drop (k + 1)) (hp : Fm.pairOf x = some p) : Pl L (k + 1) (P ++ [p]) := by
  unfold Pl at h ⊢
  have hne : L.drop (k + 1) ≠ [] := fun e => by
    have := congrArg List.length e
    simp at this
    omega
  rw [h, hd, pairsL_step x _ hne, hp]
  cases Fm.pairsL (L.drop (k + 1)) <;> simp
theorem Pl.bad {L : List (List UInt8)} {k m : Nat} {P : List (List UInt8 × List UInt8)} {x : List UInt8} (h : Pl L k P) (hm : L.length = m + 1) (hk : k < m) (hd : L.drop k = x :: L.drop (k + 1)) (hp : Fm.pairOf x = none) : Fm.pairsL L = none := by
  unfold Pl at h
  have hne : L.drop (k + 1) ≠ [] := fun e => by
    have := congrArg List.length e
    simp at this
    omega
  rw [h, hd, pairsL_step x _ hne, hp]
  rfl
theorem Pl.end_ {L : List (List UInt8)} {m : Nat} {P : List (List UInt8 × List UInt8)} (h : Pl L m P) (hd : L.drop m = [[]]) : Fm.pairsL L = some P := by
  unfold Pl at h
  rw [h, hd]
  simp [Fm.pairsL]
theorem pairOf_len {x : List UInt8} (h : (Fm.cut 9 x).length ≠ 2) : Fm.pairOf x = none := by
  unfold Fm.pairOf
  split
  · rename_i k v hc; rw [hc] at h; exact absurd rfl h
  · rfl
theorem pairOf_cut {x k v : List UInt8} (h : Fm.cut 9 x = [k, v]) : Fm.pairOf x = match Fm.unesc k, Fm.unesc v with | some a, some b => some (a, b) | _, _ => none := by
  unfold Fm.pairOf
  rw [h]
  dsimp only
  cases Fm.unesc k <;> cases Fm.unesc v <;> rfl

theorem runescape_n (s : ByteArray) (T : List UInt8) (x : Nat) (w : World) (hs : s.size ≤ 100000) (h : unE (Fm.unesc s.data.toList) = .returned (.tuple #[.string ⟨T.toArray⟩, .int .i64 (x : Int)])) :
    Calls Try.prog 18 #[.string s] w fun e w' => e = .returned (.tuple #[.string ⟨T.toArray⟩, .int .i64 (x : Int)]) ∧ Below w.heap.size w w' :=
  (runescape_c s w hs).mono fun _ _ ⟨he, hb⟩ => ⟨he.trans h, hb⟩
theorem unE_name' (o : Option (List UInt8)) : ∃ (T : List UInt8) (x : Nat), unE o = .returned (.tuple #[.string ⟨T.toArray⟩, .int .i64 (x : Int)]) ∧ (x = 0 ∨ x = 3) ∧ (x = 0 → o = some T) ∧ (x = 3 → o = none) := by
  cases o with
  | some t => exact ⟨t, 0, rfl, by omega, fun _ => rfl, fun h => by omega⟩
  | none => exact ⟨[], 3, rfl, by omega, fun h => by omega, fun _ => rfl⟩

def PlRel (base : Nat) (w : World) (L : List (List UInt8)) (m : Nat) (o i : Value) (wr : World) : Prop :=
  ∃ A c P, ∃ k : Nat, o = .slice A P.length c ∧ i = .int .i64 (k : Int) ∧ k ≤ m ∧ P.length = k ∧ Oc 2 wr 52 base A P.length c (pvs P) ∧ Pl L k P ∧ Below base w wr

theorem cut_row (c : UInt8) (s : ByteArray) (L : List (List UInt8)) (w : World) (hs : s.size ≤ 100000) (hL : Fm.cut c s.data.toList = L) :
    Calls Try.prog 47 #[.string s, .int .u8 (c.toNat : Int)] w fun e w' => ∃ A d, e = .returned (.slice A L.length d) ∧ Rc 1 w' w'.heap.size A L.length d (lvs L) ∧ Below w.heap.size w w' := by
  subst hL
  exact (rcut_c c s w hs).mono fun _ _ ⟨A, d, he, ho, hb⟩ => ⟨A, d, he, ho.rc, hb⟩
theorem cut_row_n (c : UInt8) (s : ByteArray) (L : List (List UInt8)) (n : Nat) (w : World) (hs : s.size ≤ 100000) (hL : Fm.cut c s.data.toList = L) (hn : L.length = n) :
    Calls Try.prog 47 #[.string s, .int .u8 (c.toNat : Int)] w fun e w' => ∃ A d, e = .returned (.slice A n d) ∧ Rc 1 w' w'.heap.size A n d (lvs L) ∧ Below w.heap.size w w' := by
  subst hn
  exact cut_row c s L w hs hL
theorem cut_len (c : UInt8) : ∀ s : List UInt8, (Fm.cut c s).length ≤ s.length + 1 ∧ ∀ x ∈ Fm.cut c s, x.length ≤ s.length
  | [] => ⟨by simp [Fm.cut], fun x hx => by simp [Fm.cut] at hx; subst hx; simp⟩
  | a :: r => by
    obtain ⟨h1, h2⟩ := cut_len c r
    unfold Fm.cut
    split
    · refine ⟨by simp; omega, fun x hx => ?_⟩
      rcases List.mem_cons.1 hx with rfl | hx
      · simp
      · have := h2 x hx; simp; omega
    · cases hc : Fm.cut c r with
      | nil => exact absurd hc (Fm.cut_ne c r)
      | cons h t =>
        rw [hc] at h1 h2
        refine ⟨by simp at h1 ⊢; omega, fun x hx => ?_⟩
        rcases List.mem_cons.1 hx with rfl | hx
        · have := h2 h (List.mem_cons_self ..); simp; omega
        · have := h2 x (List.mem_cons_of_mem _ hx); simp; omega

set_option maxRecDepth 100000 in
set_option maxHeartbeats 4000000 in
/-- the document's Pairs -/
theorem rpairs_c (D : Option Addr) (n d : Nat) (T : List UInt8) (w : World) (hr : Rb w w.heap.size D n d T) (hn : n ≤ 90000) :
    Calls Try.prog 26 #[.slice D n d] w (RetPs w.heap.size w (psS (Fm.pairs T))) := by
  have hl := hr.len
  have hcv := bty.conv hr
  obtain ⟨L, hL⟩ : ∃ L, Fm.cut 10 T = L := ⟨_, rfl⟩
  have hps : Fm.pairs T = Fm.pairsL L := by unfold Fm.pairs; rw [hL]
  rw [hps]
  obtain ⟨m, hm⟩ : ∃ m, L.length = m + 1 := by
    cases h : L with
    | nil => rw [h] at hL; exact absurd hL (Fm.cut_ne 10 T)
    | cons a b => exact ⟨b.length, rfl⟩
  have hcl := cut_len 10 T
  rw [hL, hm, hl] at hcl
  have hm9 : m ≤ 90000 := by omega
  have hT : T.length ≤ 90000 := by omega
  have hLs : ∀ x ∈ L, x.length ≤ 90000 := fun x hx => by have := hcl.2 x hx; omega
  have HL := Lib.hid hL; have Hm := Lib.hid hm; have HLs := Lib.hid hLs; clear hps hcl hr hL hm hLs hl
  go_enter Try.func26, Try.ntmps26
  go_wp2_with fail
  refine (cut_row_n 10 ⟨T.toArray⟩ L (m + 1) _ (by simp [ByteArray.size]; omega) HL.out Hm.out).mono ?_
  rintro e w1 ⟨A1, c1, rfl, r1, b1⟩
  clear hcv
  obtain ⟨b, off, x, rfl, hbB, hcell, hx, hd⟩ := lvs_at r1 (k := m) (by omega)
  have R1 := Lib.hid r1; clear r1
  have z1 := b1.size
  rw [show L.drop (m + 1) = [] from List.drop_of_length_le (by rw [Hm.out]; exact Nat.le_refl _)] at hd
  by_cases hxe : x = []
  · subst hxe
    have Hd := Lib.hid hd; clear hd hx
    go_wp2
    go_loopw [5, 6] (fun o i wr => PlRel w1.heap.size w1 L m o i wr) (fun _ i _ => m - (intOf i).toNat)
    case atStart => exact ⟨_, _, [], 0, rfl, rfl, Nat.zero_le _, rfl, Oc.made0 2 _ _, Pl.start L, (Below.refl _ _).alloc (Nat.le_refl _) _⟩
    case round =>
      obtain ⟨A3, c3, P, k, rfl, rfl, hk, hPk, hown3, hP, hbel3⟩ := hrel
      have hsz3 := hbel3.size
      clear hcell
      by_cases hlt : k < m
      · obtain ⟨b', off', x, hA, hbB', hcx, hx, hdx⟩ := lvs_at (R1.out.below hbel3) (k := k) (by omega)
        have hxl := HLs.out x (List.mem_of_getElem? hx)
        injection hA with hA
        injection hA with h1 h2 _
        subst h1 h2
        obtain ⟨Q, hQ⟩ : ∃ Q, Fm.cut 9 x = Q := ⟨_, rfl⟩
        have hPl := hPk ▸ hk
        by_cases h2 : Q.length = 2
        · obtain ⟨kk, vv, rfl⟩ : ∃ a b, Q = [a, b] := by
            match Q, h2 with
            | [a, b], _ => exact ⟨a, b, rfl⟩
          have hcl := cut_len 9 x
          rw [hQ] at hcl
          have hkl := hcl.2 kk (by simp)
          have hvl := hcl.2 vv (by simp)
          have hpo := pairOf_cut hQ
          obtain ⟨K, xk, hK, hk03, hk0, hk3⟩ := unE_name' (Fm.unesc kk)
          obtain ⟨V, xv, hV, hv03, hv0, hv3⟩ := unE_name' (Fm.unesc vv)
          have HQ := Lib.hid hQ; have HK := Lib.hid hK; have HV := Lib.hid hV; have Hx := Lib.hid hx; have Hdx := Lib.hid hdx; have HP := Lib.hid hP; have Hpo := Lib.hid hpo; have Hk0 := Lib.hid hk0; have Hk3 := Lib.hid hk3; have Hv0 := Lib.hid hv0; have Hv3 := Lib.hid hv3; have HPk := Lib.hid hPk
          clear hcl hQ hK hV hx hdx hP hpo hk0 hk3 hv0 hv3 h2 hPk
          go_wp2_with fail
          refine (cut_row_n 9 ⟨x.toArray⟩ [kk, vv] 2 _ (by simp [ByteArray.size]; omega) HQ.out rfl).mono ?_
          rintro e w4 ⟨A4, c4, rfl, r4, b4⟩
          obtain ⟨g, of, y0, hA4, hg, hc0, hy0, _⟩ := lvs_at r4 (k := 0) (by omega)
          obtain ⟨g', of', y1, hA4', hg', hc1, hy1, _⟩ := lvs_at r4 (k := 1) (by omega)
          subst hA4
          injection hA4' with hA4'
          injection hA4' with h1 h2 _
          subst h1 h2
          obtain rfl : kk = y0 := by simpa using hy0
          obtain rfl : vv = y1 := by simpa using hy1
          rw [Nat.add_zero] at hc0
          have z4 := b4.size
          have Hc1 := Lib.hid hc1; clear hy0 hy1 hc1 r4
          go_wp2_with fail
          refine (runescape_n ⟨kk.toArray⟩ K xk _ (by simp [ByteArray.size]; omega) HK.out).mono ?_
          rintro e w5 ⟨rfl, b5⟩
          have z5 := b5.size
          have hc15 := (b5.cell (p := ⟨g, of + 1, none⟩) hg).trans Hc1.out
          clear hc0
          go_wp2_with fail
          refine (runescape_n ⟨vv.toArray⟩ V xv _ (by simp [ByteArray.size]; omega) HV.out).mono ?_
          rintro e w6 ⟨rfl, b6⟩
          have z6 := b6.size
          have b36 : Below wr.heap.size wr w6 := (b4.trans (b5.mono z4)).trans (b6.mono (by omega))
          clear hc15
          rcases hk03 with rfl | rfl
          · rcases hv03 with rfl | rfl
            · have Hst := Lib.hid (HP.out.step Hm.out hlt Hdx.out (p := (K, V)) (by rw [Hpo.out, Hk0.out rfl, Hv0.out rfl]))
              have hown6 := hown3.keep b36
              go_wp2_with (at_builtin; go_must (refine Sl.wpAppN pty rfl (.tmp 58) (.tmp 62) rfl (n := P.length) (m := 1) (N := (P ++ [(K, V)]).length) (ws := pvs (P ++ [(K, V)])) rfl rfl (hown6.alloc _) (Rc.litAt (z := 2) _ _ _ 1 w6.heap.size rfl rfl (by simp [maxLen])) ?hs1 ?hs2 ?hs3 ?hs4 ?hs5 ?hs6 ?_))
              case hs1 => simp [Value.oneCell']
              case hs2 => simp
              case hs3 => simp [pvs]
              case hs4 => simp; omega
              case hs5 => simp; omega
              case hs6 => simp; omega
              intro A7 c7 w7 hown7 hb7
              have b37 : Below w1.heap.size wr w7 := ((b36.mono hsz3).alloc (by omega) _).trans hb7
              have Hown7 := Lib.hid hown7; clear hown7 hb7 hown6
              go_wp2
              go_roundw
              case rel => exact ⟨A7, c7, P ++ [(K, V)], k + 1, by simp, by go_num, by omega, by have := HPk.out; simp; omega, by simpa using Hown7.out, Hst.out, hbel3.trans b37⟩
              case measure => simp [intOf]; omega
            · have Hf := Lib.hid (HP.out.bad Hm.out hlt Hdx.out (by rw [Hpo.out, Hk0.out rfl, Hv3.out rfl]))
              go_wp2
              go_ret2
              rw [Hf.out]
              exact ⟨none, 0, rfl, Oc.nil _ _ _ _, (b1.trans (hbel3.mono z1)).trans (b36.mono (by omega))⟩
          · have Hf := Lib.hid (HP.out.bad Hm.out hlt Hdx.out (by rw [Hpo.out, Hk3.out rfl]))
            go_wp2
            go_ret2
            rw [Hf.out]
            exact ⟨none, 0, rfl, Oc.nil _ _ _ _, (b1.trans (hbel3.mono z1)).trans (b36.mono (by omega))⟩
        · have Hf := Lib.hid (hP.bad Hm.out hlt hdx (pairOf_len (by rw [hQ]; exact h2)))
          have hcl := (cut_len 9 x).1
          rw [hQ] at hcl
          obtain ⟨qn, hqn⟩ : ∃ qn, Q.length = qn := ⟨_, rfl⟩
          rw [hqn] at hcl h2
          have hne : ((qn : Int) != 2) = true := by simp; omega
          have hne0 : ((qn : Int) == 2) = false := by simp; omega
          have HQ := Lib.hid hQ; have Hqn := Lib.hid hqn
          clear hQ hx hdx hP h2 hPk hqn
          go_wp2_with fail
          refine (cut_row_n 9 ⟨x.toArray⟩ Q qn _ (by simp [ByteArray.size]; omega) HQ.out Hqn.out).mono ?_
          rintro e w4 ⟨A4, c4, rfl, r4, b4⟩
          clear r4
          go_wp2
          go_ret2
          rw [Hf.out]
          exact ⟨none, 0, rfl, Oc.nil _ _ _ _, (b1.trans (hbel3.mono z1)).trans (b4.mono (by omega))⟩
      · have hke : k = m := by omega
        subst hke
        have Hf := Lib.hid (hP.end_ Hd.out)
        clear hP hPk
        go_wp2
        go_ret2
        rw [Hf.out]
        exact ⟨A3, c3, rfl, hown3.mono z1, b1.trans (hbel3.mono z1)⟩
  · have hne := ne_empty hxe
    have hne2 : x.isEmpty = false := by simpa using hne
    have Hf := Lib.hid (show Fm.pairsL L = none by
      rw [← List.take_append_drop m L, hd]
      exact pairsL_last _ _ hxe)
    clear hd hx hxe
    go_wp2
    go_ret2
    rw [Hf.out]
    exact ⟨none, 0, rfl, Oc.nil _ _ _ _, b1⟩
end Go.Proofs.Ytihfejjkkgnneaa
