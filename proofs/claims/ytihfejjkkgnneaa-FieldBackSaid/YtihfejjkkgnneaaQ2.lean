/-
  The document's Lines; few; rows of pairs that are alike.
-/
import Derived.Test.YtihfejjkkgnneaaQ1
import Derived.BigQuiet
import Derived.Deep.QuietTactic
namespace Go.Proofs.Ytihfejjkkgnneaa
open Go.RowKit Go.Maps

/-- 'append(x, s...)', s a string; the outcome has a name. -/
theorem U8.wpAppStrTo {P : Program} {t e s : TypeId} (u : U8 P t e s) {w : World} {ops : Array Oper} {rest : List Oper} {o : Oper} {a : Act} {Q : Exit → Act → World → Prop} (hgd : o.guard = none) (x y : Operand)
    (ho : o.op = .call { callee := .builtin .append, args := #[x, y], argTypes := #[t, s] })
    {base c : Nat} {A : Option Addr} {l r N : List UInt8} (hx : a.eval x = .slice A l.length c) (hy : a.eval y = .string ⟨r.toArray⟩) (hown : Own w e base A c l) (hN : l ++ r = N)
    (hsm : N.length ≤ 140737488355328) (hbase : base ≤ w.heap.size)
    (h : ∀ A' c' w', Own w' e base A' c' N → Below base w w' → wpList P ops Q rest (a.put o.dst (.slice A' N.length c')) w') : wpList P ops Q (o :: rest) a w := by
  subst hN
  refine u.wpAppStr hgd x y ho hx hy hown ?_ hbase fun A' c' w' h1 h2 => ?_
  · have e : (⟨r.toArray⟩ : ByteArray).size = r.length := by simp [ByteArray.size]
    rw [e, ← List.length_append]
    exact hsm
  · exact h A' c' w' (by simpa using h1) h2
/-- The same for 'append(x, y...)'. -/
theorem U8.wpAppB {P : Program} {t e s : TypeId} (u : U8 P t e s) {w : World} {ops : Array Oper} {rest : List Oper} {o : Oper} {a : Act} {Q : Exit → Act → World → Prop} (hgd : o.guard = none) (x y : Operand)
    (ho : o.op = .call { callee := .builtin .append, args := #[x, y], argTypes := #[t, t] })
    {base c B m d : Nat} {A D : Option Addr} {l r N : List UInt8} (hx : a.eval x = .slice A l.length c) (hy : a.eval y = .slice D m d) (hown : Own w e base A c l) (hr : Rb w B D m d r) (hN : l ++ r = N)
    (hsm : N.length ≤ 140737488355328) (hbase : base ≤ w.heap.size)
    (h : ∀ A' c' w', Own w' e base A' c' N → Below base w w' → wpList P ops Q rest (a.put o.dst (.slice A' N.length c')) w') : wpList P ops Q (o :: rest) a w := by
  subst hN
  exact u.wpApp hgd x y ho hx hy hown hr (by rw [← List.length_append]; exact hsm) hbase h

set_option maxRecDepth 100000 in
set_option maxHeartbeats 2000000 in
/-- the document's Lines -/
theorem rlines_c (A : Option Addr) (n c B : Nat) (l : List (List UInt8 × List UInt8)) (w : World) (hr : RP w B A n c l) (hB : B ≤ w.heap.size) (hn : n ≤ 100000) (hs : Shorts l) (hsz : (Fm.lines l).length ≤ 600000) :
    Calls Try.prog 28 #[.slice A n c] w (RetB w.heap.size w (Fm.lines l)) := by
  have hl := hr.len
  have Hr := Lib.hid hr; have Hl := Lib.hid hl; have Hs := Lib.hid hs; clear hr hl hs
  go_enter Try.func28, Try.ntmps28
  go_wp2
  go_loopw [3, 4] (fun o i wr => LinRel w.heap.size w l n o i wr) (fun _ i _ => n - (intOf i).toNat)
  case atStart => exact ⟨_, _, [], 0, rfl, rfl, Nat.zero_le _, Own.made0 _ _, by simp, (Below.refl _ _).alloc (Nat.le_refl _) _⟩
  case round =>
    obtain ⟨A3, c3, M, k, rfl, rfl, hk, hown3, hM, hbel3⟩ := hrel
    have hsz3 := hbel3.size
    have hrr := (Hr.out.more hB).below hbel3
    by_cases hlt : k < n
    · obtain ⟨b, off, p, rfl, hbB, hcK, hcV, hx, hd⟩ := hrr.at_ hlt
      obtain ⟨s1, s2⟩ := Hs.out p (List.mem_of_getElem? hx)
      rw [hd, lines_cons, ← List.append_assoc, ← List.append_assoc, ← List.append_assoc, ← List.append_assoc] at hM
      have hMl := congrArg List.length hM
      simp only [List.length_append, List.length_cons, List.length_nil] at hMl
      obtain ⟨M2, hM2⟩ : ∃ M2, M ++ Fm.esc p.1 = M2 := ⟨_, rfl⟩
      obtain ⟨M3, hM3⟩ : ∃ M3, M2 ++ [9] = M3 := ⟨_, rfl⟩
      obtain ⟨M4, hM4⟩ : ∃ M4, M3 ++ Fm.esc p.2 = M4 := ⟨_, rfl⟩
      obtain ⟨M5, hM5⟩ : ∃ M5, M4 ++ [10] = M5 := ⟨_, rfl⟩
      rw [hM2, hM3, hM4, hM5] at hM
      have q1 : M.length ≤ 600000 := by omega
      have q2 : M2.length ≤ 600000 := by rw [← hM2, List.length_append]; omega
      have q3 : M3.length ≤ 600000 := by rw [← hM3, ← hM2]; simp; omega
      have q4 : M4.length ≤ 600000 := by rw [← hM4, ← hM3, ← hM2]; simp; omega
      have q5 : M5.length ≤ 600000 := by rw [← hM5, ← hM4, ← hM3, ← hM2]; simp; omega
      have HM := Lib.hid hM; have Hrr := Lib.hid hrr; have H2 := Lib.hid hM2; have H3 := Lib.hid hM3; have H4 := Lib.hid hM4; have H5 := Lib.hid hM5; have HcK := Lib.hid hcK; have HcV := Lib.hid hcV; clear hM hd hMl hrr hx hM2 hM3 hM4 hM5 hcV
      go_wp2_with fail
      refine (rescape_c ⟨p.1.toArray⟩ _ (by simp [ByteArray.size]; omega)).mono ?_
      rintro e w4 ⟨rfl, bl4⟩
      clear hcK
      have z4 := bl4.size
      go_wp2_with (at_builtin; go_must (refine bty.wpAppStrTo rfl (.tmp 12) (.tmp 18) rfl (l := M) (r := Fm.esc p.1) (N := M2) rfl rfl (hown3.keep bl4) H2.out ?hs1 ?hs2 ?_))
      case hs1 => omega
      case hs2 => omega
      intro A5 c5 w5 hown5 bl5
      have z5 := bl5.size
      go_wp2_with (at_builtin; go_must (refine bty.wpAppB rfl (.tmp 20) (.tmp 21) rfl (l := M2) (r := [9]) (N := M3) rfl rfl (hown5.alloc _) (Rb.oneI _ _ _ 9 rfl) H3.out ?hs3 ?hs4 ?_))
      case hs3 => omega
      case hs4 => simp; omega
      intro A6 c6 w6 hown6 bl6
      have bl6' : Below w.heap.size w5 w6 := ((Below.refl _ _).alloc (by omega) _).trans bl6
      have z6 := bl6'.size
      have b36 : Below w.heap.size wr w6 := ((bl4.mono hsz3).trans bl5).trans bl6'
      have hcV6 := (b36.cell (p := ⟨b, off + k * 2 + 1, none⟩) (show b < _ from hbB)).trans HcV.out
      clear bl6
      go_wp2_with fail
      refine (rescape_c ⟨p.2.toArray⟩ _ (by simp [ByteArray.size]; omega)).mono ?_
      rintro e w7 ⟨rfl, bl7⟩
      have z7 := bl7.size
      clear hcV6
      go_wp2_with (at_builtin; go_must (refine bty.wpAppStrTo rfl (.tmp 23) (.tmp 29) rfl (l := M3) (r := Fm.esc p.2) (N := M4) rfl rfl (hown6.keep bl7) H4.out ?hs5 ?hs6 ?_))
      case hs5 => omega
      case hs6 => omega
      intro A8 c8 w8 hown8 bl8
      have z8 := bl8.size
      go_wp2_with (at_builtin; go_must (refine bty.wpAppB rfl (.tmp 31) (.tmp 32) rfl (l := M4) (r := [10]) (N := M5) rfl rfl (hown8.alloc _) (Rb.oneI _ _ _ 10 rfl) H5.out ?hs7 ?hs8 ?_))
      case hs7 => omega
      case hs8 => simp; omega
      intro A9 c9 w9 hown9 bl9
      have blz : Below w.heap.size w w9 := (hbel3.trans b36).trans (((bl7.mono (by omega)).trans bl8).trans (((Below.refl _ _).alloc (by omega) _).trans bl9))
      have Hown9 := Lib.hid hown9; clear hown9 bl9
      go_wp2
      go_roundw
      case rel => exact ⟨A9, c9, M5, k + 1, rfl, by go_num, by omega, Hown9.out, HM.out, blz⟩
      case measure => simp [intOf]; omega
    · have hMT : M = Fm.lines l := by
        rw [← hM, List.drop_of_length_le (by rw [Hl.out]; omega)]
        simp [Fm.lines]
      have HMT := Lib.hid hMT
      clear hM hrr hMT
      go_wp2
      go_ret
      rw [← HMT.out]
      exact ⟨A3, c3, rfl, hown3, hbel3⟩
end Go.Proofs.Ytihfejjkkgnneaa
