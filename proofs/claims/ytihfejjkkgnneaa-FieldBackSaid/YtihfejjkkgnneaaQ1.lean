/-
  Words for pairs in memory; field.Lines, the document's Lines.
-/
import Derived.Test.YtihfejjkkgnneaaF6
import Derived.Test.YtihfejjkkgnneaaG1
import Derived.Test.YtihfejjkkgnneaaW3
namespace Go.Proofs.Ytihfejjkkgnneaa
open Go.RowKit Go.Maps

/-- The cells of pairs. -/
def pvs (l : List (List UInt8 × List UInt8)) : List Value := l.flatMap fun p => [.string ⟨p.1.toArray⟩, .string ⟨p.2.toArray⟩]
theorem pvs_length (l : List (List UInt8 × List UInt8)) : (pvs l).length = l.length * 2 := by
  induction l with
  | nil => rfl
  | cons p r ih => simp only [pvs, List.flatMap_cons, List.length_append, List.length_cons, List.length_nil] at ih ⊢; omega
theorem pvs_append (l r : List (List UInt8 × List UInt8)) : pvs (l ++ r) = pvs l ++ pvs r := by simp [pvs]
theorem pvs_one (l : List (List UInt8 × List UInt8)) : ∀ u ∈ pvs l, u.oneCell' = true := by
  intro u hu
  obtain ⟨p, _, hp⟩ := List.mem_flatMap.1 hu
  simp at hp
  rcases hp with rfl | rfl <;> rfl
theorem pvs_get : ∀ (l : List (List UInt8 × List UInt8)) (k : Nat) (p : List UInt8 × List UInt8), l[k]? = some p → (pvs l)[k * 2]? = some (.string ⟨p.1.toArray⟩) ∧ (pvs l)[k * 2 + 1]? = some (.string ⟨p.2.toArray⟩)
  | [], k, p, h => by simp at h
  | q :: r, 0, p, h => by
    simp at h
    subst h
    simp [pvs]
  | q :: r, k + 1, p, h => by
    have ih := pvs_get r k p (by simpa using h)
    have e : pvs (q :: r) = .string ⟨q.1.toArray⟩ :: .string ⟨q.2.toArray⟩ :: pvs r := rfl
    rw [e, show (k + 1) * 2 = k * 2 + 1 + 1 by omega, show k * 2 + 1 + 1 + 1 = (k * 2 + 1) + 1 + 1 by omega]
    exact ih
/-- A slice of pairs. -/
def RP (w : World) (B : Nat) (A : Option Addr) (n c : Nat) (l : List (List UInt8 × List UInt8)) : Prop := Rc 2 w B A n c (pvs l)
theorem RP.len {w : World} {B : Nat} {A : Option Addr} {n c : Nat} {l : List (List UInt8 × List UInt8)} (h : RP w B A n c l) : l.length = n := by
  have := Rc.len h
  rw [pvs_length] at this
  omega
theorem RP.at_ {w : World} {B : Nat} {A : Option Addr} {n c k : Nat} {l : List (List UInt8 × List UInt8)} (h : RP w B A n c l) (hk : k < n) :
    ∃ b off p, A = some ⟨b, off, none⟩ ∧ b < B ∧ w.cell? ⟨b, off + k * 2, none⟩ = some (.string ⟨p.1.toArray⟩) ∧ w.cell? ⟨b, off + k * 2 + 1, none⟩ = some (.string ⟨p.2.toArray⟩) ∧ l[k]? = some p ∧ l.drop k = p :: l.drop (k + 1) := by
  have hl := h.len
  obtain ⟨b, off, u, v, rfl, hb, h1, h2, h3, h4⟩ := Rc.at2 h hk
  have hkl : k < l.length := by omega
  obtain ⟨g1, g2⟩ := pvs_get l k l[k] (List.getElem?_eq_getElem hkl)
  rw [g1] at h3
  rw [g2] at h4
  injection h3 with h3
  injection h4 with h4
  subst h3 h4
  exact ⟨b, off, l[k], rfl, hb, h1, h2, List.getElem?_eq_getElem hkl, List.drop_eq_getElem_cons hkl⟩
theorem RP.below {w w' : World} {B : Nat} {A : Option Addr} {n c : Nat} {l : List (List UInt8 × List UInt8)} (h : RP w B A n c l) (hb : Below B w w') : RP w' B A n c l := Rc.below h hb
theorem RP.more {w : World} {B B' : Nat} {A : Option Addr} {n c : Nat} {l : List (List UInt8 × List UInt8)} (h : RP w B A n c l) (hb : B ≤ B') : RP w B' A n c l := Rc.more h hb

theorem lines_cons (p : List UInt8 × List UInt8) (r : List (List UInt8 × List UInt8)) : Fm.lines (p :: r) = Fm.esc p.1 ++ [9] ++ Fm.esc p.2 ++ [10] ++ Fm.lines r := by
  simp [Fm.lines, Fm.lineOf]
def LinRel (base : Nat) (w : World) (l : List (List UInt8 × List UInt8)) (n : Nat) (o i : Value) (wr : World) : Prop :=
  ∃ A c M, ∃ k : Nat, o = .slice A M.length c ∧ i = .int .i64 (k : Int) ∧ k ≤ n ∧ Own wr 5 base A c M ∧ M ++ Fm.lines (l.drop k) = Fm.lines l ∧ Below base w wr
/-- All texts are short. -/
def Shorts (l : List (List UInt8 × List UInt8)) : Prop := ∀ p ∈ l, p.1.length ≤ 90000 ∧ p.2.length ≤ 90000

set_option maxRecDepth 100000 in
set_option maxHeartbeats 2000000 in
/-- field.Lines -/
theorem lines_c (A : Option Addr) (n c B : Nat) (l : List (List UInt8 × List UInt8)) (w : World) (hr : RP w B A n c l) (hB : B ≤ w.heap.size) (hn : n ≤ 100000) (hs : Shorts l) (hsz : (Fm.lines l).length ≤ 600000) :
    Calls Try.prog 27 #[.slice A n c] w (RetB w.heap.size w (Fm.lines l)) := by
  have hl := hr.len
  have Hr := Lib.hid hr; have Hl := Lib.hid hl; have Hs := Lib.hid hs; clear hr hl hs
  go_enter Try.func27, Try.ntmps27
  go_wp2_with fail
  refine (escapes_c _).mono ?_
  rintro e w1 ⟨rfl, hm1, hb1⟩
  have hlt1 := hm1.lt
  have hsz1 := hb1.size
  have Hm := Lib.hid hm1; clear hm1
  go_wp2
  go_loopw [4, 10] (fun o i wr => LinRel w1.heap.size w1 l n o i wr) (fun _ i _ => n - (intOf i).toNat)
  case atStart => exact ⟨none, 0, [], 0, rfl, rfl, Nat.zero_le _, Own.nil _ _ _, by simp, Below.refl _ _⟩
  case round =>
    obtain ⟨A3, c3, M, k, rfl, rfl, hk, hown3, hM, hbel3⟩ := hrel
    have hsz3 := hbel3.size
    have hrr := ((Hr.out.below (hb1.mono hB)).more (show B ≤ w1.heap.size by omega)).below hbel3
    have hmr := Hm.out.below hbel3 hlt1
    by_cases hlt : k < n
    · obtain ⟨b, off, p, rfl, hbB, hcK, hcV, hx, hd⟩ := hrr.at_ hlt
      obtain ⟨s1, s2⟩ := Hs.out p (List.mem_of_getElem? hx)
      rw [hd, lines_cons, ← List.append_assoc, ← List.append_assoc, ← List.append_assoc, ← List.append_assoc] at hM
      have hMl := congrArg List.length hM
      simp only [List.length_append, List.length_cons, List.length_nil] at hMl
      obtain ⟨M2, hM2⟩ : ∃ M2, M ++ Fm.esc p.1 = M2 := ⟨_, rfl⟩
      obtain ⟨M3, hM3⟩ : ∃ M3, M2 ++ [9] = M3 := ⟨_, rfl⟩
      obtain ⟨M4, hM4⟩ : ∃ M4, M3 ++ Fm.esc p.2 = M4 := ⟨_, rfl⟩
      obtain ⟨M5, hM5⟩ : ∃ M5, M4 ++ [10] = M5 := ⟨_, rfl⟩
      rw [hM2, hM3, hM4, hM5] at hM
      have q1 : M.length ≤ 600000 := by omega
      have q2 : M2.length ≤ 600000 := by rw [← hM2, List.length_append]; omega
      have q3 : M3.length ≤ 600000 := by rw [← hM3, ← hM2]; simp; omega
      have q4 : M4.length ≤ 600000 := by rw [← hM4, ← hM3, ← hM2]; simp; omega
      have q5 : M5.length ≤ 600000 := by rw [← hM5, ← hM4, ← hM3, ← hM2]; simp; omega
      have HM := Lib.hid hM; have Hrr := Lib.hid hrr; have Hmr := Lib.hid hmr; have H2 := Lib.hid hM2; have H3 := Lib.hid hM3; have H4 := Lib.hid hM4; have H5 := Lib.hid hM5; clear hM hd hMl hrr hmr hx hM2 hM3 hM4 hM5
      obtain ⟨wb, hwb⟩ : ∃ wb, wb = wr.alloc (.cells #[.string ⟨p.1.toArray⟩, .string ⟨p.2.toArray⟩] 52) := ⟨_, rfl⟩
      have bb : Below wr.heap.size wr wb := by rw [hwb]; exact (Below.refl _ _).alloc (Nat.le_refl _) _
      have zb : wb.heap.size = wr.heap.size + 1 := by rw [hwb]; simp
      have cb : wb.cell? ⟨wr.heap.size, 1, none⟩ = some (.string ⟨p.2.toArray⟩) := by rw [hwb]; simp
      have ob_ : Own wb 5 w1.heap.size A3 c3 M := hown3.keep bb
      have nb : some wr.heap.size ≠ ob A3 := own_ne hown3 _ (Nat.le_refl _)
      have mb := Hmr.out.below bb (by omega)
      have Wb := Lib.hid hwb; have Zb := Lib.hid zb; have Cb := Lib.hid cb; have Nb := Lib.hid nb; have Mb := Lib.hid mb; clear hwb zb cb nb mb
      go_wp2_with fail
      rw [← Wb.out]
      refine (addEscaped_to w.heap.size w1.heap.size A3 c3 M M2 ⟨p.1.toArray⟩ _ Mb.out hlt1 ob_ (by have := Zb.out; omega) (by omega) (by simp [ByteArray.size]; omega) H2.out).mono ?_
      rintro e w4 ⟨A4, c4, rfl, hown4, hg4⟩
      have cb4 := (hg4.cell ⟨wr.heap.size, 1, none⟩ (by have := Zb.out; show wr.heap.size < _; omega) Nb.out).trans Cb.out
      have nb4 : some wr.heap.size ≠ ob A4 := by
        rcases hg4.2 with h | ⟨g, h, h'⟩
        · rw [h]; exact Nb.out
        · rw [h]
          intro e
          injection e with e
          have := Zb.out
          omega
      have bl4 := hg4.below ob_ (by have := Zb.out; omega)
      have z4 := hg4.size
      have mb4 := Mb.out.below bl4 hlt1
      have Cb4 := Lib.hid cb4; have Nb4 := Lib.hid nb4; have Mb4 := Lib.hid mb4; clear cb4 nb4 mb4
      go_wp2_with (at_builtin; go_must (refine bty.wpAppTo rfl (.tmp 19) (.tmp 20) rfl (l := M2) (r := [9]) (N := M3) rfl rfl (hown4.alloc _) (Rb.oneI _ _ _ 9 rfl) H3.out ?hs1 ?hs2 ?_))
      case hs1 => omega
      case hs2 => have := Zb.out; simp; omega
      intro A5 c5 w5 hown5 hg5
      have hg5' : Grows w4 w5 A4 A5 := Grows.pre ((Below.refl _ _).alloc (Nat.le_refl _) _) hg5
      have z5 := hg5'.size
      have cb5 := (hg5'.cell ⟨wr.heap.size, 1, none⟩ (by have := Zb.out; show wr.heap.size < _; omega) Nb4.out).trans Cb4.out
      have bl5 := hg5'.below hown4 (by have := Zb.out; omega)
      have mb5 := Mb4.out.below bl5 hlt1
      have Mb5 := Lib.hid mb5; clear mb5 hg5
      go_wp2_with fail
      refine (addEscaped_to w.heap.size w1.heap.size A5 c5 M3 M4 ⟨p.2.toArray⟩ _ Mb5.out hlt1 hown5 (by have := Zb.out; omega) (by omega) (by simp [ByteArray.size]; omega) H4.out).mono ?_
      rintro e w6 ⟨A6, c6, rfl, hown6, hg6⟩
      have z6 := hg6.size
      have bl6 := hg6.below hown5 (by have := Zb.out; omega)
      clear hg6
      go_wp2_with (at_builtin; go_must (refine bty.wpAppTo rfl (.tmp 27) (.tmp 28) rfl (l := M4) (r := [10]) (N := M5) rfl rfl (hown6.alloc _) (Rb.oneI _ _ _ 10 rfl) H5.out ?hs3 ?hs4 ?_))
      case hs3 => omega
      case hs4 => have := Zb.out; simp; omega
      intro A7 c7 w7 hown7 hg7
      have hg7' : Grows w6 w7 A6 A7 := Grows.pre ((Below.refl _ _).alloc (Nat.le_refl _) _) hg7
      have bl7 := hg7'.below hown6 (by have := Zb.out; omega)
      have Hown7 := Lib.hid hown7; clear hown7 hg7 hg7'
      have blz : Below w1.heap.size w1 w7 := (((hbel3.trans (bb.mono hsz3)).trans bl4).trans bl5).trans (bl6.trans bl7)
      go_wp2
      go_roundw
      case rel => exact ⟨A7, c7, M5, k + 1, rfl, by go_num, by omega, Hown7.out, HM.out, blz⟩
      case measure => simp [intOf]; omega
    · have hMT : M = Fm.lines l := by
        rw [← hM, List.drop_of_length_le (by rw [Hl.out]; omega)]
        simp [Fm.lines]
      have HMT := Lib.hid hMT
      clear hM hrr hMT hmr
      go_wp2
      go_ret
      rw [← HMT.out]
      exact ⟨A3, c3, rfl, hown3.mono hsz1, hb1.trans (hbel3.mono hsz1)⟩
end Go.Proofs.Ytihfejjkkgnneaa
