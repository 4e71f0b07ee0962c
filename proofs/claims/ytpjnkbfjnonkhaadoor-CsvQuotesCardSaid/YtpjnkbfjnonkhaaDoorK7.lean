/-
  The document's ends, plain, quoted: what each call returns and leaves.
-/
import Derived.Test.YtpjnkbfjnonkhaaDoorD4
import Derived.Test.YtpjnkbfjnonkhaaDoorCq
namespace Go.Proofs.YtpjnkbfjnonkhaaDoor
open Go.RowKit

set_option maxRecDepth 100000 in
/-- ends -/
theorem ends_c (A : Option Addr) (n c B : Nat) (l : List UInt8) (a : Nat) (w : World) (hr : Rb w B A n c l) (hn : n ≤ 1000000) (ha : a ≤ n) :
    Calls Tryd.prog 34 #[.slice A n c, .int .i64 (a : Int)] w fun e w' => e = .returned (.int .i64 ((Cv.En (l.drop a) : Nat) : Int)) ∧ w = w' := by
  have hl := hr.len
  by_cases h1 : a < n
  · obtain ⟨b, off, x, rfl, hb, hcx, hgx, hdx⟩ := hr.at_ h1
    by_cases h10 : x = 10
    · subst h10
      have he : Cv.En (l.drop a) = 1 := by rw [hdx]; rfl
      rw [he]
      clear hr hgx hdx he hl
      go_enter Tryd.func34, Tryd.ntmps34
      go_wp2
      go_ret
      exact ⟨rfl, rfl⟩
    · have d10 : ((x.toNat : Int) == 10) = false := nb (y := 10) h10
      by_cases h2 : a + 1 < n
      · obtain ⟨y, _, hcy, hgy, hdy⟩ := hr.atL h2
        have h2' : (a : Int) + 1 < (n : Int) := by omega
        by_cases h13 : x = 13
        · subst h13
          by_cases hy : y = 10
          · subst hy
            have he : Cv.En (l.drop a) = 2 := by rw [hdx, hdy]; rfl
            rw [he]
            clear hr hgx hdx he hl hgy hdy
            go_enter Tryd.func34, Tryd.ntmps34
            go_wp2
            go_ret
            exact ⟨rfl, rfl⟩
          · have dy : ((y.toNat : Int) == 10) = false := nb (y := 10) hy
            have he : Cv.En (l.drop a) = 0 := by rw [hdx, hdy]; exact Cv.En_lone (by simpa using hy)
            rw [he]
            clear hr hgx hdx he hl hgy hdy
            go_enter Tryd.func34, Tryd.ntmps34
            go_wp2
            go_ret
            exact ⟨rfl, rfl⟩
        · have d13 : ((x.toNat : Int) == 13) = false := nb (y := 13) h13
          have he : Cv.En (l.drop a) = 0 := by rw [hdx]; exact Cv.En_other h10 h13
          rw [he]
          clear hr hgx hdx he hl hgy hdy
          go_enter Tryd.func34, Tryd.ntmps34
          go_wp2
          go_ret
          exact ⟨rfl, rfl⟩
      · have he : Cv.En (l.drop a) = 0 := by
          rw [hdx, List.drop_eq_nil_of_le (by omega)]
          by_cases h13 : x = 13
          · subst h13; rfl
          · exact Cv.En_other h10 h13
        have d2 : decide ((a : Int) + 1 < (n : Int)) = false := by simp; omega
        have h2' : ¬ ((a : Int) + 1 < (n : Int)) := by omega
        rw [he]
        clear hr hgx hdx he hl
        go_enter Tryd.func34, Tryd.ntmps34
        go_wp2
        go_ret
        exact ⟨rfl, rfl⟩
  · have he : Cv.En (l.drop a) = 0 := by rw [List.drop_eq_nil_of_le (by omega)]; rfl
    have h2' : ¬ ((a : Int) + 1 < (n : Int)) := by omega
    rw [he]
    clear hr he hl
    go_enter Tryd.func34, Tryd.ntmps34
    go_wp2
    go_ret
    exact ⟨rfl, rfl⟩

/-- What plain and quoted return. -/
def RetFld (w : World) (l : List UInt8) (st st' : Cv.St) (a : Nat) (e : Ending) (w' : World) : Prop :=
  (∃ k : Nat, e = .returned (.tuple #[.string ⟨#[]⟩, .int .i64 0, .int .i64 (k : Int)]) ∧ Cv.FErr l st a k ∧ Below w.heap.size w w') ∨
  ∃ s, ∃ m : Nat, e = .returned (.tuple #[.string ⟨List.toArray s⟩, .int .i64 (m : Int), .int .i64 0]) ∧ Cv.FOk l st st' a s m ∧ Below w.heap.size w w'
def PlRel (l : List UInt8) (a n : Nat) (t : Value) : Prop := ∃ p : Nat, t = .int .i64 (p : Int) ∧ a ≤ p ∧ p ≤ n ∧ p - a ≤ 1000 ∧ ∀ r, Cv.run .un r [] (l.drop a) = Cv.run .un r ((l.take p).drop a) (l.drop p)

set_option maxHeartbeats 1000000 in
set_option maxRecDepth 100000 in
/-- plain -/
theorem plain_c (A : Option Addr) (n c B : Nat) (l : List UInt8) (a : Nat) (w : World) (hr : Rb w B A n c l) (hn : n ≤ 1000000) (ha : a ≤ n) :
    Calls Tryd.prog 33 #[.slice A n c, .int .i64 (a : Int)] w (RetFld w l .un .un a) := by
  have hl := hr.len
  have hfin : ∀ p, a ≤ p → p ≤ n → p - a ≤ 1000 → (∀ r, Cv.run .un r [] (l.drop a) = Cv.run .un r ((l.take p).drop a) (l.drop p)) → Cv.Stop (l.drop p) →
      ∃ D, (∀ W, (Instr.slice 22 (.slice A n c) (some (.int .i64 (a : Int))) (some (.int .i64 (p : Int))) none).run Tryd.prog W = .ok (.slice D (p - a) (c - a)) W) ∧ (convert 22 9 (.slice D (p - a) (c - a))).run Tryd.prog w = .ok (.string ⟨((l.take p).drop a).toArray⟩) w ∧
        RetFld w l .un .un a (.returned (.tuple #[.string ⟨((l.take p).drop a).toArray⟩, .int .i64 (p : Int), .int .i64 0])) w := fun p h1 h2 h3 h4 h5 => by
    obtain ⟨D, hD, hrD⟩ := bty.mid_ hr (i := a) (k := p) h1 h2 (a : Int) (p : Int) rfl rfl (p - a) rfl
    exact ⟨D, hD, bty.conv hrD, .inr ⟨_, p, rfl, ⟨by rw [List.length_drop, List.length_take]; omega, h1, by omega, h5, h4⟩, Below.refl _ _⟩⟩
  have Hr := Lib.hid hr; have Hl := Lib.hid hl; have Hfin := Lib.hid hfin; clear hr hl hfin
  go_enter Tryd.func33, Tryd.ntmps33
  go_wp2
  go_loop [1] (fun t => PlRel l a n t) (fun t => n - (intOf t).toNat)
  case atStart => exact ⟨a, rfl, Nat.le_refl _, ha, by omega, fun r => by
    have e : (l.take a).drop a = [] := List.drop_eq_nil_of_le (by rw [List.length_take]; omega)
    rw [e]⟩
  case round =>
    obtain ⟨p, rfl, hap, hpn, hpl, hrun⟩ := hrel
    by_cases h1 : p < n
    · obtain ⟨b, off, x, rfl, hb, hcx, hgx, hdx⟩ := Hr.out.at_ h1
      have hends := ends_c (some ⟨b, off, none⟩) n c B l p w Hr.out hn hpn
      by_cases h44 : x = 44
      · subst h44
        obtain ⟨D, hD, hcv, hret⟩ := Hfin.out p hap hpn hpl hrun (.inr (.inl ⟨_, hdx⟩))
        have Hret := Lib.hid hret; clear hret hrun hgx hdx hends
        go_wp2
        go_ret3
        exact Hret.out
      · have d44 : ((x.toNat : Int) == 44) = false := nb (y := 44) h44
        have d44' : ((x.toNat : Int) != 44) = true := by simp [bne, d44]
        by_cases hE : Cv.En (l.drop p) = 0
        · rw [hE] at hends
          rw [hdx] at hE
          have hstep := fun r => hrun r
          rw [hdx] at hstep
          by_cases h34 : x = 34 ∨ x = 13
          · have hret : RetFld w l .un .un a (.returned (.tuple #[.string ⟨#[]⟩, .int .i64 0, .int .i64 3])) w := .inl ⟨3, rfl, ⟨.inl rfl, fun r => by rw [hstep r]; exact Cv.un_bad h44 hE h34⟩, Below.refl _ _⟩
            have Hret := Lib.hid hret; have Hends := Lib.hid hends; clear hret hrun hgx hdx hends hstep hE
            by_cases h3 : x = 34
            · subst h3
              go_wp2_with fail
              refine Hends.out.mono ?_
              rintro e w' ⟨rfl, rfl⟩
              go_wp2
              go_ret3
              exact Hret.out
            · obtain rfl : x = 13 := h34.resolve_left h3
              go_wp2_with fail
              refine Hends.out.mono ?_
              rintro e w' ⟨rfl, rfl⟩
              go_wp2
              go_ret3
              exact Hret.out
          · have h3 : x ≠ 34 := fun h => h34 (.inl h)
            have h13 : x ≠ 13 := fun h => h34 (.inr h)
            have d34 : ((x.toNat : Int) == 34) = false := nb (y := 34) h3
            have d13 : ((x.toNat : Int) == 13) = false := nb (y := 13) h13
            have hfl : ((l.take p).drop a).length = p - a := by rw [List.length_drop, List.length_take, Hl.out]; omega
            by_cases hbig : p - a = 1000
            · have hret : RetFld w l .un .un a (.returned (.tuple #[.string ⟨#[]⟩, .int .i64 0, .int .i64 5])) w := .inl ⟨5, rfl, ⟨.inr rfl, fun r => by rw [hstep r]; exact Cv.un_large h44 hE h3 h13 (by omega)⟩, Below.refl _ _⟩
              have Hret := Lib.hid hret; have Hends := Lib.hid hends; clear hret hrun hgx hdx hends hstep hE h34
              have hb2 : (1000 : Int) < (p : Int) + 1 - (a : Int) := by omega
              go_wp2_with fail
              refine Hends.out.mono ?_
              rintro e w' ⟨rfl, rfl⟩
              go_wp2
              go_ret3
              exact Hret.out
            · have hnext : ∀ r, Cv.run .un r [] (l.drop a) = Cv.run .un r ((l.take (p + 1)).drop a) (l.drop (p + 1)) := fun r => by
                rw [hstep r, Cv.un_go h44 hE h3 h13 (by omega), List.take_add_one, hgx, List.drop_append_of_le_length (by rw [List.length_take, Hl.out]; omega)]; rfl
              have Hnext := Lib.hid hnext; have Hends := Lib.hid hends; clear hnext hrun hgx hdx hends hstep hE h34 hfl
              have hb2 : ¬ (1000 : Int) < (p : Int) + 1 - (a : Int) := by omega
              go_wp2_with fail
              refine Hends.out.mono ?_
              rintro e w' ⟨rfl, rfl⟩
              go_wp2
              go_round
              case rel => exact ⟨p + 1, by go_num, by omega, by omega, by omega, Hnext.out⟩
              case measure => simp [intOf]; omega
        · obtain ⟨D, hD, hcv, hret⟩ := Hfin.out p hap hpn hpl hrun (.inr (.inr hE))
          obtain ⟨k, hk⟩ : ∃ k, k = Cv.En (l.drop p) := ⟨_, rfl⟩
          rw [← hk] at hends hE
          have dk : ((k : Int) == 0) = false := by rw [beq_eq_false_iff_ne]; omega
          have Hret := Lib.hid hret; have Hends := Lib.hid hends; clear hret hrun hgx hdx hends hk
          go_wp2_with fail
          refine Hends.out.mono ?_
          rintro e w' ⟨rfl, rfl⟩
          go_wp2
          go_ret3
          exact Hret.out
    · obtain rfl : p = n := by omega
      obtain ⟨D, hD, hcv, hret⟩ := Hfin.out p hap hpn hpl hrun (.inl (by rw [← Hl.out, List.drop_length]))
      have Hret := Lib.hid hret; clear hret hrun
      go_wp2
      go_ret3
      exact Hret.out

def QuRel (base : Nat) (w : World) (l : List UInt8) (a n : Nat) (t o : Value) (wr : World) : Prop :=
  ∃ A c out, ∃ p : Nat, t = .int .i64 (p : Int) ∧ o = .slice A out.length c ∧ a ≤ p ∧ p ≤ n ∧ out.length ≤ 1000 ∧ Own wr 5 base A c out ∧ (∀ r, Cv.run .qu r [] (l.drop a) = Cv.run .qu r out (l.drop p)) ∧ Below base w wr

set_option maxHeartbeats 2000000 in
set_option maxRecDepth 100000 in
/-- quoted -/
theorem quotedD_c (A : Option Addr) (n c : Nat) (l : List UInt8) (a : Nat) (w : World) (hr : Rb w w.heap.size A n c l) (hn : n ≤ 1000000) (ha : a ≤ n) :
    Calls Tryd.prog 32 #[.slice A n c, .int .i64 (a : Int)] w (RetFld w l .qu .aq a) := by
  have hl := hr.len
  have hbad : ∀ k : Nat, (k = 3 ∨ k = 5) → ∀ W, Below w.heap.size w W → (∀ r, Cv.run .qu r [] (l.drop a) = .err k) → RetFld w l .qu .aq a (.returned (.tuple #[.string ⟨#[]⟩, .int .i64 0, .int .i64 (k : Int)])) W := fun k hk W hb h => .inl ⟨k, rfl, ⟨hk, h⟩, hb⟩
  have hgood : ∀ s p W, a ≤ p → p ≤ n → s.length ≤ 1000 → Below w.heap.size w W → Cv.Stop (l.drop p) → (∀ r, Cv.run .qu r [] (l.drop a) = Cv.run .aq r s (l.drop p)) → RetFld w l .qu .aq a (.returned (.tuple #[.string ⟨List.toArray s⟩, .int .i64 ((p : Nat) : Int), .int .i64 0])) W := fun s p W h1 h2 h3 hb h4 h5 => .inr ⟨s, p, rfl, ⟨h3, h1, by omega, h4, h5⟩, hb⟩
  have Hr := Lib.hid hr; have Hl := Lib.hid hl; have Hbad := Lib.hid hbad; have Hgood := Lib.hid hgood; clear hr hl hbad hgood
  go_enter Tryd.func32, Tryd.ntmps32
  go_wp2
  go_loopw [1, 7] (fun t o wr => QuRel w.heap.size w l a n t o wr) (fun t _ _ => n - (intOf t).toNat)
  case atStart => exact ⟨some ⟨w.heap.size, 0, none⟩, 0, [], a, rfl, rfl, Nat.le_refl _, ha, by simp, Own.made0 _ _, fun r => rfl, (Below.refl _ _).alloc (Nat.le_refl _) _⟩
  case round =>
    obtain ⟨A3, c3, out, p, rfl, rfl, hap, hpn, hol, hown, hrun, hbel⟩ := hrel
    have z3 := hbel.size
    rename World => wr
    have hr3 := Hr.out.below hbel
    have Hown := Lib.hid hown; clear hown
    by_cases h1 : p < n
    · obtain ⟨b, off, x, rfl, hb, hcx, hgx, hdx⟩ := hr3.at_ h1
      have hstep := fun r => hrun r
      rw [hdx] at hstep
      by_cases h34 : x = 34
      · subst h34
        by_cases h2 : p + 1 < n ∧ l[p + 1]? = some 34
        · obtain ⟨y, _, hcy, hgy, hdy⟩ := hr3.atL h2.1
          obtain rfl : y = 34 := by rw [h2.2] at hgy; injection hgy with h; exact h.symm
          have h21 := h2.1
          have hp1 : (p : Int) + 1 < (n : Int) := by omega
          by_cases hbig : out.length = 1000
          · have hret : ∀ W, Below w.heap.size w W → RetFld w l .qu .aq a (.returned (.tuple #[.string ⟨#[]⟩, .int .i64 0, .int .i64 5])) W := fun W hW => Hbad.out 5 (.inr rfl) W hW fun r => by rw [hstep r, Cv.qu_aq, hdy]; exact Cv.aq_large hbig
            have Hret := Lib.hid hret; clear hret hrun hgx hdx hstep hgy hdy h2 hr3
            have hb2 : (1000 : Int) < ((out ++ [(34 : UInt8)]).length : Int) := by simp; omega
            go_wp2_with (at_builtin; go_must (refine bty.wpApp rfl (.tmp 40) (.tmp 41) rfl (l := out) (r := [34]) rfl rfl (Hown.out.alloc _) (Rb.oneI _ _ _ 34 rfl) ?hs1 ?hs2 ?_))
            case hs1 => first | omega | (simp; omega)
            case hs2 => first | omega | (simp; omega)
            intro A6 c6 w6 hown6 hb6
            have hbel6 := (hbel.trans ((Below.refl w.heap.size wr).alloc z3 (.cells #[.int .u8 34] 5))).trans hb6
            clear hown6 hcx hcy
            go_wp2
            go_ret3
            exact Hret.out _ hbel6
          · have hnext : ∀ r, Cv.run .qu r [] (l.drop a) = Cv.run .qu r (out ++ [34]) (l.drop (p + 2)) := fun r => by rw [hstep r, Cv.qu_aq, hdy]; exact Cv.aq_go hbig
            have Hnext := Lib.hid hnext; clear hnext hrun hgx hdx hstep hgy hdy h2 hr3
            have hb2 : ¬ (1000 : Int) < ((out ++ [(34 : UInt8)]).length : Int) := by simp; omega
            go_wp2_with (at_builtin; go_must (refine bty.wpApp rfl (.tmp 40) (.tmp 41) rfl (l := out) (r := [34]) rfl rfl (Hown.out.alloc _) (Rb.oneI _ _ _ 34 rfl) ?hs1 ?hs2 ?_))
            case hs1 => first | omega | (simp; omega)
            case hs2 => first | omega | (simp; omega)
            intro A6 c6 w6 hown6 hb6
            have hbel6 := (hbel.trans ((Below.refl w.heap.size wr).alloc z3 (.cells #[.int .u8 34] 5))).trans hb6
            have Hown6 := Lib.hid hown6; clear hown6 hcx hcy
            go_wp2
            go_roundw
            case rel => exact ⟨A6, c6, out ++ [34], p + 2, by go_num, by simp, by omega, by omega, by simp; omega, Hown6.out, Hnext.out, hbel6⟩
            case measure => simp [intOf]; omega
        · have hends := fun W (h : Rb W w.heap.size (some ⟨b, off, none⟩) n c l) => ends_c (some ⟨b, off, none⟩) n c w.heap.size l (p + 1) W h hn (by omega)
          have hcv := bty.conv Hown.out.rb
          have haq : ∀ r, Cv.run .qu r [] (l.drop a) = Cv.run .aq r out (l.drop (p + 1)) := fun r => by rw [hstep r, Cv.qu_aq]
          by_cases h3 : p + 1 < n
          · obtain ⟨y, _, hcy, hgy, hdy⟩ := hr3.atL h3
            have hy34 : y ≠ 34 := fun e => h2 ⟨h3, by rw [hgy, e]⟩
            have e34 : ((y.toNat : Int) == 34) = false := nb (y := 34) hy34
            have hp1 : (p : Int) + 1 < (n : Int) := by omega
            by_cases h44 : y = 44
            · subst h44
              have hret := Hgood.out out (p + 1) wr (by omega) (by omega) hol hbel (.inr (.inl ⟨_, hdy⟩)) haq
              have Hret := Lib.hid hret; clear hret hrun hgx hdx hstep hgy hdy h2 hr3 haq hends
              go_wp2
              go_ret3
              simpa using Hret.out
            · have d44 : ((y.toNat : Int) == 44) = false := nb (y := 44) h44
              have d44' : ((y.toNat : Int) != 44) = true := by simp [bne, d44]
              by_cases hE : Cv.En (l.drop (p + 1)) = 0
              · have hret := Hbad.out 3 (.inl rfl) wr hbel fun r => by rw [haq r, hdy]; exact Cv.aq_bad hy34 h44 (by rw [← hdy]; exact hE)
                have hends' := hends wr hr3
                rw [hE] at hends'
                have Hret := Lib.hid hret; have Hends := Lib.hid hends'; clear hret hrun hgx hdx hstep hgy hdy h2 hr3 haq hends hends' hE
                go_wp2_with fail
                refine Hends.out.mono ?_
                rintro e w' ⟨rfl, rfl⟩
                go_wp2
                go_ret3
                exact Hret.out
              · have hret := Hgood.out out (p + 1) wr (by omega) (by omega) hol hbel (.inr (.inr hE)) haq
                have hends' := hends wr hr3
                obtain ⟨k, hk⟩ : ∃ k, k = Cv.En (l.drop (p + 1)) := ⟨_, rfl⟩
                rw [← hk] at hends' hE
                have dk : ((k : Int) == 0) = false := by rw [beq_eq_false_iff_ne]; omega
                have Hret := Lib.hid hret; have Hends := Lib.hid hends'; clear hret hrun hgx hdx hstep hgy hdy h2 hr3 haq hends hends' hk
                go_wp2_with fail
                refine Hends.out.mono ?_
                rintro e w' ⟨rfl, rfl⟩
                go_wp2
                go_ret3
                simpa using Hret.out
          · have hret := Hgood.out out (p + 1) wr (by omega) (by omega) hol hbel (.inl (List.drop_eq_nil_of_le (by have := Hl.out; omega))) haq
            have hp1 : ¬ (p : Int) + 1 < (n : Int) := by omega
            have Hret := Lib.hid hret; clear hret hrun hgx hdx hstep h2 hr3 haq hends
            go_wp2
            go_ret3
            simpa using Hret.out
      · have d34 : ((x.toNat : Int) == 34) = false := nb (y := 34) h34
        have d34' : ((x.toNat : Int) != 34) = true := by simp [bne, d34]
        by_cases hbig : out.length = 1000
        · have hret : ∀ W, Below w.heap.size w W → RetFld w l .qu .aq a (.returned (.tuple #[.string ⟨#[]⟩, .int .i64 0, .int .i64 5])) W := fun W hW => Hbad.out 5 (.inr rfl) W hW fun r => by rw [hstep r]; exact Cv.qu_large h34 hbig
          have Hret := Lib.hid hret; clear hret hrun hgx hdx hstep hr3
          have hb2 : (1000 : Int) < ((out ++ [x]).length : Int) := by simp; omega
          go_wp2_with (at_builtin; go_must (refine bty.wpApp rfl (.tmp 18) (.tmp 23) rfl (l := out) (r := [x]) rfl rfl (Hown.out.alloc _) (Rb.oneI _ _ _ x rfl) ?hs1 ?hs2 ?_))
          case hs1 => first | omega | (simp; omega)
          case hs2 => first | omega | (simp; omega)
          intro A6 c6 w6 hown6 hb6
          have hbel6 := (hbel.trans ((Below.refl w.heap.size wr).alloc z3 (.cells #[.int .u8 (x.toNat : Int)] 5))).trans hb6
          clear hown6 hcx
          go_wp2
          go_ret3
          exact Hret.out _ hbel6
        · have hnext : ∀ r, Cv.run .qu r [] (l.drop a) = Cv.run .qu r (out ++ [x]) (l.drop (p + 1)) := fun r => by rw [hstep r]; exact Cv.qu_go h34 hbig
          have Hnext := Lib.hid hnext; clear hnext hrun hgx hdx hstep hr3
          have hb2 : ¬ (1000 : Int) < ((out ++ [x]).length : Int) := by simp; omega
          go_wp2_with (at_builtin; go_must (refine bty.wpApp rfl (.tmp 18) (.tmp 23) rfl (l := out) (r := [x]) rfl rfl (Hown.out.alloc _) (Rb.oneI _ _ _ x rfl) ?hs1 ?hs2 ?_))
          case hs1 => first | omega | (simp; omega)
          case hs2 => first | omega | (simp; omega)
          intro A6 c6 w6 hown6 hb6
          have hbel6 := (hbel.trans ((Below.refl w.heap.size wr).alloc z3 (.cells #[.int .u8 (x.toNat : Int)] 5))).trans hb6
          have Hown6 := Lib.hid hown6; clear hown6 hcx
          go_wp2
          go_roundw
          case rel => exact ⟨A6, c6, out ++ [x], p + 1, by go_num, by simp, by omega, by omega, by simp; omega, Hown6.out, Hnext.out, hbel6⟩
          case measure => simp [intOf]; omega
    · have hret := Hbad.out 3 (.inl rfl) wr hbel fun r => by rw [hrun r, List.drop_eq_nil_of_le (by have := Hl.out; omega)]; exact Cv.qu_end
      have Hret := Lib.hid hret; clear hret hrun
      go_wp2
      go_ret3
      exact Hret.out
end Go.Proofs.YtpjnkbfjnonkhaaDoor
