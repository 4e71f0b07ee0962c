/-
  The walk of the law FieldRecords.
-/
import Derived.Test.YtihfejjkkgnneaaRa
import Derived.Test.YtihfejjkkgnneaaR8
import Derived.Test.YtihfejjkkgnneaaAl
namespace Go.Proofs.Ytihfejjkkgnneaa
open Go.RowKit

theorem quiet_left {P : Program} {f : FuncId} {args : Array Value} {w : World} {n : Nat} {v : Value}
    (h : Calls P f args (w.drewN n) fun e w' => e = .returned v ∧ w.drewN n = w') : Calls P f args (w.drewN n) fun e w'' => e = .returned v ∧ ∃ m, w'' = w.drewN m :=
  h.mono fun _ _ ⟨he, hm⟩ => ⟨he, n, hm.symm⟩
theorem decS_small (T : List UInt8) : (decS T).1.length ≤ 5000 ∧ (∀ r ∈ (decS T).1, r.length ≤ 50) := by
  unfold decS
  cases h : Fm.dec T with
  | error x => exact ⟨by simp, fun r hr => by simp at hr⟩
  | ok l =>
    obtain ⟨_, h2, h3⟩ := Fm.enc_dec h
    exact ⟨h3, fun r hr => (h2 r hr).1⟩
def MayL (l : List (List (List UInt8))) (A : Option Addr) (n c : Nat) (w : World) (t : Value) (wr : World) : Prop :=
  ∃ k : Nat, t = .int .i64 (k : Int) ∧ k ≤ n ∧ RL wr wr.heap.size A n c l ∧ ∃ q, wr = w.drewN q

set_option maxRecDepth 100000 in
theorem fieldRecords_alive (A D : Option Addr) (n c m d : Nat) (l : List (List (List UInt8))) (w : World) (hr : RL w w.heap.size A n c l) (hz : ∀ r ∈ l, ∀ q ∈ r, q.length ≤ 140737488355328) (hm : m ≤ maxLen) (h : ¬ (wL l ≤ 4000 ∧ l.length ≤ 120) ∨ 4000 < m) :
    Calls Try.prog 3 #[.slice A n c, .slice D m d] w fun e w' => e = .returned (.bool true) ∧ Below w.heap.size w w' := by
  unfold maxLen at hm
  by_cases h1 : wL l ≤ 4000 ∧ l.length ≤ 120
  · have h2 : 4000 < m := h.resolve_left (fun q => q h1)
    have Hr := Lib.hid hr; have Hz := Lib.hid hz; have Ho := Lib.hid (decide_eq_true h1).symm; clear hr hz h h1
    go_enter Try.func3, Try.ntmps3
    go_wp2_with fail
    refine (fewR_c A n c _ l _ Hr.out Hz.out true Ho.out).mono ?_
    rintro e w1 ⟨rfl, rfl⟩
    go_wp2_with fail
    refine (alive_c _).mono ?_
    rintro e w2 ⟨rfl, hb2⟩
    go_wp2
    go_ret
    exact ⟨rfl, hb2⟩
  · have Hr := Lib.hid hr; have Hz := Lib.hid hz; have Ho := Lib.hid (decide_eq_false h1).symm; clear hr hz h h1
    go_enter Try.func3, Try.ntmps3
    go_wp2_with fail
    refine (fewR_c A n c _ l _ Hr.out Hz.out false Ho.out).mono ?_
    rintro e w1 ⟨rfl, rfl⟩
    go_wp2_with fail
    refine (alive_c _).mono ?_
    rintro e w2 ⟨rfl, hb2⟩
    go_wp2
    go_ret
    exact ⟨rfl, hb2⟩

set_option maxRecDepth 100000 in
set_option maxHeartbeats 4000000 in
theorem fieldRecords_short (A D : Option Addr) (n c m d : Nat) (l : List (List (List UInt8))) (T : List UInt8) (w : World) (hr : RL w w.heap.size A n c l) (hrD : Rb w w.heap.size D m d T) (hz : ∀ r ∈ l, ∀ q ∈ r, q.length ≤ 140737488355328) (h : wL l ≤ 4000 ∧ l.length ≤ 120) (hm : m ≤ 4000) :
    Calls Try.prog 3 #[.slice A n c, .slice D m d] w fun e w' => e = .returned (.bool true) ∧ Below w.heap.size w w' := by
  have hTl := hrD.len
  have hln := hr.len
  have hn : n ≤ 120 := by omega
  have hsz := enc_len l (by omega) (by omega)
  obtain ⟨X, x, hX⟩ : ∃ X x, encS l = (X, x) := ⟨_, _, rfl⟩
  obtain ⟨L, y, hL⟩ : ∃ L y, decS T = (L, y) := ⟨_, _, rfl⟩
  have hds := decS_small T
  rw [hL] at hds
  have hLl : L.length ≤ 5000 := hds.1
  have hLr : ∀ r ∈ L, r.length ≤ 1000000 := fun r hr => by have := hds.2 r hr; omega
  have c1 : ∀ W, RL W W.heap.size A n c l → Calls Try.prog 10 #[.slice A n c] W (RetE W.heap.size W (X, x)) := fun W hW => by rw [← hX]; exact encode_c A n c _ l W hW (Nat.le_refl _) (by omega) (by omega)
  have c2 : ∀ W, RL W W.heap.size A n c l → Calls Try.prog 11 #[.slice A n c] W (RetE W.heap.size W (X, x)) := fun W hW => by rw [← hX]; exact rencode_c A n c _ l W hW (Nat.le_refl _) (by omega) (by omega)
  have c3 : ∀ W E e, Rb W W.heap.size E m e T → Calls Try.prog 12 #[.slice E m e] W (RetD W (L, y)) := fun W E e hW => by rw [← hL]; exact decode_c E m e T W hW (by omega)
  have c4 : ∀ W E e, Rb W W.heap.size E m e T → Calls Try.prog 13 #[.slice E m e] W (RetD W (L, y)) := fun W E e hW => by rw [← hL]; exact rdecode_c E m e T W hW (by omega)
  have Hr := Lib.hid hr; have HrD := Lib.hid hrD; have Hz := Lib.hid hz; have Ho := Lib.hid (decide_eq_true h).symm; have C1 := Lib.hid c1; have C2 := Lib.hid c2; have C3 := Lib.hid c3; have C4 := Lib.hid c4; have HLr := Lib.hid hLr; have HTl := Lib.hid hTl
  clear hr hrD hz h hX hL hds hsz c1 c2 c3 c4 hLr hln hTl
  go_enter Try.func3, Try.ntmps3
  go_wp2_with fail
  refine (fewR_c A n c _ l _ Hr.out Hz.out true Ho.out).mono ?_
  rintro e w1 ⟨rfl, rfl⟩
  go_wp2_with (at_builtin; go_must (refine bty.wpAppB rfl (.tmp 24) (.tmp 25) rfl (l := []) (r := T) (N := T) rfl rfl (Own.made0 _ _) (HrD.out.alloc (Nat.le_refl _) _) rfl ?hs1 ?hs2 ?_))
  case hs1 => rw [HTl.out]; omega
  case hs2 => simp
  intro A1 d1 w1 hown1 bl1
  have b1 : Below w.heap.size w w1 := ((Below.refl _ _).alloc (Nat.le_refl _) _).trans bl1
  have z1 := b1.size
  have ro := rb_len hown1.rb (m := m) HTl.out
  rw [HTl.out]
  have RO := Lib.hid ro; clear ro hown1 bl1
  go_wp2_with fail
  refine (C1.out _ ((Hr.out.below b1).more b1.size)).mono ?_
  rintro e w2 ⟨A2, d2, rfl, hown2, b2⟩
  have z2 := b2.size
  have hr2 := hown2.rb
  have R2 := Lib.hid hr2; clear hr2 hown2
  have b12 : Below w.heap.size w w2 := b1.trans (b2.mono z1)
  go_wp2_with fail
  refine (C2.out _ ((Hr.out.below b12).more b12.size)).mono ?_
  rintro e w3 ⟨A3, d3, rfl, hown3, b3⟩
  have z3 := b3.size
  have hr3 := hown3.rb
  have R3 := Lib.hid hr3; clear hr3 hown3
  have b13 : Below w.heap.size w w3 := b12.trans (b3.mono (by omega))
  have bo3 : Below w1.heap.size w1 w3 := b2.trans (b3.mono z2)
  go_wp2_with fail
  refine (C3.out _ A1 d1 ((RO.out.below bo3).more bo3.size)).mono ?_
  rintro e w4 ⟨A4, d4, rfl, hr4, b4⟩
  have z4 := b4.size
  have R4 := Lib.hid hr4; clear hr4
  have b14 : Below w.heap.size w w4 := b13.trans (b4.mono (by omega))
  go_wp2_with fail
  refine (C4.out _ D d ((HrD.out.below b14).more b14.size)).mono ?_
  rintro e w5 ⟨A5, d5, rfl, hr5, b5⟩
  have z5 := b5.size
  have R5 := Lib.hid hr5; clear hr5
  have b15 : Below w.heap.size w w5 := b14.trans (b5.mono (by omega))
  have HB := Lib.hid b15
  have b25 : Below w2.heap.size w2 w5 := (b3.trans (b4.mono z3)).trans (b5.mono (by omega))
  have b35 : Below w3.heap.size w3 w5 := b4.trans (b5.mono z4)
  have bo5 : Below w1.heap.size w1 w5 := (bo3.trans (b4.mono (by omega))).trans (b5.mono (by omega))
  have B25 := Lib.hid b25; have B35 := Lib.hid b35; have BO := Lib.hid bo5; have B5 := Lib.hid b5
  clear b1 b2 b3 b4 b5 b12 b13 b14 b15 b25 b35 bo3 bo5
  go_wp2
  go_loopw [14] (fun t wr => MayL l A n c w5 t wr) (fun t _ => n - (intOf t).toNat)
  case atStart => exact ⟨0, rfl, Nat.zero_le _, (Hr.out.below HB.out).more HB.out.size, 0, rfl⟩
  case round =>
    obtain ⟨k, rfl, hk, g1, hq⟩ := hrel
    have Hq := Lib.hid hq; clear hq
    by_cases hlt : k < n
    · obtain ⟨b1, o1, D1, m1, e1, r, rfl, hb1, hc1, hx1, _, hr1⟩ := g1.at_ hlt
      obtain ⟨o, ho⟩ : ∃ o, o = decide (Fm.May r) := ⟨_, rfl⟩
      have G1 := Lib.hid g1; have R1 := Lib.hid hr1; have Hoo := Lib.hid ho; clear hx1 g1 hr1 ho
      go_wp2_with fail
      go_quiet (first | ((go_at_call 14; exact quiet_left (may_c D1 m1 e1 _ r _ (R1.out.drewN _) o Hoo.out))) | ((go_at_call 15; exact quiet_left (rmay_c D1 m1 e1 _ r _ (R1.out.drewN _) o Hoo.out))))
      go_wp2
      go_roundw
      case rel => exact ⟨k + 1, by go_num, by omega, G1.out, by obtain ⟨q, hq⟩ := Hq.out; exact ⟨_, by rw [hq, World.drewN_drewN]⟩⟩
      case measure => simp [intOf]; omega
    · clear g1
      obtain ⟨q, hq⟩ := Hq.out
      subst hq
      go_wp2_with fail
      refine (alive_c _).mono ?_
      rintro e w6 ⟨rfl, b6⟩
      have b56 : Below w5.heap.size w5 w6 := (below_drewN (Below.refl _ _) q).trans b6
      have q2 := bty.conv (R2.out.below (B25.out.trans (b56.mono (Below.size B25.out))))
      have q3 := bty.conv (R3.out.below (B35.out.trans (b56.mono (Below.size B35.out))))
      have r4 := (R4.out.below (B5.out.trans (b56.mono z5))).more (Below.size (B5.out.trans (b56.mono z5)))
      have r5 := (R5.out.below b56).more b56.size
      have H4 := Lib.hid r4; have H5 := Lib.hid r5; have B6 := Lib.hid b56; clear r4 r5 b56 b6
      go_wp2_with fail
      refine (recs_c A4 A5 L.length d4 d5 L _ H4.out H5.out (by omega) HLr.out).mono ?_
      rintro e w7 ⟨rfl, q7, rfl⟩
      have qo := bty.conv ((RO.out.below (BO.out.trans (B6.out.mono (Below.size BO.out)))).drewN q7)
      have qb := bty.conv ((HrD.out.below (HB.out.trans (B6.out.mono HB.out.size))).drewN q7)
      clear q2 q3
      go_wp2
      go_ret
      exact ⟨rfl, below_drewN (HB.out.trans (B6.out.mono HB.out.size)) q7⟩

theorem fieldRecords_walk (A : Option Addr) (n c : Nat) (l : List (List (List UInt8))) (D : Option Addr) (m d : Nat) (T : List UInt8) (w : World) (hr : RL w w.heap.size A n c l) (hz : ∀ r ∈ l, ∀ q ∈ r, q.length ≤ 140737488355328) (hrD : Rb w w.heap.size D m d T) :
    Calls Try.prog 3 #[.slice A n c, .slice D m d] w fun e w' => e = .returned (.bool true) ∧ Below w.heap.size w w' := by
  by_cases h : ¬ (wL l ≤ 4000 ∧ l.length ≤ 120) ∨ 4000 < m
  · exact fieldRecords_alive A D n c m d l w hr hz (Nat.le_trans hrD.2.1 hrD.2.2.1) h
  · have h1 : wL l ≤ 4000 ∧ l.length ≤ 120 := Decidable.not_not.1 (fun q => h (.inl q))
    exact fieldRecords_short A D n c m d l T w hr hrD hz h1 (by omega)
end Go.Proofs.Ytihfejjkkgnneaa
