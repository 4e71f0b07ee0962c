/-
  Joined: Oc.
-/
import Derived.Test.YtknmhdkomjjneaaGreatDoorJW37
import Derived.Test.YtknmhdkomjjneaaGreatDoorJW40
import Derived.Test.YtknmhdkomjjneaaGreatDoorJW12
import Derived.Test.YtknmhdkomjjneaaGreatDoorJW45
import Derived.Test.YtknmhdkomjjneaaGreatDoorJW22
import Derived.Test.YtknmhdkomjjneaaGreatDoorJW47
import Derived.Test.YtknmhdkomjjneaaGreatDoorJW48
import Derived.Test.YtknmhdkomjjneaaGreatDoorJW50
import Derived.BigQuiet
/-
  plan.Write and the document's: records as a file, whatever the format.
-/
namespace Go.Proofs.YtknmhdkomjjneaaGreatDoor.Pl
open Go.RowKit

def RetWu (w : World) (t : List UInt8 × Nat) (e : Ending) (w' : World) : Prop :=
  ∃ A c, e = .returned (.tuple #[.slice A t.1.length c, .int .i64 (t.2 : Int)]) ∧ Rb w' w'.heap.size A t.1.length c t.1 ∧ Below w.heap.size w w'
theorem rl_cap {w : World} {B n c : Nat} {A : Option Addr} {L : List (List (List UInt8))} (h : RL w B A n c L) : n ≤ c := by
  obtain ⟨vs, h1, _⟩ := h
  exact h1.2.1
theorem few_big {L : List (List (List UInt8))} (h : Few6 L) : ∀ r ∈ L, ∀ q ∈ r, q.length ≤ 140737488355328 := fun r hr q hq => by
  have := few_len h.1 r hr q hq
  omega

theorem writes (k : Int) (A : Option Addr) (n c : Nat) (L : List (List (List UInt8))) (w : World) (hr : RL w w.heap.size A n c L) (hL : Few6 L) (hx : Sq.Mx w) :
    Calls Tryz.prog 96 #[.slice A n c] w (RetWu w (wrF 0 k L)) ∧ Calls Tryz.prog 98 #[.slice A n c] w (RetWu w (wrF 1 k L)) ∧ Calls Tryz.prog 101 #[.slice A n c] w (RetWu w (wrF 2 k L)) ∧
    Calls Tryz.prog 103 #[.slice A n c] w (RetWu w (wrF 3 k L)) ∧ Calls Tryz.prog 105 #[.slice A n c] w (RetWu w (wrF 5 k L)) := by
  have hlen := hr.len
  have hl := hL.2
  have hw := hL.1
  refine ⟨?_, ?_, ?_, ?_, ?_⟩
  · exact (Txt.write_c A n c L w hr (by omega) (by have := twr_len L; omega)).mono fun e w' ⟨A1, c1, h0, h1, h2⟩ => ⟨A1, c1, h0, h1.rb, h2⟩
  · exact (Csv.write_c A n c L w hr (few_big hL) hx (by omega)).mono fun e w' ⟨A1, c1, h0, h1, h2⟩ => ⟨A1, c1, h0, h1.rb, h2⟩
  · exact (Sq.write_c A n c L w hr (by omega) (rl_cap hr) hx).mono fun e w' ⟨A1, c1, h0, h1, h2⟩ => ⟨A1, c1, h0, h1.1, h2⟩
  · exact (Cht.write_c A n c L w hr hL (rl_cap hr)).mono fun e w' ⟨A1, c1, h0, h1, h2⟩ => ⟨A1, c1, h0, h1.rb, h2⟩
  · rw [wrF_bun]
    have h1000 : L.length ≤ 1000 := by omega
    cases hm : Bun.Bm.mayB [] L with
    | false =>
      rw [Bun.Bm.wrS_not hm]
      exact (Bun.write_no A n c L w hr (few_big hL) (by rw [hm]; simp)).mono fun e w' ⟨h0, h1⟩ => ⟨none, 0, h0, Rb.nil _ _, by rw [h1]; exact Below.refl _ _⟩
    | true =>
      rw [Bun.Bm.wrS_ok h1000 hm]
      exact (Bun.write_ok A n c L w hr (few_big hL) h1000 hm _ rfl _ rfl).mono fun e w' ⟨A1, c1, h0, h1, h2⟩ => ⟨A1, c1, h0, h1.1.rb, h2⟩
theorem rwrites (k : Int) (A : Option Addr) (n c : Nat) (L : List (List (List UInt8))) (w : World) (hr : RL w w.heap.size A n c L) (hL : Few6 L) :
    Calls Tryz.prog 48 #[.slice A n c] w (RetWu w (wrF 0 k L)) ∧ Calls Tryz.prog 49 #[.slice A n c] w (RetWu w (wrF 1 k L)) ∧ Calls Tryz.prog 50 #[.slice A n c] w (RetWu w (wrF 2 k L)) ∧
    Calls Tryz.prog 51 #[.slice A n c] w (RetWu w (wrF 3 k L)) ∧ Calls Tryz.prog 53 #[.slice A n c] w (RetWu w (wrF 5 k L)) := by
  have hlen := hr.len
  have hl := hL.2
  have hw := hL.1
  refine ⟨?_, ?_, ?_, ?_, ?_⟩
  · exact (Txt.rwrite_c A n c L w hr (by omega) (by have := twr_len L; omega)).mono fun e w' ⟨A1, c1, h0, h1, h2⟩ => ⟨A1, c1, h0, h1.rb, h2⟩
  · exact (Csv.writeD_c A n c L w hr (few_big hL) (by omega)).mono fun e w' ⟨A1, c1, h0, h1, h2⟩ => ⟨A1, c1, h0, h1.rb, h2⟩
  · exact (Sq.rwrite_c A n c L w hr (by omega)).mono fun e w' ⟨A1, c1, h0, h1, h2⟩ => ⟨A1, c1, h0, h1, h2⟩
  · exact (Cht.rwrite_c A n c L w hr hL).mono fun e w' ⟨A1, c1, h0, h1, h2⟩ => ⟨A1, c1, h0, h1.rb, h2⟩
  · exact (Bun.rwrite_c A n c L w hr (few_big hL) (by omega) _ _ rfl _ rfl).mono fun e w' ⟨A1, c1, h0, h1, h2⟩ => ⟨A1, c1, h0, h1.1.rb, h2⟩
theorem wfix (k : Int) (A : Option Addr) (n c : Nat) (L : List (List (List UInt8))) (w : World) (hr : RL w w.heap.size A n c L) (hL : Few6 L) (hk : 1 ≤ k) (hk2 : k ≤ 1000) :
    Calls Tryz.prog 93 #[.slice A n c, .int .i64 k] w (RetWu w (wrF 4 k L)) ∧ Calls Tryz.prog 52 #[.slice A n c, .int .i64 k] w (RetWu w (wrF 4 k L)) := by
  have hlen := hr.len
  have hl := hL.2
  have hw := hL.1
  have e : ((k.toNat : Nat) : Int) = k := by omega
  have h1 := (Fix.write_c A n c k.toNat L w hr (by omega) (by have := fwr_len L; omega) (by omega) (by omega)).mono fun e w' (⟨A1, c1, h0, h1, h2⟩ : Fix.RetW _ _ _ _) => (show RetWu w (wrF 4 k L) e w' from ⟨A1, c1, h0, h1.rb, h2⟩)
  have h2 := (Fix.rwrite_c A n c k.toNat L w hr (by omega) (by have := fwr_len L; omega) (by omega) (by omega)).mono fun e w' (⟨A1, c1, h0, h1, h2⟩ : Fix.RetW _ _ _ _) => (show RetWu w (wrF 4 k L) e w' from ⟨A1, c1, h0, h1.rb, h2⟩)
  rw [e] at h1 h2
  exact ⟨h1, h2⟩
set_option maxRecDepth 100000 in
theorem fixed2_c (A : Option Addr) (n c g : Nat) (k : Int) (L : List (List (List UInt8))) (w : World) (hr : RL w w.heap.size A n c L) (hL : Few6 L) (hk : 1 ≤ k) (hk2 : k ≤ 1000) (hg : w.cell? ⟨g, 0, none⟩ = some (.int .i64 k)) :
    Calls Tryz.prog 92 #[.slice A n c, .pointer (some ⟨g, 0, none⟩)] w (RetWu w (wrF 4 k L)) := by
  have Hc := Lib.hid (wfix k A n c L w hr hL hk hk2).1
  clear hr hL
  go_enter Tryz.func92, Tryz.ntmps92
  go_wp2_with fail
  refine Hc.out.mono ?_
  rintro e w' ⟨A1, c1, rfl, h1, h2⟩
  have H1 := Lib.hid h1
  clear h1
  go_wp2
  go_ret2
  exact ⟨A1, c1, rfl, H1.out, h2⟩
theorem F3.write {W0 : World} {f k : Int} {s r i : Value} (h : F3 W0 f k s r i) :
    ∃ a ca, r = fv a ca ∧ Ent a ∧ ∀ (W : World) (A : Option Addr) (n c : Nat) (L : List (List (List UInt8))), Below W0.heap.size W0 W → RL W W.heap.size A n c L → Few6 L → Sq.Mx W → Calls Tryz.prog a (#[.slice A n c] ++ ca) W (RetWu W (wrF f k L)) := by
  rcases h with ⟨_, rfl, h⟩ | ⟨rfl, h1, h2, g, hg, hlt, rfl, rfl, rfl⟩
  · rcases h with ⟨rfl, -, rfl, -⟩ | ⟨rfl, -, rfl, -⟩ | ⟨rfl, -, rfl, -⟩ | ⟨rfl, -, rfl, -⟩ | ⟨rfl, -, rfl, -⟩
    · exact ⟨_, _, rfl, ent_of Tryz.func96 (by kernel_rfl) rfl, fun W A n c L _ hr hL hx => (writes 0 A n c L W hr hL hx).1⟩
    · exact ⟨_, _, rfl, ent_of Tryz.func98 (by kernel_rfl) rfl, fun W A n c L _ hr hL hx => (writes 0 A n c L W hr hL hx).2.1⟩
    · exact ⟨_, _, rfl, ent_of Tryz.func101 (by kernel_rfl) rfl, fun W A n c L _ hr hL hx => (writes 0 A n c L W hr hL hx).2.2.1⟩
    · exact ⟨_, _, rfl, ent_of Tryz.func103 (by kernel_rfl) rfl, fun W A n c L _ hr hL hx => (writes 0 A n c L W hr hL hx).2.2.2.1⟩
    · exact ⟨_, _, rfl, ent_of Tryz.func105 (by kernel_rfl) rfl, fun W A n c L _ hr hL hx => (writes 0 A n c L W hr hL hx).2.2.2.2⟩
  · exact ⟨_, _, rfl, ent_of Tryz.func92 (by kernel_rfl) rfl, fun W A n c L hb hr hL _ => fixed2_c A n c g k L W hr hL h1 h2 ((hb.cell (p := ⟨g, 0, none⟩) hlt).trans hg)⟩

set_option maxRecDepth 100000 in
set_option maxHeartbeats 1000000 in
theorem write_err (f k : Int) (A : Option Addr) (n c : Nat) (w : World) (h : isF f k = false) :
    Calls Tryz.prog 25 #[.slice A n c, .int .i64 f, .int .i64 k] w (RetWu w ([], 1)) := by
  have Hc := Lib.hid (formatOf_c f k false h.symm w)
  clear h
  go_enter Tryz.func25, Tryz.ntmps25
  go_wp2_with fail
  refine Hc.out.mono ?_
  rintro e w1 ⟨s, r, i, rfl, -, hfv, b1⟩
  have z1 := b1.size
  rcases hfv with ⟨a, b, c', ca, cb, cc, rfl, rfl, rfl⟩ | ⟨rfl, rfl, rfl⟩
  all_goals
    go_wp2
    go_ret2
    exact ⟨none, 0, rfl, Rb.nil _ _, b1.alloc (by omega) _⟩

set_option maxRecDepth 100000 in
set_option maxHeartbeats 1000000 in
theorem write_ok (f k : Int) (A : Option Addr) (n c : Nat) (L : List (List (List UInt8))) (w : World) (hr : RL w w.heap.size A n c L) (hL : Few6 L) (hF : isF f k = true) (hx : Sq.Mx w) :
    Calls Tryz.prog 25 #[.slice A n c, .int .i64 f, .int .i64 k] w (RetWu w (wrF f k L)) := by
  have Hc := Lib.hid (formatOf_c f k true hF.symm w)
  have Hr := Lib.hid hr; have Hx := Lib.hid hx; have HL := Lib.hid hL
  clear hF hr hx hL
  go_enter Tryz.func25, Tryz.ntmps25
  go_wp2_with fail
  refine Hc.out.mono ?_
  rintro e w1 ⟨s, r, i, rfl, hf3, hfv, b1⟩
  have hf3 := hf3 rfl
  have z1 := b1.size
  obtain ⟨w2, hw2⟩ : ∃ w2, w2 = w1.alloc (.cells #[s, r, i] 68) := ⟨_, rfl⟩
  have b12 : Below w1.heap.size w1 w2 := by rw [hw2]; exact (Below.refl _ _).alloc (Nat.le_refl _) _
  have z2 := b12.size
  have b2 := b1.trans (b12.mono (by omega))
  have hf2 := hf3.below b12 (Nat.le_refl _)
  have hrl : RL w2 w2.heap.size A n c L := RLS.keep Hr.out (stays_below b2 (by omega))
  obtain ⟨a, ca, rfl, hent, hsc⟩ := hf2.write
  have Hsc := Lib.hid (hsc w2 A n c L (Below.refl _ _) hrl HL.out (Hx.out.below b2 Hx.out.2))
  have W2 := Lib.hid hw2; have B2 := Lib.hid b2
  clear hf3 hf2 hsc hw2 b12 b2 b1 hrl
  rcases hfv with ⟨a', b, c', ca', cb, cc, rfl, h1, rfl⟩ | ⟨_, h1, _⟩
  · clear h1
    go_wp2_with fail
    rw [hent, Oper.upon_enter, ← W2.out]
    refine Hsc.out.mono ?_
    rintro e w3 ⟨A3, c3, rfl, h3, b3⟩
    have bb := B2.out.trans (b3.mono (by omega))
    have H3 := Lib.hid h3
    clear h3
    go_wp2
    go_ret2
    exact ⟨A3, c3, rfl, H3.out, bb⟩
  · cases h1

set_option maxRecDepth 100000 in
set_option maxHeartbeats 1000000 in
theorem rwrite_err (f k : Int) (A : Option Addr) (n c : Nat) (w : World) (h : isF f k = false) :
    Calls Tryz.prog 26 #[.slice A n c, .int .i64 f, .int .i64 k] w (RetWu w ([], 1)) := by
  have Hc := Lib.hid (is_c f k false h.symm w)
  clear h
  go_enter Tryz.func26, Tryz.ntmps26
  go_wp2_with fail
  refine Hc.out.mono ?_
  rintro e w1 ⟨rfl, rfl⟩
  go_wp2
  go_ret2
  exact ⟨none, 0, rfl, Rb.nil _ _, Below.refl _ _⟩

set_option maxRecDepth 100000 in
set_option maxHeartbeats 4000000 in
theorem rwrite_ok (f k : Int) (A : Option Addr) (n c : Nat) (L : List (List (List UInt8))) (w : World) (hr : RL w w.heap.size A n c L) (hL : Few6 L) (hF : isF f k = true) :
    Calls Tryz.prog 26 #[.slice A n c, .int .i64 f, .int .i64 k] w (RetWu w (wrF f k L)) := by
  have Hc := Lib.hid (is_c f k true hF.symm w)
  obtain ⟨r0, r1, r2, r3, r5⟩ := rwrites k A n c L w hr hL
  have r4 := fun h1 h2 => (wfix k A n c L w hr hL h1 h2).2
  clear hr hL
  unfold isF at hF
  by_cases h4 : f = 4
  · subst h4
    rw [if_pos rfl] at hF
    simp only [Bool.and_eq_true, decide_eq_true_eq] at hF
    have r4 := r4 hF.1 hF.2
    have R := Lib.hid r4
    clear r0 r1 r2 r3 r4 r5 hF
    go_enter Tryz.func26, Tryz.ntmps26
    go_wp2_with fail
    refine Hc.out.mono ?_
    rintro e w1 ⟨rfl, rfl⟩
    go_wp2_with fail
    refine R.out.mono ?_
    rintro e w2 ⟨A1, c1, rfl, h1, h2⟩
    have H1 := Lib.hid h1
    clear h1
    go_wp2
    go_ret2
    exact ⟨A1, c1, rfl, H1.out, h2⟩
  · rw [if_neg h4] at hF
    unfold isU at hF
    simp only [Bool.and_eq_true, decide_eq_true_eq, beq_iff_eq] at hF
    obtain ⟨⟨⟨g1, g2⟩, g3⟩, rfl⟩ := hF
    have hc : f = 0 ∨ f = 1 ∨ f = 2 ∨ f = 3 ∨ f = 5 := by omega
    clear r4 g1 g2 g3 h4
    rcases hc with rfl | rfl | rfl | rfl | rfl
    · have R := Lib.hid r0
      clear r0 r1 r2 r3 r5
      go_enter Tryz.func26, Tryz.ntmps26
      go_wp2_with fail
      refine Hc.out.mono ?_
      rintro e w1 ⟨rfl, rfl⟩
      go_wp2_with fail
      refine R.out.mono ?_
      rintro e w2 ⟨A1, c1, rfl, h1, h2⟩
      have H1 := Lib.hid h1
      clear h1
      go_wp2
      go_ret2
      exact ⟨A1, c1, rfl, H1.out, h2⟩
    · have R := Lib.hid r1
      clear r0 r1 r2 r3 r5
      go_enter Tryz.func26, Tryz.ntmps26
      go_wp2_with fail
      refine Hc.out.mono ?_
      rintro e w1 ⟨rfl, rfl⟩
      go_wp2_with fail
      refine R.out.mono ?_
      rintro e w2 ⟨A1, c1, rfl, h1, h2⟩
      have H1 := Lib.hid h1
      clear h1
      go_wp2
      go_ret2
      exact ⟨A1, c1, rfl, H1.out, h2⟩
    · have R := Lib.hid r2
      clear r0 r1 r2 r3 r5
      go_enter Tryz.func26, Tryz.ntmps26
      go_wp2_with fail
      refine Hc.out.mono ?_
      rintro e w1 ⟨rfl, rfl⟩
      go_wp2_with fail
      refine R.out.mono ?_
      rintro e w2 ⟨A1, c1, rfl, h1, h2⟩
      have H1 := Lib.hid h1
      clear h1
      go_wp2
      go_ret2
      exact ⟨A1, c1, rfl, H1.out, h2⟩
    · have R := Lib.hid r3
      clear r0 r1 r2 r3 r5
      go_enter Tryz.func26, Tryz.ntmps26
      go_wp2_with fail
      refine Hc.out.mono ?_
      rintro e w1 ⟨rfl, rfl⟩
      go_wp2_with fail
      refine R.out.mono ?_
      rintro e w2 ⟨A1, c1, rfl, h1, h2⟩
      have H1 := Lib.hid h1
      clear h1
      go_wp2
      go_ret2
      exact ⟨A1, c1, rfl, H1.out, h2⟩
    · have R := Lib.hid r5
      clear r0 r1 r2 r3 r5
      go_enter Tryz.func26, Tryz.ntmps26
      go_wp2_with fail
      refine Hc.out.mono ?_
      rintro e w1 ⟨rfl, rfl⟩
      go_wp2_with fail
      refine R.out.mono ?_
      rintro e w2 ⟨A1, c1, rfl, h1, h2⟩
      have H1 := Lib.hid h1
      clear h1
      go_wp2
      go_ret2
      exact ⟨A1, c1, rfl, H1.out, h2⟩
end Go.Proofs.YtknmhdkomjjneaaGreatDoor.Pl
