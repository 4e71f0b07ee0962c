/-
  The document's All, Of: what each call returns and leaves.
-/
import Derived.Test.YtdhbfoelpdoofaaPw
import Derived.Test.YtdhbfoelpdoofaaTm
namespace Go.Proofs.Ytdhbfoelpdoofaa
open Go.RowKit

theorem PLS.pl {w : World} {base : Nat} {A : Option Addr} {n c : Nat} {l : List (Nat × List (List (List UInt8)))} (h : PLS w (Fr base w) A n c l) : PL w w.heap.size A n c l := h.keep (stays_weak fr_lt)
theorem RLS.rl' {w : World} {base : Nat} {A : Option Addr} {n c : Nat} {l : List (List (List UInt8))} (h : RLS w (Fr base w) A n c l) : RL w w.heap.size A n c l := RLS.keep h (stays_weak fr_lt)

theorem rrs_one' {w : World} {S : Nat → Prop} {vs : List Value} {l : List (List (List UInt8))} (h : RrsS w S vs l) : ∀ v ∈ vs, v.oneCell' = true := fun v hv => by
  obtain ⟨j, hj, rfl⟩ := List.getElem_of_mem hv
  obtain ⟨A, n, c, e, _⟩ := h.2 j _ (l[j]'(by rw [← h.1]; exact hj)) (List.getElem?_eq_getElem hj) (List.getElem?_eq_getElem (by rw [← h.1]; exact hj))
  rw [e]; rfl
def RetA (w : World) (L : List (List (List UInt8))) (e : Ending) (w' : World) : Prop :=
  ∃ A c, e = .returned (.slice A L.length c) ∧ RL w' w'.heap.size A L.length c L ∧ Below w.heap.size w w'
def AllRel (base n : Nat) (w : World) (L : Nat → List (List (List UInt8))) (o i : Value) (wr : World) : Prop :=
  ∃ A c vs, ∃ k : Nat, o = .slice A (L k).length c ∧ i = .int .i64 (k : Int) ∧ k ≤ n ∧ Oc 1 wr 33 base A (L k).length c vs ∧ RrsS wr (· < base) vs (L k) ∧ Below base w wr

set_option maxHeartbeats 2000000 in
set_option maxRecDepth 100000 in
/-- the document's All -/
theorem rall_c (A : Option Addr) (n c : Nat) (ps : List (Nat × List (List (List UInt8)))) (w : World) (hr : PL w w.heap.size A n c ps) (hn : n ≤ 100000000) (hz : (Tm.all ps).length ≤ 100000000) :
    Calls Try.prog 14 #[.slice A n c] w (RetA w (Tm.all ps)) := by
  have hl := hr.len
  have Hr := Lib.hid hr; have Hl := Lib.hid hl; clear hr hl
  go_enter Try.func14, Try.ntmps14
  go_wp2
  go_loopw [3, 4] (fun o i wr => AllRel w.heap.size n w (fun k => Tm.all (ps.take k)) o i wr) (fun _ i _ => n - (intOf i).toNat)
  case atStart => exact ⟨some ⟨w.heap.size, 0, none⟩, 0, [], 0, rfl, rfl, Nat.zero_le _, Oc.made0 1 _ _, RrsS.nil, (Below.refl _ _).alloc (Nat.le_refl _) _⟩
  case round =>
    obtain ⟨A3, c3, vs, k, rfl, rfl, hk, hown, hps, hbel⟩ := hrel
    dsimp only at hown hps ⊢
    have z3 := hbel.size
    rename World => wr
    have hlen : (Tm.all (ps.take k)).length ≤ 100000000 := Nat.le_trans (Tm.all_take ps k) hz
    by_cases hlt : k < n
    · obtain ⟨b, off, p, D, m, d, rfl, hb, hc1, hc2, hp, us, hu1, hu2⟩ := (Hr.out.below hbel).at_ hlt
      have hm : p.2.length = m := RLS.len ⟨us, hu1, hu2⟩
      have hsn := Tm.all_snoc ps k p hp
      have hlen2 : (Tm.all (ps.take k)).length + m ≤ 100000000 := by
        have := Tm.all_take ps (k + 1)
        rw [hsn, List.length_append, hm] at this
        omega
      obtain ⟨L, hL⟩ : ∃ L, L = Tm.all (ps.take k) := ⟨_, rfl⟩
      rw [← hL] at hown hps hsn hlen hlen2 ⊢
      have hps2 := hps.append hu2
      have h1 := rrs_one' hu2
      have Hs := Lib.hid hsn; have Hm := Lib.hid hm; have Hown := Lib.hid hown; have Hps2 := Lib.hid hps2; have H1 := Lib.hid h1; have Hu := Lib.hid hu1.rc; clear hsn hm hown hps hps2 h1 hu1 hu2 hp hL
      go_wp2_with (at_builtin; go_must (refine Sl.wpAppAt rty rfl (.tmp 12) (.tmp 17) rfl (n := L.length) (m := m) (N := L.length + m) (ws := vs ++ us) rfl rfl Hown.out Hu.out H1.out rfl rfl ?hs4 ?hs5 ?hs6 ?_))
      case hs4 => omega
      case hs5 => omega
      case hs6 => omega
      intro A8 c8 w8 hown8 hg8
      have b8 := hg8.belowC Hown.out z3
      have bw8 := hbel.trans b8
      have hps8 := Hps2.out.keep (stays_below b8 (Nat.le_refl _))
      have Hown8 := Lib.hid hown8; have Hps8 := Lib.hid hps8; clear hown8 hps8 hg8
      go_wp2
      go_roundw
      case rel => exact ⟨A8, c8, vs ++ us, k + 1, by dsimp only; rw [Hs.out, List.length_append, Hm.out], by go_num, hlt, by dsimp only; rw [Hs.out, List.length_append, Hm.out]; exact Hown8.out, by dsimp only; rw [Hs.out]; exact Hps8.out, bw8⟩
      case measure => simp [intOf]; omega
    · have e : ps.take k = ps := List.take_of_length_le (by have := Hl.out; omega)
      rw [e] at hown hps ⊢
      have hfin : RL wr wr.heap.size A3 (Tm.all ps).length c3 (Tm.all ps) := ⟨vs, hown.rc, hps.keep (stays_below (Below.refl _ _) z3)⟩
      have Hfin := Lib.hid hfin; clear hown hps hfin e hlen
      go_wp2
      go_ret
      exact ⟨A3, c3, rfl, Hfin.out, hbel⟩

set_option maxRecDepth 100000 in
set_option maxHeartbeats 1000000 in
/-- Recs: rows of the same records are alike. -/
theorem recs_big (A A' : Option Addr) (n c c' : Nat) (l : List (List (List UInt8))) (w : World) (h1 : RL w w.heap.size A n c l) (h2 : RL w w.heap.size A' n c' l) (hn : n ≤ 100000000) (hz : ∀ r ∈ l, r.length ≤ 1000000) :
    Calls Try.prog 13 #[.slice A n c, .slice A' n c'] w (RetQ w (.bool true)) := by
  have H1 := Lib.hid h1; have H2 := Lib.hid h2; have Hz := Lib.hid hz; clear h1 h2 hz
  go_enter Try.func13, Try.ntmps13
  go_wp2
  go_loopw [5] (fun t wr => RecRel l A A' n c c' w t wr) (fun t _ => n - (intOf t).toNat)
  case atStart => exact ⟨0, rfl, Nat.zero_le _, H1.out, H2.out, 0, rfl⟩
  case round =>
    obtain ⟨k, rfl, hk, g1, g2, hq⟩ := hrel
    have Hq := Lib.hid hq; clear hq
    by_cases hlt : k < n
    · obtain ⟨b1, o1, D1, m1, d1, r, rfl, hb1, hc1, hx1, _, hr1⟩ := g1.at_ hlt
      obtain ⟨b2, o2, D2, m2, d2, r2, rfl, hb2, hc2, hx2, _, hr2⟩ := g2.at_ hlt
      rw [hx1] at hx2
      injection hx2 with hx2
      subst hx2
      have e1 := lvs_num hr1
      have e2 := lvs_num hr2
      have hm : m1 ≤ 1000000 := by have := Hz.out r (List.mem_of_getElem? hx1); omega
      subst e1
      obtain rfl : r.length = m2 := e2
      have G1 := Lib.hid g1; have G2 := Lib.hid g2; have R1 := Lib.hid hr1; have R2 := Lib.hid hr2; clear hx1 g1 g2 hr1 hr2
      go_wp2_with fail
      go_quiet ((go_at_call 28; exact Calls.quiet_of (strings_c D1 D2 r.length d1 d2 _ _ r _ (R1.out.drewN _) (R2.out.drewN _) hm)))
      go_wp2
      go_roundw
      case rel => exact ⟨k + 1, by go_num, by omega, G1.out, G2.out, by obtain ⟨q, hq⟩ := Hq.out; exact ⟨_, by rw [hq, World.drewN_drewN]⟩⟩
      case measure => simp [intOf]; omega
    · clear g1 g2
      go_wp2
      go_ret
      exact ⟨rfl, Hq.out⟩

end Go.Proofs.Ytdhbfoelpdoofaa
