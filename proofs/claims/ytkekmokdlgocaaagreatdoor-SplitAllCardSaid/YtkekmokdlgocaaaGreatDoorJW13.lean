import Derived.Test.YtkekmokdlgocaaaGreatDoorJW2
import Derived.Test.YtkekmokdlgocaaaGreatDoorJW6
set_option maxRecDepth 100000
set_option maxHeartbeats 4000000
namespace Go.Proofs.YtkekmokdlgocaaaGreatDoor
open Go.RowKit
theorem rrs_one' {w : World} {S : Nat → Prop} {vs : List Value} {l : List (List (List UInt8))} (h : RrsS w S vs l) : ∀ v ∈ vs, v.oneCell' = true := fun v hv => by
 obtain ⟨j, hj, rfl⟩ := List.getElem_of_mem hv
 obtain ⟨A, n, c, e, _⟩ := h.2 j _ (l[j]'(by rw [← h.1]; exact hj)) (List.getElem?_eq_getElem hj) (List.getElem?_eq_getElem (by rw [← h.1]; exact hj))
 rw [e]; rfl
def RetA (w : World) (L : List (List (List UInt8))) (e : Ending) (w' : World) : Prop :=
 ∃ A c, e = .returned (.slice A L.length c) ∧ RL w' w'.heap.size A L.length c L ∧ Below w.heap.size w w'
def AllRel (base n : Nat) (w : World) (L : Nat → List (List (List UInt8))) (o i : Value) (wr : World) : Prop :=
 ∃ A c vs, ∃ k : Nat, o = .slice A (L k).length c ∧ i = .int .i64 (k : Int) ∧ k ≤ n ∧ Oc 1 wr 77 base A (L k).length c vs ∧ RrsS wr (· < base) vs (L k) ∧ Below base w wr
theorem rall_c (A : Option Addr) (n c : Nat) (ps : List (Nat × List (List (List UInt8)))) (w : World) (hr : PL w w.heap.size A n c ps) (hn : n ≤ 100000000) (hz : (Tm.all ps).length ≤ 100000000) :
  Calls Tryz.prog 39 #[.slice A n c] w (RetA w (Tm.all ps)) := by
 have hl := hr.len
 have Hr := ek hr; have Hl := ek hl; clear hr hl
 go_enter Tryz.func39, Tryz.ntmps39
 go_wp2
 go_loopw [3, 4] (fun o i wr => AllRel w.heap.size n w (fun k => Tm.all (ps.take k)) o i wr) (fun _ i _ => n - (intOf i).toNat)
 case atStart => exact ⟨some ⟨w.heap.size, 0,none⟩, 0, [], 0, rfl, rfl, Nat.zero_le _, Oc.made0 1 _ _, RrsS.nil, ej _ _⟩
 case round =>
  obtain ⟨A3, c3, vs, k, rfl, rfl, hk, hown, hps, hbel⟩ := hrel
  dsimp only at hown hps ⊢
  have z3 := hbel.size
  rename World => wr
  have hlen : (Tm.all (ps.take k)).length ≤ 100000000 := Nat.le_trans (Tm.all_take ps k) hz
  by_cases hlt : k < n
  ·obtain ⟨b, off, p, D, m, d, rfl, hb, hc1, hc2, hp, us, hu1, hu2⟩ := (Hr.out.below hbel).at_ hlt
   have hm : p.2.length = m := RLS.len ⟨us, hu1, hu2⟩
   have hsn := Tm.all_snoc ps k p hp
   have hlen2 : (Tm.all (ps.take k)).length + m ≤ 100000000 := by
    have := Tm.all_take ps (k + 1)
    rw [hsn, List.length_append, hm] at this
    omega
   obtain ⟨L, hL⟩ : ∃ L, L = Tm.all (ps.take k) := ⟨_, rfl⟩
   rw [← hL] at hown hps hsn hlen hlen2 ⊢
   have hps2 := hps.append hu2
   have h1 := rrs_one' hu2
   have Hs := ek hsn; have Hm := ek hm; have Hown := ek hown; have Hps2 := ek hps2; have H1 := ek h1; have Hu := ek hu1.rc; clear hsn hm hown hps hps2 h1 hu1 hu2 hp hL
   go_wp2_with (at_builtin; go_must (refine Sl.wpAppAt rty rfl (.tmp 12) (.tmp 17) rfl (n := L.length) (m := m) (N := L.length + m) (ws := vs ++ us) rfl rfl Hown.out Hu.out H1.out rfl rfl ?hs4 ?hs5 ?hs6 ?_))
   case hs4 => omega
   case hs5 => omega
   case hs6 => omega
   intro A8 c8 w8 hown8 hg8
   have b8 := hg8.belowC Hown.out z3
   have bw8 := hbel.trans b8
   have hps8 := Hps2.out.keep (stays_below b8 (Nat.le_refl _))
   have Hown8 := ek hown8; have Hps8 := ek hps8; clear hown8 hps8 hg8
   go_wp2
   go_roundw
   case rel => exact ⟨A8, c8, vs ++ us, k + 1, by dsimp only; rw [Hs.out, List.length_append, Hm.out], by go_num, hlt, by dsimp only; rw [Hs.out, List.length_append, Hm.out]; exact Hown8.out, by dsimp only; rw [Hs.out]; exact Hps8.out, bw8⟩
   case measure => simp [intOf]; omega
  ·have e : ps.take k = ps := List.take_of_length_le (by have := Hl.out; omega)
   rw [e] at hown hps ⊢
   have hfin : RL wr wr.heap.size A3 (Tm.all ps).length c3 (Tm.all ps) := ⟨vs, hown.rc, hps.keep (stays_below (Below.refl _ _) z3)⟩
   have Hfin := ek hfin; clear hown hps hfin e hlen
   go_wp2
   go_ret
   exact ⟨A3, c3, rfl, Hfin.out, hbel⟩
theorem recs_big (A A' : Option Addr) (n c c' : Nat) (l : List (List (List UInt8))) (w : World) (h1 : RL w w.heap.size A n c l) (h2 : RL w w.heap.size A' n c' l) (hn : n ≤ 100000000) (hz : ∀ r ∈ l, r.length ≤ 1000000) :
  Calls Tryz.prog 15 #[.slice A n c, .slice A' n c'] w (RetQ w (.bool true)) := by
 have H1 := ek h1; have H2 := ek h2; have Hz := ek hz; clear h1 h2 hz
 go_enter Tryz.func15, Tryz.ntmps15
 go_wp2
 go_loopw [5] (fun t wr => RecRel l A A' n c c' w t wr) (fun t _ => n - (intOf t).toNat)
 case atStart => exact ⟨0, rfl, Nat.zero_le _, H1.out, H2.out, 0, rfl⟩
 case round =>
  obtain ⟨k, rfl, hk, g1, g2, hq⟩ := hrel
  have Hq := ek hq; clear hq
  by_cases hlt : k < n
  ·obtain ⟨b1, o1, D1, m1, d1, r, rfl, hb1, hc1, hx1, _, hr1⟩ := g1.at_ hlt
   obtain ⟨b2, o2, D2, m2, d2, r2, rfl, hb2, hc2, hx2, _, hr2⟩ := g2.at_ hlt
   rw [hx1] at hx2
   injection hx2 with hx2
   subst hx2
   have e1 := lvs_num hr1
   have e2 := lvs_num hr2
   have hm : m1 ≤ 1000000 := by have := Hz.out r (List.mem_of_getElem? hx1); omega
   subst e1
   obtain rfl : r.length = m2 := e2
   have G1 := ek g1; have G2 := ek g2; have R1 := ek hr1; have R2 := ek hr2; clear hx1 g1 g2 hr1 hr2
   go_wp2_with fail
   go_quiet ((go_at_call 35; exact Calls.quiet_of (strings_c D1 D2 r.length d1 d2 _ _ r _ (R1.out.drewN _) (R2.out.drewN _) hm)))
   go_wp2
   go_roundw
   case rel => exact ⟨k + 1, by go_num, by omega, G1.out, G2.out, by obtain ⟨q, hq⟩ := Hq.out; exact ⟨_, by rw [hq, World.drewN_drewN]⟩⟩
   case measure => simp [intOf]; omega
  ·clear g1 g2
   go_wp2
   go_ret
   exact ⟨rfl, Hq.out⟩
theorem Rc.litAt {z : Nat} (w : World) (e : TypeId) (cs : Array Value) (n g : Nat) (hg : g = w.heap.size) (h : cs.size = n * z) (hn : n ≤ maxLen) : Rc z (w.alloc (.cells cs e)) (g + 1) (some ⟨g, 0,none⟩) n n cs.toList := by
 subst hg
 exact Rc.lit w e cs n h hn
def ivs (l : List Int) : List Value := l.map fun x => .int .i64 x
theorem ivs_get (l : List Int) (j : Nat) (x : Int) (h : l[j]? = some x) : (ivs l)[j]? = some (.int .i64 x) := by simp [ivs, h]
theorem ivs_length (l : List Int) : (ivs l).length = l.length := by simp [ivs]
theorem Rc.int {w : World} {B : Nat} {A : Option Addr} {n c k : Nat} {l : List Int} (h : Rc 1 w B A n c (ivs l)) (hk : k < n) :
  ∃ b off x, A = some ⟨b, off,none⟩ ∧ b < B ∧ w.cell? ⟨b, off + k,none⟩ = some (.int .i64 x) ∧ l[k]? = some x := by
 have hl : l.length = n := by have := h.len1; rw [ivs_length] at this; exact this
 obtain ⟨b, off, v, e, hb, hc, hv⟩ := h.at_ hk
 have hkl : k < l.length := by omega
 rw [ivs_get l k l[k] (List.getElem?_eq_getElem hkl)] at hv
 injection hv with hv
 subst hv
 exact ⟨b, off, l[k], e, hb, hc, List.getElem?_eq_getElem hkl⟩
theorem ity : Sl Tryz.prog 25 3 (.int .i64 0) 1 8 := ⟨Tryz.underlying25, by kernel_rfl, rfl, by omega⟩
end Go.Proofs.YtkekmokdlgocaaaGreatDoor
