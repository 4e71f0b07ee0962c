/-
  seq's Canon at a file that was written: what the call returns and leaves.
-/
import Derived.Test.YtddnlimkaagpdaaDoorVa
import Derived.Test.YtddnlimkaagpdaaDoorUp
import Derived.Test.YtddnlimkaagpdaaDoorUm
namespace Go.Proofs.YtddnlimkaagpdaaDoor
open Go.RowKit
attribute [local go_sem] Oper.semAt_some

theorem rl_capv {w : World} {B n c : Nat} {A : Option Addr} {l : List Sm.R} (h : RL w B A n c l) : n ≤ c := by
  obtain ⟨vs, h1, _⟩ := h
  exact h1.2.1
set_option maxHeartbeats 4000000 in
set_option maxRecDepth 100000 in
/-- Canon -/
theorem canon_c (A : Option Addr) (n c : Nat) (l : List (List (List UInt8))) (w : World) (hr : Rb w w.heap.size A n c (Sm.wr l)) (hok : l.all Sm.okR = true) (hl : l.length ≤ 120) (hx : Mx w) :
    Calls Tryd.prog 24 #[.slice A n c] w fun e w' => e = .returned (.bool true) ∧ Below w.heap.size w w' := by
  obtain ⟨L, hch, hps, hall, hLl, her⟩ := Sm.ps_wr l hok
  have hXl := Sm.wr_len l hok hl
  have hn := hr.len
  have hsc := scan_c A n c (Sm.wr l) w hr (by omega) hx
  have hws := Sm.wrS_ok hok
  unfold RetSc at hsc
  rw [hps, her] at hsc
  obtain ⟨X, hX⟩ : ∃ X, X = Sm.wr l := ⟨_, rfl⟩
  rw [← hX] at hsc hall hr hws hn
  obtain ⟨ps, hP⟩ : ∃ ps, ps = Sm.pcs X L := ⟨_, rfl⟩
  have hpn : ps.length ≤ 1000 := by rw [hP]; simp [Sm.pcs]; omega
  rw [← hP] at hsc hall
  dsimp only at hsc
  have Hr := Lib.hid hr; have Hx := Lib.hid hx; have Hall := Lib.hid hall; have Hsc := Lib.hid hsc; have Hws := Lib.hid hws; have Hn := Lib.hid hn
  clear hr hx hall hsc hws hP hX hps hch hLl her hok hXl hn
  go_enter Tryd.func24, Tryd.ntmps24
  go_wp2_with fail
  refine Hsc.out.mono ?_
  rintro e w1 ⟨A1, c1, rfl, hp1, hb1⟩
  have z1 := hb1.size
  have Hp1 := Lib.hid hp1.pl; clear hp1
  have Hb1 := Lib.hid hb1
  go_wp2
  go_loopw [3, 19] (fun o i wr => AllRel w1.heap.size ps.length w1 (fun k => Tm.all (ps.take k)) o i wr) (fun _ i _ => ps.length - (intOf i).toNat)
  case atStart => exact ⟨none, 0, [], 0, rfl, rfl, Nat.zero_le _, Oc.nil _ _ _ _, RrsS.nil, Below.refl _ _⟩
  case round =>
    obtain ⟨A3, c3, vs, k, rfl, rfl, hk, hown, hps, hbel⟩ := hrel
    dsimp only at hown hps ⊢
    have z3 := hbel.size
    rename World => wr
    have hlen : (Tm.all (ps.take k)).length ≤ 120 := by have := Tm.all_take ps k; rw [Hall.out] at this; omega
    by_cases hlt : k < ps.length
    · obtain ⟨b, off, p, D, m, d, rfl, hb, hc1, hc2, hp, us, hu1, hu2⟩ := (Hp1.out.below hbel).at_ hlt
      have hm : p.2.length = m := RLS.len ⟨us, hu1, hu2⟩
      have hsn := Tm.all_snoc ps k p hp
      have hlen2 : (Tm.all (ps.take k)).length + m ≤ 120 := by
        have := Tm.all_take ps (k + 1)
        rw [hsn, List.length_append, hm, Hall.out] at this
        omega
      obtain ⟨M, hM⟩ : ∃ M, M = Tm.all (ps.take k) := ⟨_, rfl⟩
      rw [← hM] at hown hps hsn hlen hlen2 ⊢
      have hps2 := hps.append hu2
      have h1 := rrs_one hu2
      obtain ⟨w5, hw5⟩ : ∃ w5, w5 = wr.alloc (.cells #[.int .i64 (p.1 : Int), .slice D m d] 47) := ⟨_, rfl⟩
      have b5 : Below wr.heap.size wr w5 := by rw [hw5]; exact (Below.refl _ _).alloc (Nat.le_refl _) _
      have z5 := b5.size
      have hown5 := hown.keep b5
      have hu5 : Rc 1 w5 w1.heap.size D m d us := hu1.rc.below (b5.mono z3)
      have hps5 := hps2.keep (stays_below (b5.mono z3) (Nat.le_refl _))
      have Hs := Lib.hid hsn; have Hm := Lib.hid hm; have Hown := Lib.hid hown5; have Hps2 := Lib.hid hps5; have H1 := Lib.hid h1; have Hu := Lib.hid hu5; have W5 := Lib.hid hw5; clear hsn hm hown hps hps2 h1 hu1 hu2 hp hM hown5 hu5 hps5 hw5
      go_wp2_with (at_builtin; rw [← W5.out]; go_must (refine Sl.wpAppAt rty rfl (.tmp 23) (.tmp 25) rfl (n := M.length) (m := m) (N := M.length + m) (ws := vs ++ us) rfl rfl Hown.out Hu.out H1.out rfl rfl ?hs4 ?hs5 ?hs6 ?_))
      case hs4 => omega
      case hs5 => omega
      case hs6 => omega
      intro A8 c8 w8 hown8 hg8
      have b8 := hg8.belowC Hown.out (by omega)
      have bw8 := (hbel.trans (b5.mono z3)).trans b8
      have hps8 := Hps2.out.keep (stays_below b8 (Nat.le_refl _))
      have Hown8 := Lib.hid hown8; have Hps8 := Lib.hid hps8; clear hown8 hps8 hg8
      go_wp2
      go_roundw
      case rel => exact ⟨A8, c8, vs ++ us, k + 1, by dsimp only; rw [Hs.out, List.length_append, Hm.out], by go_num, hlt, by dsimp only; rw [Hs.out, List.length_append, Hm.out]; exact Hown8.out, by dsimp only; rw [Hs.out]; exact Hps8.out, bw8⟩
      case measure => simp [intOf]; omega
    · have e : ps.take k = ps := List.take_of_length_le (by omega)
      rw [e, Hall.out] at hown hps
      rw [e, Hall.out]
      have hfin : RL wr wr.heap.size A3 l.length c3 l := ⟨vs, hown.rc, hps.keep (stays_below (Below.refl _ _) z3)⟩
      have b3 := Hb1.out.trans (hbel.mono z1)
      have hwr := write_c A3 l.length c3 l wr hfin (by omega) (rl_capv hfin) (Hx.out.below' b3)
      rw [Hws.out] at hwr
      have Hwr := Lib.hid hwr; have HB3 := Lib.hid b3; clear hown hps hfin hwr b3 e hlen
      go_wp2_with fail
      refine Hwr.out.mono ?_
      rintro e w4 ⟨A4, c4, rfl, hw4, hb4⟩
      have b4 := HB3.out.trans (hb4.mono (by omega))
      have hq := equal_c A4 A X.length c4 n c _ _ X X w4 hw4.1 (Hr.out.below b4) true (by simp)
      have Hq := Lib.hid hq; clear hq hw4
      go_wp2_with fail
      refine Hq.out.mono ?_
      rintro e w5 ⟨rfl, rfl⟩
      go_wp2
      go_ret
      exact ⟨rfl, b4⟩
end Go.Proofs.YtddnlimkaagpdaaDoor
