/-
  Joined: Zl.
-/
import Derived.Test.YtplkjljhpmldfaaJ43
import Derived.Test.YtplkjljhpmldfaaJ46
/-
  chest's Canon at a file that was written: what the call returns and leaves.
-/
namespace Go.Proofs.Ytplkjljhpmldfaa
open Go.RowKit
attribute [local go_sem] Oper.semAt_some

theorem rl_capv {w : World} {B n c : Nat} {A : Option Addr} {l : Rcs} (h : RL w B A n c l) : n ≤ c := by
  obtain ⟨vs, h1, _⟩ := h
  exact h1.2.1
set_option maxHeartbeats 4000000 in
set_option maxRecDepth 100000 in
/-- Canon -/
theorem canon_c (A : Option Addr) (n c : Nat) (l : Rcs) (w : World) (hr : Rb w w.heap.size A n c (Hm.wr l)) (hf : Hm.Few l) (hm : ∀ r ∈ l, Fm.May r) :
    Calls Try.prog 20 #[.slice A n c] w fun e w' => e = .returned (.bool true) ∧ Below w.heap.size w w' := by
  have hps := Hm.scS_wr hf hm
  have hall := Hm.all_wr l
  have hXl := Hm.wr_len hf hm
  have hn := hr.len
  have hl : l.length ≤ 120 := by have := hf.2; omega
  have hsc := scan_c A n c (Hm.wr l) w hr (by omega)
  have hws := Hm.wrS_ok hm
  unfold RetSc at hsc
  rw [hps] at hsc
  obtain ⟨X, hX⟩ : ∃ X, X = Hm.wr l := ⟨_, rfl⟩
  rw [← hX] at hsc hr hws hn
  obtain ⟨ps, hP⟩ : ∃ ps, ps = Hm.pcs 0 (Hm.ch l) := ⟨_, rfl⟩
  have hpn : ps.length ≤ 1000 := by rw [hP, Hm.pcs_len]; have := Hm.ch_few hf; omega
  rw [← hP] at hsc hall
  dsimp only at hsc
  have Hr := Lib.hid hr; have Hf := Lib.hid hf; have Hall := Lib.hid hall; have Hsc := Lib.hid hsc; have Hws := Lib.hid hws; have Hn := Lib.hid hn
  clear hr hf hall hsc hws hP hX hps hXl hn
  go_enter Try.func20, Try.ntmps20
  go_wp2_with fail
  refine Hsc.out.mono ?_
  rintro e w1 ⟨A1, c1, rfl, hp1, hb1⟩
  have z1 := hb1.size
  have Hp1 := Lib.hid hp1.pl; clear hp1
  have Hb1 := Lib.hid hb1
  go_wp2
  go_loopw [6, 20] (fun o i wr => AllRel w1.heap.size ps.length w1 (fun k => Tm.all (ps.take k)) o i wr) (fun _ i _ => ps.length - (intOf i).toNat)
  case atStart => exact ⟨none, 0, [], 0, rfl, rfl, Nat.zero_le _, Oc.nil _ _ _ _, RrsS.nil, Below.refl _ _⟩
  case round =>
    obtain ⟨A3, c3, vs, k, rfl, rfl, hk, hown, hps, hbel⟩ := hrel
    dsimp only at hown hps ⊢
    have z3 := hbel.size
    rename World => wr
    have hlen : (Tm.all (ps.take k)).length ≤ 120 := by have := Tm.all_take ps k; rw [Hall.out] at this; omega
    by_cases hlt : k < ps.length
    · obtain ⟨b, off, p, D, m, d, rfl, hb, hc1, hc2, hp, us, hu1, hu2⟩ := (Hp1.out.below hbel).at_ hlt
      have hm : p.2.length = m := RLS.len ⟨us, hu1, hu2⟩
      have hsn := Tm.all_snoc ps k p hp
      have hlen2 : (Tm.all (ps.take k)).length + m ≤ 120 := by
        have := Tm.all_take ps (k + 1)
        rw [hsn, List.length_append, hm, Hall.out] at this
        omega
      obtain ⟨M, hM⟩ : ∃ M, M = Tm.all (ps.take k) := ⟨_, rfl⟩
      rw [← hM] at hown hps hsn hlen hlen2 ⊢
      have hps2 := hps.append hu2
      have h1 := rrs_one hu2
      obtain ⟨w5, hw5⟩ : ∃ w5, w5 = wr.alloc (.cells #[.int .i64 (p.1 : Int), .slice D m d] 45) := ⟨_, rfl⟩
      have b5 : Below wr.heap.size wr w5 := by rw [hw5]; exact (Below.refl _ _).alloc (Nat.le_refl _) _
      have z5 := b5.size
      have hown5 := hown.keep b5
      have hu5 : Rc 1 w5 w1.heap.size D m d us := hu1.rc.below (b5.mono z3)
      have hps5 := hps2.keep (stays_below (b5.mono z3) (Nat.le_refl _))
      have Hs := Lib.hid hsn; have Hm := Lib.hid hm; have Hown := Lib.hid hown5; have Hps2 := Lib.hid hps5; have H1 := Lib.hid h1; have Hu := Lib.hid hu5; have W5 := Lib.hid hw5; clear hsn hm hown hps hps2 h1 hu1 hu2 hp hM hown5 hu5 hps5 hw5
      go_wp2_with (at_builtin; rw [← W5.out]; go_must (refine Sl.wpAppAt rty rfl (.tmp 24) (.tmp 26) rfl (n := M.length) (m := m) (N := M.length + m) (ws := vs ++ us) rfl rfl Hown.out Hu.out H1.out rfl rfl ?hs4 ?hs5 ?hs6 ?_))
      case hs4 => omega
      case hs5 => omega
      case hs6 => omega
      intro A8 c8 w8 hown8 hg8
      have b8 := hg8.belowC Hown.out (by omega)
      have bw8 := (hbel.trans (b5.mono z3)).trans b8
      have hps8 := Hps2.out.keep (stays_below b8 (Nat.le_refl _))
      have Hown8 := Lib.hid hown8; have Hps8 := Lib.hid hps8; clear hown8 hps8 hg8
      go_wp2
      go_roundw
      case rel => exact ⟨A8, c8, vs ++ us, k + 1, by dsimp only; rw [Hs.out, List.length_append, Hm.out], by go_num, hlt, by dsimp only; rw [Hs.out, List.length_append, Hm.out]; exact Hown8.out, by dsimp only; rw [Hs.out]; exact Hps8.out, bw8⟩
      case measure => simp [intOf]; omega
    · have e : ps.take k = ps := List.take_of_length_le (by omega)
      rw [e, Hall.out] at hown hps
      rw [e, Hall.out]
      have hfin : RL wr wr.heap.size A3 l.length c3 l := ⟨vs, hown.rc, hps.keep (stays_below (Below.refl _ _) z3)⟩
      have b3 := Hb1.out.trans (hbel.mono z1)
      have hwr := write_c A3 l.length c3 l wr hfin Hf.out (rl_capv hfin)
      rw [Hws.out] at hwr
      have Hwr := Lib.hid hwr; have HB3 := Lib.hid b3; clear hown hps hfin hwr b3 e hlen
      go_wp2_with fail
      refine Hwr.out.mono ?_
      rintro e w4 ⟨A4, c4, rfl, hw4, hb4⟩
      have b4 := HB3.out.trans (hb4.mono (by omega))
      have hq := equal_c A4 A X.length c4 n c _ _ X X w4 hw4.rb (Hr.out.below b4) true (by simp)
      have Hq := Lib.hid hq; clear hq hw4
      go_wp2_with fail
      refine Hq.out.mono ?_
      rintro e w5 ⟨rfl, rfl⟩
      go_wp2
      go_ret
      exact ⟨rfl, b4⟩
end Go.Proofs.Ytplkjljhpmldfaa
