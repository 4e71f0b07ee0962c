/-
  The walk of the law ChestBack.
-/
import Derived.Test.YtplkjljhpmldfaaJ49
import Derived.Test.YtplkjljhpmldfaaJ50
import Derived.Test.YtplkjljhpmldfaaJ43
import Derived.Test.YtplkjljhpmldfaaJ12
namespace Go.Proofs.Ytplkjljhpmldfaa
open Go.RowKit

theorem pcs_ix {C : List Rcs} {k : Nat} {p : Nat × Rcs} (h : (Hm.pcs 0 C)[k]? = some p) : (zsA (Hm.plc 0 (C.map Hm.ew)))[k]? = some (p.1 : Int) ∧ (zsC (Hm.plc 0 (C.map Hm.ew)))[k]? = some (p.2.length : Int) := by
  have hk : k < C.length := by
    have h1 := (List.getElem?_eq_some_iff.1 h).1
    rwa [Hm.pcs_len] at h1
  have h2 := Hm.pcs_get C 0 k C[k] (List.getElem?_eq_getElem hk)
  rw [h] at h2
  injection h2 with h2
  subst h2
  have h3 := Hm.plc_get (C.map Hm.ew) 0 k (Hm.ew C[k]) (by rw [List.getElem?_map, List.getElem?_eq_getElem hk]; rfl)
  rw [← List.map_take, Hm.tot_body] at h3
  unfold zsA zsC
  rw [List.getElem?_map, List.getElem?_map, h3]
  exact ⟨rfl, rfl⟩

set_option maxRecDepth 100000 in
set_option maxHeartbeats 4000000 in
theorem chestBack_walk (A : Option Addr) (n c : Nat) (l : List (List (List UInt8))) (w : World) (hr : RL w w.heap.size A n c l) (hz : ∀ r ∈ l, ∀ q ∈ r, q.length ≤ 140737488355328) :
    Calls Try.prog 6 #[.slice A n c] w fun e w' => e = .returned (.bool true) ∧ Below w.heap.size w w' := by
  by_cases h1 : wL l ≤ 1500 ∧ l.length ≤ 40
  rotate_left
  · have Hr := Lib.hid hr; have Hz := Lib.hid hz; have Ho := Lib.hid (decide_eq_false h1).symm; clear hr hz h1
    go_enter Try.func6, Try.ntmps6
    go_wp2_with fail
    refine (fewR_c A n c _ l _ Hr.out Hz.out false Ho.out).mono ?_
    rintro e w1 ⟨rfl, rfl⟩
    go_wp2_with fail
    refine (alive_c _).mono ?_
    rintro e w2 ⟨rfl, hb2⟩
    go_wp2
    go_ret
    exact ⟨rfl, hb2⟩
  · have hf : Hm.Few l := h1
    have hl := hr.len
    have hnc : n ≤ c := rl_capv hr
    have hwr := write_c A n c l w hr hf hnc
    rcases mayC l with hm | hm
    rotate_left
    · rw [Hm.wrS_err hm] at hwr
      have Hr := Lib.hid hr; have Hz := Lib.hid hz; have Ho := Lib.hid (decide_eq_true h1).symm; have Hwr := Lib.hid hwr
      clear hr hz h1 hf hl hnc hwr hm
      go_enter Try.func6, Try.ntmps6
      go_wp2_with fail
      refine (fewR_c A n c _ l _ Hr.out Hz.out true Ho.out).mono ?_
      rintro e w1 ⟨rfl, rfl⟩
      go_wp2_with fail
      refine Hwr.out.mono ?_
      rintro e w1 ⟨A1, c1, rfl, -, hb1⟩
      go_wp2_with fail
      refine (alive_c _).mono ?_
      rintro e w2 ⟨rfl, hb2⟩
      go_wp2
      go_ret
      exact ⟨rfl, hb1.trans (hb2.mono hb1.size)⟩
    · rw [Hm.wrS_ok hm] at hwr
      have hsc := Hm.scS_wr hf hm
      have hix := Hm.ix_wr hf hm
      have hXl := Hm.wr_len hf hm
      have hall := Hm.all_wr l
      obtain ⟨X, hX⟩ : ∃ X, X = Hm.wr l := ⟨_, rfl⟩
      rw [← hX] at hwr hsc hix hXl
      have hcn : ∀ W A1 c1, Rb W W.heap.size A1 X.length c1 X → Calls Try.prog 20 #[.slice A1 X.length c1] W fun e w' => e = .returned (.bool true) ∧ Below W.heap.size W w' := fun W A1 c1 h => by rw [hX] at h ⊢; exact canon_c A1 _ c1 l W h hf hm
      obtain ⟨N, hN⟩ : ∃ N, (Hm.ch l).length = N := ⟨_, rfl⟩
      have hN10 := Hm.ch_few hf
      rw [hN] at hN10
      obtain ⟨ps, hps⟩ : ∃ ps, ps = Hm.pcs 0 (Hm.ch l) := ⟨_, rfl⟩
      obtain ⟨L, hL⟩ : ∃ L, L = (Hm.ch l).map Hm.ew := ⟨_, rfl⟩
      have hpl : ps.length = N := by rw [hps, Hm.pcs_len, hN]
      have hLl : L.length = N := by rw [hL, List.length_map, hN]
      have hpix : ∀ (k : Nat) (p : Nat × Rcs), ps[k]? = some p → (zsA (Hm.plc 0 L))[k]? = some (p.1 : Int) ∧ (zsC (Hm.plc 0 L))[k]? = some (p.2.length : Int) := fun k p h => by rw [hL]; exact pcs_ix (by rw [← hps]; exact h)
      rw [← hps] at hsc hall
      rw [← hL] at hix
      have hscan := fun W A1 c1 (h : Rb W W.heap.size A1 X.length c1 X) => scan_c A1 X.length c1 X W h (by omega)
      have hidx := fun W A1 c1 (h : Rb W W.heap.size A1 X.length c1 X) => index_c A1 X.length c1 X W h (by omega)
      rw [hsc] at hscan
      rw [hix] at hidx
      unfold RetSc at hscan
      unfold RetId at hidx
      dsimp only at hscan hidx
      rw [hpl] at hscan
      rw [hLl] at hidx
      have hal := fun (W : World) (A1 : Option Addr) (c1 : Nat) (h : PL W W.heap.size A1 N c1 ps) => rall_c A1 N c1 ps W h (by omega) (by rw [hall]; have := h1.2; omega)
      rw [hall] at hal
      have hn : n ≤ 40 := by have := h1.2; omega
      have hls : ∀ r ∈ l, r.length ≤ 1000000 := fun r hr => by have := (hm r hr).1; omega
      have Hr := Lib.hid hr; have Hz := Lib.hid hz; have Ho := Lib.hid (decide_eq_true h1).symm; have Hwr := Lib.hid hwr; have Hcn := Lib.hid hcn; have Hscan := Lib.hid hscan; have Hidx := Lib.hid hidx; have Hal := Lib.hid hal; have Hpix := Lib.hid hpix; have Hl := Lib.hid hl; have Hls := Lib.hid hls; have Hpl := Lib.hid hpl
      clear hr hz h1 hwr hcn hscan hidx hal hpix hl hls hf hm hsc hix hall hX hps hL hLl hpl hN
      go_enter Try.func6, Try.ntmps6
      go_wp2_with fail
      refine (fewR_c A n c _ l _ Hr.out Hz.out true Ho.out).mono ?_
      rintro e w1 ⟨rfl, rfl⟩
      go_wp2_with fail
      refine Hwr.out.mono ?_
      rintro e w1 ⟨A1, c1, rfl, ho1, hb1⟩
      have z1 := hb1.size
      dsimp only at ho1 ⊢
      have hr1 := ho1.rb
      have Hr1 := Lib.hid hr1
      clear ho1 hr1
      go_wp2_with fail
      refine (Hscan.out _ _ _ Hr1.out).mono ?_
      rintro e w2 ⟨A2, c2, rfl, hp2, hb2⟩
      have z2 := hb2.size
      have b2 := hb1.trans (hb2.mono z1)
      have Hp2 := Lib.hid hp2.pl
      have Hr2 := Lib.hid ((Hr1.out.below hb2).more z2)
      clear hp2
      go_wp2_with fail
      refine (Hidx.out _ _ _ Hr2.out).mono ?_
      rintro e w3 ⟨hb3, A3, c3, D3, d3, rfl, hi3, hk3⟩
      have z3 := hb3.size
      have b3 := b2.trans (hb3.mono b2.size)
      have Hp3 := Lib.hid ((Hp2.out.below hb3).more z3)
      have Hr3 := Lib.hid ((Hr2.out.below hb3).more z3)
      have Hi3 := Lib.hid hi3; have Hk3 := Lib.hid hk3
      clear hi3 hk3
      go_wp2_with fail
      refine (Hcn.out _ _ _ Hr3.out).mono ?_
      rintro e w4 ⟨rfl, hb4⟩
      have z4 := hb4.size
      have b4 := b3.trans (hb4.mono b3.size)
      have Hp4 := Lib.hid ((Hp3.out.below hb4).more z4)
      have Hi4 := Lib.hid ((Hi3.out.below hb4).more z4); have Hk4 := Lib.hid ((Hk3.out.below hb4).more z4)
      go_wp2_with fail
      refine (Hal.out _ _ _ Hp4.out).mono ?_
      rintro e w5 ⟨A5, c5, rfl, hr5, hb5⟩
      have z5 := hb5.size
      have b5 := b4.trans (hb5.mono b4.size)
      have Hp5 := Lib.hid ((Hp4.out.below hb5).more z5)
      have Hi5 := Lib.hid ((Hi4.out.below hb5).more z5); have Hk5 := Lib.hid ((Hk4.out.below hb5).more z5)
      have hla := ((Hr.out.below b5).more b5.size)
      rw [Hl.out] at hr5
      rw [Hl.out]
      have Hr5 := Lib.hid hr5; have Hla := Lib.hid hla
      clear hr5 hla
      go_wp2_with fail
      refine (recs_big A5 A n c5 c l _ Hr5.out Hla.out (by omega) Hls.out).mono ?_
      rintro e w6 ⟨rfl, q, rfl⟩
      go_wp2
      go_loopw [11] (fun i wr => ∃ k : Nat, i = .int .i64 (k : Int) ∧ k ≤ N ∧ ∃ q, wr = w5.drewN q) (fun i _ => N - (intOf i).toNat)
      case atStart => exact ⟨0, rfl, Nat.zero_le _, _, rfl⟩
      case round =>
        obtain ⟨k, rfl, hk, q, rfl⟩ := hrel
        by_cases hlt : k < N
        · obtain ⟨b1, o1, p, D, m, d, e1, hS1, ca, cb, hp, hrl⟩ := Hp5.out.at_ hlt
          obtain ⟨hx1, hx2⟩ := Hpix.out k p hp
          obtain ⟨b2', o2, x, e2', hS2, cc, hx⟩ := Hi5.out.int hlt
          obtain ⟨b3', o3, y, e3, hS3, cd, hy⟩ := Hk5.out.int hlt
          rw [hx1] at hx
          injection hx with hx
          rw [hx2] at hy
          injection hy with hy
          subst hx hy e1 e2' e3
          have hm := RLS.len hrl
          rw [hm] at cd
          obtain ⟨p1, p2⟩ := p
          dsimp only at ca cc cd hm
          clear hx1 hx2 hp hrl hm
          go_wp2_with fail
          go_quiet (fail)
          go_wp2
          go_roundw
          case rel => exact ⟨k + 1, by go_num, by omega, _, rfl⟩
          case measure => simp [intOf]; omega
        · obtain rfl : k = N := by omega
          go_wp2_with fail
          refine (alive_c _).mono ?_
          rintro e w6 ⟨rfl, hb6⟩
          go_wp2
          go_ret
          exact ⟨rfl, (below_drewN b5 q).trans (hb6.mono (by simpa using b5.size))⟩
end Go.Proofs.Ytplkjljhpmldfaa
