/-
  The walk of the law ChestSpoilt.
-/
import Derived.Test.YtplkjljhpmldfaaJ42
import Derived.Test.YtplkjljhpmldfaaJ43
import Derived.Test.YtplkjljhpmldfaaJ46
import Derived.Test.YtplkjljhpmldfaaJ12
namespace Go.Proofs.Ytplkjljhpmldfaa
open Go.RowKit Go.Shelf

theorem rl_bounds {w : World} {B n c : Nat} {A : Option Addr} {l : Rcs} (h : RL w B A n c l) : n ≤ c ∧ n ≤ 9223372036854775807 := by
  obtain ⟨vs, h1, _⟩ := h
  have h2 := h1.2.1; have h3 := h1.2.2.1
  unfold maxLen at h3
  omega
theorem Rb.setAt {w : World} {B n c g : Nat} {l : List UInt8} (h : Rb w B (some ⟨g, 0, none⟩) n c l) (k : Nat) (y : UInt8) (hk : k < n) : Rb (w.setCell ⟨g, k, none⟩ (.int .u8 (y.toNat : Int))) B (some ⟨g, 0, none⟩) n c (l.set k y) := by
  have hl := h.len
  refine ⟨by rw [List.length_set]; exact hl, h.2.1, h.2.2.1, fun hp => ?_⟩
  obtain ⟨b, off, e, hb, hc⟩ := h.2.2.2 hp
  injection e with e
  injection e with e1 e2 _
  subst e1 e2
  refine ⟨g, 0, rfl, hb, fun j x hj => ?_⟩
  by_cases hjk : j = k
  · subst hjk
    rw [List.getElem?_set_self (by omega)] at hj
    injection hj with hj
    subst hj
    have := hc j l[j] (List.getElem?_eq_getElem (by omega))
    rw [Nat.zero_add] at this ⊢
    exact World.cell?_setCell_same w _ _ this
  · rw [List.getElem?_set_ne (Ne.symm hjk)] at hj
    rw [World.cell?_setCell_other w _ _ _ (fun e => by injection e with _ e _; omega)]
    exact hc j x hj
theorem Own.cellX {w : World} {e : TypeId} {base c k : Nat} {A : Option Addr} {l : List UInt8} {x : UInt8} (h : Own w e base A c l) (hk : l[k]? = some x) : ∃ g, A = some ⟨g, 0, none⟩ ∧ base ≤ g ∧ g < w.heap.size ∧ w.cell? ⟨g, k, none⟩ = some (.int .u8 (x.toNat : Int)) ∧ w.frozen? ⟨g, k, none⟩ = false := by
  obtain ⟨hk2, _⟩ := List.getElem?_eq_some_iff.1 hk
  obtain ⟨g, rfl, h1⟩ := h.at_base (by omega)
  obtain ⟨b, off, e, hb, hc⟩ := h.rb.2.2.2 (by omega)
  injection e with e
  injection e with e1 e2 _
  subst e1 e2
  have := hc k x hk
  rw [Nat.zero_add] at this
  exact ⟨g, rfl, h1, (own_ob h g rfl).2, this, Own.frozenAt h k⟩
/-- What is read of what was written with one other byte. -/
theorem wr_spoilt {l : Rcs} (hf : Hm.Few l) (hm : ∀ r ∈ l, Fm.May r) (i : Nat) (x y : UInt8) (hi : (Hm.wr l)[i]? = some x) (hxy : x ≠ y) (hne : ¬ ((Hm.wr l).length - 8 ≤ i ∧ i < (Hm.wr l).length - 4)) :
    ∃ m, m ≤ l.length ∧ Tm.all (Hm.scS ((Hm.wr l).set i y)).1 = l.take m ∧ (Hm.scS ((Hm.wr l).set i y)).2.2 = 3 := by
  obtain ⟨m, h1, h2⟩ := Hm.scS_spoilt (Hm.ch_fits hf hm) (by have := Hm.ch_few hf; omega) i x y hi hxy hne
  rw [Hm.ch_flat_take _ l m (Nat.le_refl _)] at h1
  by_cases h : 4 * m ≤ l.length
  · exact ⟨4 * m, h, h1, h2⟩
  · exact ⟨l.length, Nat.le_refl _, by rw [List.take_length]; rw [List.take_of_length_le (by omega)] at h1; exact h1, h2⟩

set_option maxRecDepth 100000 in
set_option maxHeartbeats 4000000 in
theorem chestSpoilt_walk (A : Option Addr) (n c : Nat) (l : List (List (List UInt8))) (at_ by_ : Int) (w : World) (hr : RL w w.heap.size A n c l) (hz : ∀ r ∈ l, ∀ q ∈ r, q.length ≤ 140737488355328) (hat : I64 at_) (hby : 0 ≤ by_ ∧ by_ < 256) :
    Calls Try.prog 7 #[.slice A n c, .int .i64 at_, .int .u8 by_] w fun e w' => e = .returned (.bool true) ∧ Below w.heap.size w w' := by
  obtain ⟨q, rfl⟩ := Int.eq_ofNat_of_zero_le hby.1
  have hq : q < 256 := by have := hby.2; omega
  have hl := hr.len
  obtain ⟨hnc, hnmax⟩ := rl_bounds hr
  have hfew := fewR_c A n c w.heap.size l w hr hz _ rfl
  by_cases hf : wL l ≤ 1500 ∧ l.length ≤ 40
  rotate_left
  · rw [decide_eq_false hf] at hfew
    have Hfew := Lib.hid hfew
    clear hfew hr hz hf hl hat hby
    go_enter Try.func7, Try.ntmps7
    go_wp2_with fail
    refine Hfew.out.mono ?_
    rintro e w1 ⟨rfl, rfl⟩
    go_wp2_with fail
    refine (alive_c _).mono ?_
    rintro e w2 ⟨rfl, hb2⟩
    go_wp2
    go_ret
    exact ⟨rfl, hb2⟩
  rw [decide_eq_true hf] at hfew
  have hn : n ≤ 40 := by omega
  by_cases hq0 : q = 0
  · subst hq0
    have Hfew := Lib.hid hfew; have Hat := Lib.hid hat
    clear hfew hr hz hf hl hat hby
    go_enter Try.func7, Try.ntmps7
    go_wp2_with fail
    refine Hfew.out.mono ?_
    rintro e w1 ⟨rfl, rfl⟩
    go_wp2_with fail
    refine (alive_c _).mono ?_
    rintro e w2 ⟨rfl, hb2⟩
    go_wp2
    go_ret
    exact ⟨rfl, hb2⟩
  have hqz : ((q : Int) == 0) = false := by rw [beq_eq_false_iff_ne]; omega
  have hwr := write_c A n c l w hr hf hnc
  rcases mayC l with hm | hm
  rotate_left
  · rw [Hm.wrS_err hm] at hwr
    have Hfew := Lib.hid hfew; have Hat := Lib.hid hat; have Hwr := Lib.hid hwr
    clear hfew hz hf hat hwr hm hl hr hby
    go_enter Try.func7, Try.ntmps7
    go_wp2_with fail
    refine Hfew.out.mono ?_
    rintro e w1 ⟨rfl, rfl⟩
    go_wp2_with fail
    refine Hwr.out.mono ?_
    rintro e w2 ⟨A2, c2, rfl, hw2, hb2⟩
    clear hw2
    go_wp2_with fail
    refine (alive_c _).mono ?_
    rintro e w3 ⟨rfl, hb3⟩
    have bz := hb2.trans (hb3.mono hb2.size)
    go_wp2
    go_ret
    exact ⟨rfl, bz⟩
  rw [Hm.wrS_ok hm] at hwr
  have hXl := Hm.wr_len hf hm
  have hX8 := (Hm.ix_inv (Hm.ix_wr hf hm)).2.1
  have hsp := wr_spoilt hf hm
  have hlz : ∀ r ∈ l, r.length ≤ 1000000 := fun r hr => by have := (hm r hr).1; omega
  obtain ⟨X, hX⟩ : ∃ X, X = Hm.wr l := ⟨_, rfl⟩
  rw [← hX] at hwr hXl hsp hX8
  obtain ⟨xl, hxl⟩ : ∃ xl, X.length = xl := ⟨_, rfl⟩
  unfold RetW at hwr
  dsimp only at hwr
  rw [hxl] at hwr hXl hsp hX8
  obtain ⟨q8, hq8⟩ : ∃ q8, q8 = xl - 8 := ⟨_, rfl⟩
  obtain ⟨q4, hq4⟩ : ∃ q4, q4 = xl - 4 := ⟨_, rfl⟩
  have e8 : IntKind.i64.wrap ((xl : Int) - 8) = (q8 : Int) := by rw [IntWalk.i64_in _ (by omega)]; omega
  have e8' : ((xl : Int) - 8) = (q8 : Int) := by omega
  have e4 : IntKind.i64.wrap ((xl : Int) - 4) = (q4 : Int) := by rw [IntWalk.i64_in _ (by omega)]; omega
  have e4' : ((xl : Int) - 4) = (q4 : Int) := by omega
  rw [← hq8, ← hq4] at hsp
  have Hfew := Lib.hid hfew; have Hat := Lib.hid hat; have Hwr := Lib.hid hwr; have Hsp := Lib.hid hsp; have Hr := Lib.hid hr; have Hl := Lib.hid hl; have Hlz := Lib.hid hlz; have Hxl := Lib.hid hxl; have Hf := Lib.hid hf
  clear hfew hz hf hat hwr hsp hX hl hr hby hlz hX8 hm hxl
  by_cases h1 : at_ < 0
  · clear hq8 hq4
    go_enter Try.func7, Try.ntmps7
    go_wp2_with fail
    refine Hfew.out.mono ?_
    rintro e w1 ⟨rfl, rfl⟩
    go_wp2_with fail
    refine Hwr.out.mono ?_
    rintro e w2 ⟨A2, c2, rfl, hw2, hb2⟩
    clear hw2
    go_wp2_with fail
    refine (alive_c _).mono ?_
    rintro e w3 ⟨rfl, hb3⟩
    have bz := hb2.trans (hb3.mono hb2.size)
    go_wp2
    go_ret
    exact ⟨rfl, bz⟩
  obtain ⟨k, rfl⟩ := Int.eq_ofNat_of_zero_le (show 0 ≤ at_ by omega)
  by_cases h2 : xl ≤ k
  · clear hq8 hq4
    go_enter Try.func7, Try.ntmps7
    go_wp2_with fail
    refine Hfew.out.mono ?_
    rintro e w1 ⟨rfl, rfl⟩
    go_wp2_with fail
    refine Hwr.out.mono ?_
    rintro e w2 ⟨A2, c2, rfl, hw2, hb2⟩
    clear hw2
    go_wp2_with fail
    refine (alive_c _).mono ?_
    rintro e w3 ⟨rfl, hb3⟩
    have bz := hb2.trans (hb3.mono hb2.size)
    go_wp2
    go_ret
    exact ⟨rfl, bz⟩
  by_cases h3 : q8 ≤ k ∧ k < q4
  · obtain ⟨h31, h32⟩ := h3
    clear hq8 hq4
    go_enter Try.func7, Try.ntmps7
    go_wp2_with fail
    refine Hfew.out.mono ?_
    rintro e w1 ⟨rfl, rfl⟩
    go_wp2_with fail
    refine Hwr.out.mono ?_
    rintro e w2 ⟨A2, c2, rfl, hw2, hb2⟩
    clear hw2
    go_wp2_with fail
    refine (alive_c _).mono ?_
    rintro e w3 ⟨rfl, hb3⟩
    have bz := hb2.trans (hb3.mono hb2.size)
    go_wp2
    go_ret
    exact ⟨rfl, bz⟩
  have hk : k < xl := by omega
  obtain ⟨x, hxx⟩ : ∃ x, X[k]? = some x := ⟨_, List.getElem?_eq_getElem (by have := Hxl.out; omega)⟩
  obtain ⟨y, hyy⟩ : ∃ y : UInt8, y = UInt8.ofNat (x.toNat ^^^ q) := ⟨_, rfl⟩
  have hxl := x.toNat_lt
  have hyn : y.toNat = x.toNat ^^^ q := by rw [hyy, UInt8.toNat_ofNat']; exact Nat.mod_eq_of_lt (Cm.xor_lt8 (a := x.toNat) (b := q) (by omega) hq)
  have hxor : bits .xor .u8 (x.toNat : Int) (q : Int) = (y.toNat : Int) := by rw [hyn]; exact xor8 _ _ rfl rfl (by omega) hq
  have hne : x ≠ y := by
    intro e
    have h5 : x.toNat ^^^ 0 = x.toNat ^^^ q := by rw [Nat.xor_zero, ← hyn, ← e]
    have := Cm.xor_cancel h5
    omega
  obtain ⟨m, hmn, hall, her⟩ := Hsp.out k x y hxx hne h3
  obtain ⟨Y, hY⟩ : ∃ Y, Y = X.set k y := ⟨_, rfl⟩
  rw [← hY] at hall her
  have hYl : Y.length = xl := by rw [hY, List.length_set]; exact Hxl.out
  obtain ⟨_, _, hpn, _, _⟩ := Hm.scS_facts Y
  rw [Hl.out] at hmn
  have hal : ∀ W A1 c1, PL W W.heap.size A1 (Hm.scS Y).1.length c1 (Hm.scS Y).1 → Calls Try.prog 18 #[.slice A1 (Hm.scS Y).1.length c1] W (RetA W (l.take m)) := fun W A1 c1 h => by rw [← hall]; exact rall_c A1 _ c1 _ W h (by omega) (by rw [hall, List.length_take]; have := Hl.out; omega)
  have hsc : ∀ W A1 c1, Rb W W.heap.size A1 xl c1 Y → Calls Try.prog 16 #[.slice A1 xl c1] W fun e w' => ∃ A2 c2, e = .returned (.tuple #[.slice A2 (Hm.scS Y).1.length c2, .int .i64 ((Hm.scS Y).2.1 : Int), .int .i64 3]) ∧ PL w' w'.heap.size A2 (Hm.scS Y).1.length c2 (Hm.scS Y).1 ∧ Below W.heap.size W w' := fun W A1 c1 h => (scan_c A1 _ c1 _ W h (by omega)).mono fun e w' hp => by
    obtain ⟨A2, c2, he, hp, hb⟩ := hp
    rw [her] at he
    exact ⟨A2, c2, he, hp.pl, hb⟩
  obtain ⟨T, hT⟩ : ∃ T, T = l.take m := ⟨_, rfl⟩
  have hTl : T.length = m := by rw [hT, List.length_take]; have := Hl.out; omega
  obtain ⟨p, hp⟩ : ∃ p, p = (Hm.scS Y).1.length := ⟨_, rfl⟩
  obtain ⟨P, hP⟩ : ∃ P, P = (Hm.scS Y).1 := ⟨_, rfl⟩
  obtain ⟨G, hG⟩ : ∃ G, G = (Hm.scS Y).2.1 := ⟨_, rfl⟩
  rw [← hp, ← hP] at hal
  rw [← hp, ← hP, ← hG] at hsc
  rw [← hT] at hal
  have hTz : ∀ r ∈ T, r.length ≤ 1000000 := fun r hr => Hlz.out r (List.mem_of_mem_take (hT ▸ hr))
  have hrt : ∀ W, RL W W.heap.size A n c l → RL W W.heap.size A m c T := fun W h => by rw [hT]; exact h.upto hmn
  have hsl := fun W => sl0 A n c m hmn hnc W
  have hal' : ∀ W A1 c1, PL W W.heap.size A1 p c1 P → Calls Try.prog 18 #[.slice A1 p c1] W (fun e w' => ∃ A c, e = .returned (.slice A m c) ∧ RL w' w'.heap.size A m c T ∧ Below W.heap.size W w') := fun W A1 c1 h => by have := hal W A1 c1 h; unfold RetA at this; rw [hTl] at this; exact this
  have Hal := Lib.hid hal'; have Hsc := Lib.hid hsc; have Htz := Lib.hid hTz; have Hrt := Lib.hid hrt; have HY := Lib.hid hY; have Hxx := Lib.hid hxx
  have hmin : min (m : Int) (n : Int) = (m : Int) := by omega
  clear hal hal' hsc hTz hT hTl hp hP hG hall her hYl hpn hY hrt hxx hne hyn hyy hq8 hq4
  by_cases h4 : q8 ≤ k
  · have h5 : ¬ k < q4 := fun h => h3 ⟨h4, h⟩
    clear h3
    go_enter Try.func7, Try.ntmps7
    go_wp2_with fail
    refine Hfew.out.mono ?_
    rintro e w1 ⟨rfl, rfl⟩
    go_wp2_with fail
    refine Hwr.out.mono ?_
    rintro e w2 ⟨A2, c2, rfl, hw2, hb2⟩
    obtain ⟨g, rfl, hg1, hg2, hcell, hfrz⟩ := hw2.cellX Hxx.out
    obtain ⟨w3, hw3⟩ : ∃ w3, w3 = w2.setCell ⟨g, k, none⟩ (.int .u8 (y.toNat : Int)) := ⟨_, rfl⟩
    have hb3 : Below w.heap.size w w3 := by rw [hw3]; exact hb2.setCell (p := ⟨g, k, none⟩) hg1 _
    have hr3 : Rb w3 w3.heap.size (some ⟨g, 0, none⟩) xl c2 Y := by
      have h0 := hw2.rb
      rw [Hxl.out] at h0
      have h1 := h0.setAt k y hk
      rw [HY.out, hw3]
      exact h1.more (by simp)
    have Hr3 := Lib.hid hr3; have Hw3 := Lib.hid hw3
    clear hw2 hr3 hw3
    go_wp2_with fail
    rw [← Hw3.out]
    refine (Hsc.out w3 _ c2 Hr3.out).mono ?_
    rintro e w4 ⟨A4, c4, rfl, hp4, hb4⟩
    have z3 := hb3.size
    have z4 := hb4.size
    have Hp4 := Lib.hid hp4; clear hp4
    go_wp2_with fail
    refine (Hal.out w4 A4 c4 Hp4.out).mono ?_
    rintro e w5 ⟨A5, c5, rfl, hp5, hb5⟩
    have z5 := hb5.size
    have b5 := (hb3.trans (hb4.mono z3)).trans (hb5.mono (by omega))
    have Hp5 := Lib.hid hp5; clear hp5
    go_wp2_with fail
    refine (alive_c _).mono ?_
    rintro e w6 ⟨rfl, hb6⟩
    have b6 := b5.trans (hb6.mono b5.size)
    have Hp6 := Lib.hid ((Hp5.out.below hb6).more hb6.size)
    go_wp2_with fail
    refine (recs_big A5 A m c5 c _ _ Hp6.out (Hrt.out _ ((Hr.out.below b6).more b6.size)) (by omega) Htz.out).mono ?_
    rintro e w7 ⟨rfl, qq, rfl⟩
    go_wp2
    go_ret
    exact ⟨rfl, below_drewN b6 qq⟩
  · clear h3
    go_enter Try.func7, Try.ntmps7
    go_wp2_with fail
    refine Hfew.out.mono ?_
    rintro e w1 ⟨rfl, rfl⟩
    go_wp2_with fail
    refine Hwr.out.mono ?_
    rintro e w2 ⟨A2, c2, rfl, hw2, hb2⟩
    obtain ⟨g, rfl, hg1, hg2, hcell, hfrz⟩ := hw2.cellX Hxx.out
    obtain ⟨w3, hw3⟩ : ∃ w3, w3 = w2.setCell ⟨g, k, none⟩ (.int .u8 (y.toNat : Int)) := ⟨_, rfl⟩
    have hb3 : Below w.heap.size w w3 := by rw [hw3]; exact hb2.setCell (p := ⟨g, k, none⟩) hg1 _
    have hr3 : Rb w3 w3.heap.size (some ⟨g, 0, none⟩) xl c2 Y := by
      have h0 := hw2.rb
      rw [Hxl.out] at h0
      have h1 := h0.setAt k y hk
      rw [HY.out, hw3]
      exact h1.more (by simp)
    have Hr3 := Lib.hid hr3; have Hw3 := Lib.hid hw3
    clear hw2 hr3 hw3
    go_wp2_with fail
    rw [← Hw3.out]
    refine (Hsc.out w3 _ c2 Hr3.out).mono ?_
    rintro e w4 ⟨A4, c4, rfl, hp4, hb4⟩
    have z3 := hb3.size
    have z4 := hb4.size
    have Hp4 := Lib.hid hp4; clear hp4
    go_wp2_with fail
    refine (Hal.out w4 A4 c4 Hp4.out).mono ?_
    rintro e w5 ⟨A5, c5, rfl, hp5, hb5⟩
    have z5 := hb5.size
    have b5 := (hb3.trans (hb4.mono z3)).trans (hb5.mono (by omega))
    have Hp5 := Lib.hid hp5; clear hp5
    go_wp2_with fail
    refine (alive_c _).mono ?_
    rintro e w6 ⟨rfl, hb6⟩
    have b6 := b5.trans (hb6.mono b5.size)
    have Hp6 := Lib.hid ((Hp5.out.below hb6).more hb6.size)
    go_wp2_with fail
    refine (recs_big A5 A m c5 c _ _ Hp6.out (Hrt.out _ ((Hr.out.below b6).more b6.size)) (by omega) Htz.out).mono ?_
    rintro e w7 ⟨rfl, qq, rfl⟩
    go_wp2
    go_ret
    exact ⟨rfl, below_drewN b6 qq⟩
end Go.Proofs.Ytplkjljhpmldfaa
