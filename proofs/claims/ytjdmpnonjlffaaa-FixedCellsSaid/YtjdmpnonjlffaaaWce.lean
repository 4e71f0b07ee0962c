/-
  The walk of the law FixedCells.
-/
import Derived.Test.YtjdmpnonjlffaaaWwr
namespace Go.Proofs.Ytjdmpnonjlffaaa
open Go.RowKit Go.Maps

theorem rec_w (r : List (List UInt8)) : wL [r] = wR r := by simp [wL]

/-- One record in a slice of its own. -/
theorem one_rec (w w1 : World) (A : Option Addr) (n c : Nat) (r : List (List UInt8)) (hr : Rc 1 w w.heap.size A n c (lvs r)) (h1 : w1 = w.alloc (.cells #[.slice A n c] 43)) : RL w1 w1.heap.size (some ⟨w.heap.size, 0, none⟩) 1 1 [r] ∧ Below w.heap.size w w1 := by
  have b1 : Below w.heap.size w w1 := by rw [h1]; exact (Below.refl _ _).alloc (Nat.le_refl _) _
  have z1 : w1.heap.size = w.heap.size + 1 := by rw [h1]; simp
  refine ⟨⟨[.slice A n c], ?_, rfl, fun j v r' hj hr' => ?_⟩, b1⟩
  · rw [z1, h1]; exact Rc.lit (z := 1) w _ #[.slice A n c] 1 rfl (by simp [maxLen])
  · cases j with
    | zero => simp at hj hr'; subst hj hr'; exact ⟨A, n, c, rfl, (hr.below b1).more (by omega)⟩
    | succ j => simp at hj

set_option maxRecDepth 100000 in
set_option maxHeartbeats 1000000 in
theorem fixedCells_big (X : ByteArray) (A A' : Option Addr) (m d n c : Nat) (r : List (List UInt8)) (w : World) (hr : Rc 1 w w.heap.size A n c (lvs r)) (hz : ∀ q ∈ r, q.length ≤ 140737488355328) (hX : X.size ≤ 9223372036854775807) (hm : m ≤ 9223372036854775807) (h : 3000 < X.size ∨ 60 < m ∨ ¬ wR r ≤ 3000) :
    Calls Try.prog 6 #[.string X, .slice A' m d, .slice A n c] w fun e w' => e = .returned (.bool true) ∧ Below w.heap.size w w' := by
  by_cases h1 : 3000 < X.size
  · have d1 : decide ((3000 : Int) < (X.size : Int)) = true := by simp; omega
    clear h hr hz
    go_enter Try.func6, Try.ntmps6
    go_wp2_with fail
    refine (alive_c _).mono ?_
    rintro e w2 ⟨rfl, hb2⟩
    go_wp2
    go_ret
    exact ⟨rfl, hb2⟩
  · have d1 : decide ((3000 : Int) < (X.size : Int)) = false := by simp; omega
    by_cases h2 : 60 < m
    · have d2 : decide ((60 : Int) < (m : Int)) = true := by simp; omega
      clear h hr hz
      go_enter Try.func6, Try.ntmps6
      go_wp2_with fail
      refine (alive_c _).mono ?_
      rintro e w2 ⟨rfl, hb2⟩
      go_wp2
      go_ret
      exact ⟨rfl, hb2⟩
    · have d2 : decide ((60 : Int) < (m : Int)) = false := by simp; omega
      have h3 : ¬ (wL [r] ≤ 3000 ∧ (([r] : List (List (List UInt8))).length : Int) ≤ 1) := fun q => by rw [rec_w] at q; omega
      obtain ⟨w1, hw1⟩ : ∃ w1, w1 = w.alloc (.cells #[.slice A n c] 43) := ⟨_, rfl⟩
      obtain ⟨hrl, b1⟩ := one_rec w w1 A n c r hr hw1
      have z1 := b1.size
      have hz1 : ∀ s ∈ [r], ∀ q ∈ s, q.length ≤ 140737488355328 := fun s hs => by rw [List.mem_singleton] at hs; subst hs; exact hz
      have Hrl := Lib.hid hrl; have H1 := Lib.hid hw1; have Hz1 := Lib.hid hz1; have Ho := Lib.hid (decide_eq_false h3).symm; clear h hr hz hrl hw1 hz1 h3
      go_enter Try.func6, Try.ntmps6
      go_wp2_with fail
      rw [← H1.out]
      refine (fewR_c _ 1 1 _ [r] _ Hrl.out Hz1.out 1 false Ho.out).mono ?_
      rintro e w2 ⟨rfl, rfl⟩
      go_wp2_with fail
      refine (alive_c _).mono ?_
      rintro e w2 ⟨rfl, hb2⟩
      have bz := b1.trans (hb2.mono z1)
      go_wp2
      go_ret
      exact ⟨rfl, bz⟩

set_option maxRecDepth 100000 in
set_option maxHeartbeats 4000000 in
theorem fixedCells_ok (l : List UInt8) (A A' : Option Addr) (m d n c : Nat) (ws : List Int) (r : List (List UInt8)) (w : World) (hc : Rc 1 w w.heap.size A' m d (ivs ws)) (hr : Rc 1 w w.heap.size A n c (lvs r)) (hz : ∀ q ∈ r, q.length ≤ 140737488355328) (h1 : l.length ≤ 3000) (h2 : m ≤ 60) (h3 : wR r ≤ 3000) :
    Calls Try.prog 6 #[.string ⟨l.toArray⟩, .slice A' m d, .slice A n c] w fun e w' => e = .returned (.bool true) ∧ Below w.heap.size w w' := by
  have hrn := lvs_num hr
  have hrl := wR_len r
  have hfl := flat_w r
  have hback : (Fx.ceS ws l).2 = 0 → Fx.whS ws (Fx.ceS ws l).1 = (l, 0) := Fx.back
  have hcel := Fx.ceS_len ws l
  have hcfl : (Fx.ceS ws l).1.flatten.length ≤ 1000000 := by
    unfold Fx.ceS
    split
    · split
      · simp
      · split
        · simp
        · simp only [Fx.cl_flat, List.length_take]; omega
    · simp
  have hce : ∀ W, Rc 1 W W.heap.size A' m d (ivs ws) → Calls Try.prog 21 #[.string ⟨l.toArray⟩, .slice A' m d] W (RetC W (Fx.ceS ws l)) := fun W h => cells_c l A' m d ws W h
  have hrce : ∀ W, Rc 1 W W.heap.size A' m d (ivs ws) → Calls Try.prog 22 #[.string ⟨l.toArray⟩, .slice A' m d] W (RetC W (Fx.ceS ws l)) := fun W h => rcells_any l A' m d ws W h
  have hwh : ∀ W, Rc 1 W W.heap.size A n c (lvs r) → Rc 1 W W.heap.size A' m d (ivs ws) → Calls Try.prog 23 #[.slice A n c, .slice A' m d] W (RetH W (Fx.whS ws r)) := fun W h g => whole_c A n c r A' m d ws W h g (by omega) (by omega)
  have hrwh : ∀ W, Rc 1 W W.heap.size A n c (lvs r) → Rc 1 W W.heap.size A' m d (ivs ws) → Calls Try.prog 24 #[.slice A n c, .slice A' m d] W (RetH W (Fx.whS ws r)) := fun W h g => rwhole_c A n c r A' m d ws W h g (by omega) (by omega)
  have hbk : ∀ W D N e, Rc 1 W W.heap.size D N e (lvs (Fx.ceS ws l).1) → Rc 1 W W.heap.size A' m d (ivs ws) → Calls Try.prog 23 #[.slice D N e, .slice A' m d] W (RetH W (Fx.whS ws (Fx.ceS ws l).1)) := fun W D N e h g => whole_c D N e _ A' m d ws W h g hcfl (by have := lvs_num h; omega)
  obtain ⟨L, E, hLE⟩ : ∃ L E, Fx.ceS ws l = (L, E) := ⟨_, _, rfl⟩
  obtain ⟨T, G, hTG⟩ : ∃ T G, Fx.whS ws r = (T, G) := ⟨_, _, rfl⟩
  rw [hLE] at hback hcel
  simp only [hLE] at hce hrce hbk
  simp only [hTG] at hwh hrwh
  obtain ⟨U, I, hUI⟩ : ∃ U I, Fx.whS ws L = (U, I) := ⟨_, _, rfl⟩
  simp only [hUI] at hback hbk
  have hl1 : wL [r] ≤ 3000 ∧ (([r] : List (List (List UInt8))).length : Int) ≤ 1 := by rw [rec_w]; simp; omega
  obtain ⟨w1, hw1⟩ : ∃ w1, w1 = w.alloc (.cells #[.slice A n c] 43) := ⟨_, rfl⟩
  obtain ⟨hrl1, b1⟩ := one_rec w w1 A n c r hr hw1
  have z1 := b1.size
  have hz1 : ∀ s ∈ [r], ∀ q ∈ s, q.length ≤ 140737488355328 := fun s hs => by rw [List.mem_singleton] at hs; subst hs; exact hz
  obtain ⟨X, hX⟩ : ∃ X : ByteArray, X = ⟨l.toArray⟩ := ⟨_, rfl⟩
  have hXs : X.size = l.length := by rw [hX]; rfl
  rw [← hX] at hce hrce ⊢
  have d1 : decide ((3000 : Int) < (X.size : Int)) = false := by simp; omega
  have d2 : decide ((60 : Int) < (m : Int)) = false := by simp; omega
  have Hc := Lib.hid hc; have Hr := Lib.hid hr; have Hrl := Lib.hid hrl1; have H1 := Lib.hid hw1; have Hz1 := Lib.hid hz1; have Ho := Lib.hid (decide_eq_true hl1).symm
  have Hce := Lib.hid hce; have Hrce := Lib.hid hrce; have Hwh := Lib.hid hwh; have Hrwh := Lib.hid hrwh; have Hbk := Lib.hid hbk; have Hback := Lib.hid hback; have Hcel := Lib.hid hcel; have HX := Lib.hid hX
  clear hc hr hz hrl1 hw1 hz1 hl1 hce hrce hwh hrwh hbk hback hcel hX hXs hLE hTG hUI hrn hrl hfl hcfl
  go_enter Try.func6, Try.ntmps6
  go_wp2_with fail
  rw [← H1.out]
  refine (fewR_c _ 1 1 _ [r] _ Hrl.out Hz1.out 1 true Ho.out).mono ?_
  rintro e w2 ⟨rfl, rfl⟩
  have hc1 := (Hc.out.below b1).more z1
  have hr1 := (Hr.out.below b1).more z1
  have Hc1 := Lib.hid hc1; have Hr1 := Lib.hid hr1; clear hc1 hr1 d1 d2
  go_wp2_with fail
  refine (Hce.out _ Hc1.out).mono ?_
  rintro e w2 ⟨A2, c2, rfl, hp2, hb2⟩
  dsimp only at hp2 ⊢
  have z2 := hb2.size
  have hc2 := (Hc1.out.below hb2).more z2
  have HP2 := Lib.hid hp2; have Hc2 := Lib.hid hc2; clear hp2 hc2
  go_wp2_with fail
  refine (Hrce.out _ Hc2.out).mono ?_
  rintro e w3 ⟨A3, c3, rfl, hp3, hb3⟩
  dsimp only at hp3 ⊢
  have z3 := hb3.size
  have b13 := hb2.trans (hb3.mono z2)
  have hc3 := (Hc2.out.below hb3).more z3
  have hr3 := (Hr1.out.below b13).more (show w1.heap.size ≤ w3.heap.size by omega)
  have HP3 := Lib.hid hp3; have Hc3 := Lib.hid hc3; have Hr3 := Lib.hid hr3; clear hp3 hc3 hr3
  go_wp2_with fail
  refine (Hwh.out _ Hr3.out Hc3.out).mono ?_
  rintro e w4 ⟨rfl, hb4⟩
  dsimp only
  have z4 := hb4.size
  have hc4 := (Hc3.out.below hb4).more z4
  have hr4 := (Hr3.out.below hb4).more z4
  have Hc4 := Lib.hid hc4; have Hr4 := Lib.hid hr4; clear hc4 hr4
  go_wp2_with fail
  refine (Hrwh.out _ Hr4.out Hc4.out).mono ?_
  rintro e w5 ⟨rfl, hb5⟩
  dsimp only
  have z5 := hb5.size
  have b25 := hb3.trans ((hb4.trans (hb5.mono z4)).mono z3)
  have hc5 := (Hc4.out.below hb5).more z5
  have hp5 := (HP2.out.below b25).more (show w2.heap.size ≤ w5.heap.size by omega)
  have Hc5 := Lib.hid hc5; have HP5 := Lib.hid hp5; clear hc5 hp5
  go_wp2_with fail
  refine (Hbk.out _ _ _ _ HP5.out Hc5.out).mono ?_
  rintro e w6 ⟨rfl, hb6⟩
  dsimp only
  have z6 := hb6.size
  go_wp2_with fail
  refine (alive_c _).mono ?_
  rintro e w7 ⟨rfl, hb7⟩
  have z7 := hb7.size
  have b57 := hb6.trans (hb7.mono z6)
  have b37 := (hb4.trans (hb5.mono z4)).trans (b57.mono (show w3.heap.size ≤ w5.heap.size by omega))
  have b27 := hb3.trans (b37.mono z3)
  have q2 := HP2.out.below b27
  have q3 := HP3.out.below b37
  have bz : Below w.heap.size w w7 := b1.trans ((hb2.trans (b27.mono z2)).mono z1)
  have Q2 := Lib.hid q2; have Q3 := Lib.hid q3; clear q2 q3
  go_wp2_with fail
  refine (strings_c A2 A3 L.length c2 c3 _ _ L _ Q2.out Q3.out (by have := Hcel.out; omega)).mono ?_
  rintro e w8 ⟨rfl, q, rfl⟩
  by_cases hE : E = 0
  · have hb := Hback.out hE
    injection hb with hU hI
    subst hE hI
    have hUX : (⟨U.toArray⟩ : ByteArray) = X := by rw [hU, HX.out]
    have HUX := Lib.hid hUX
    rw [hUX]
    clear hU hUX
    go_wp2
    go_ret
    exact ⟨rfl, below_drewN bz q⟩
  · have dE : ((E : Int) != 0) = true := by simp; omega
    go_wp2
    go_ret
    exact ⟨rfl, below_drewN bz q⟩

set_option maxRecDepth 100000 in
theorem fixedCells_walk (s : ByteArray) (A' : Option Addr) (m d : Nat) (ws : List Int) (A : Option Addr) (n c : Nat) (r : List (List UInt8)) (w : World) (hs : s.size ≤ maxLen) (hc : Rc 1 w w.heap.size A' m d (ws.map fun x => Value.int .i64 x)) (hr : Rc 1 w w.heap.size A n c (lvs r)) (hz : ∀ q ∈ r, q.length ≤ 140737488355328) :
    Calls Try.prog 6 #[.string s, .slice A' m d, .slice A n c] w fun e w' => e = .returned (.bool true) ∧ Below w.heap.size w w' := by
  have hmax : m ≤ 9223372036854775807 := by have h2 := hc.2.1; have h3 := hc.2.2.1; unfold maxLen at h3; omega
  by_cases h : 3000 < s.size ∨ 60 < m ∨ ¬ wR r ≤ 3000
  · exact fixedCells_big s A A' m d n c r w hr hz (by unfold maxLen at hs; omega) hmax h
  · obtain ⟨l, rfl⟩ : ∃ l : List UInt8, s = ⟨l.toArray⟩ := ⟨s.data.toList, by cases s; simp⟩
    have hl : (ByteArray.mk l.toArray).size = l.length := rfl
    rw [hl] at h
    exact fixedCells_ok l A A' m d n c ws r w hc hr hz (by omega) (by omega) (by omega)
end Go.Proofs.Ytjdmpnonjlffaaa
