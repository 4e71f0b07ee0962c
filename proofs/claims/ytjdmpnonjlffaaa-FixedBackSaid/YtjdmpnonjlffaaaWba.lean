/-
  The walk of the law FixedBack.
-/
import Derived.Test.YtjdmpnonjlffaaaWwr
namespace Go.Proofs.Ytjdmpnonjlffaaa
open Go.RowKit Go.Maps

theorem oks_small {k : Nat} {l : List (List (List UInt8))} (h : l.all (Fx.ok k) = true) : ∀ r ∈ l, r.length ≤ 1000000 := fun r hr => by
  obtain ⟨s, rfl, _⟩ := Fx.ok_inv (List.all_eq_true.1 h r hr)
  simp

theorem back_cases {p : Prop} [Decidable p] {m : Nat} (h : ¬ (p ∧ m ≤ 3000)) : ¬ p ∨ p ∧ decide ((3000 : Int) < (m : Int)) = true := by
  by_cases hp : p
  · exact .inr ⟨hp, by have : ¬ m ≤ 3000 := fun q => h ⟨hp, q⟩; simp; omega⟩
  · exact .inl hp
set_option maxRecDepth 100000 in
set_option maxHeartbeats 1000000 in
theorem fixedBack_big (A A' : Option Addr) (n c m d : Nat) (l : List (List (List UInt8))) (k : Int) (w : World) (hr : RL w w.heap.size A n c l) (hz : ∀ r ∈ l, ∀ q ∈ r, q.length ≤ 140737488355328) (h : ¬ ((wL l ≤ 3000 ∧ (l.length : Int) ≤ 120) ∧ m ≤ 3000)) :
    Calls Try.prog 8 #[.slice A n c, .slice A' m d, .int .i64 k] w fun e w' => e = .returned (.bool true) ∧ Below w.heap.size w w' := by
  rcases back_cases h with h1 | ⟨h1, d2⟩
  · have Hr := Lib.hid hr; have Hz := Lib.hid hz; have Ho := Lib.hid (decide_eq_false h1).symm; clear hr hz h h1
    go_enter Try.func8, Try.ntmps8
    go_wp2_with fail
    refine (fewR_c A n c _ l _ Hr.out Hz.out 120 false Ho.out).mono ?_
    rintro e w1 ⟨rfl, rfl⟩
    go_wp2_with fail
    refine (alive_c _).mono ?_
    rintro e w2 ⟨rfl, hb2⟩
    go_wp2
    go_ret
    exact ⟨rfl, hb2⟩
  · have Hr := Lib.hid hr; have Hz := Lib.hid hz; have Ho := Lib.hid (decide_eq_true h1).symm; clear hr hz h h1
    go_enter Try.func8, Try.ntmps8
    go_wp2_with fail
    refine (fewR_c A n c _ l _ Hr.out Hz.out 120 true Ho.out).mono ?_
    rintro e w1 ⟨rfl, rfl⟩
    go_wp2_with fail
    refine (alive_c _).mono ?_
    rintro e w2 ⟨rfl, hb2⟩
    go_wp2
    go_ret
    exact ⟨rfl, hb2⟩

/-- The second half: the pieces of b, what they write, whether b is canonical. -/
structure Sec (b : List UInt8) (k : Int) (P : List (Nat × List UInt8)) (V E : Nat) (Y : List UInt8) (G : Nat) : Prop where
  scan : ScanAny b k P V E
  write : WriteAny (P.map Tm.rc) k Y G
  back : E = 0 → G = 0 ∧ Y = b
theorem sec_of (b : List UInt8) (k : Int) (h : b.length ≤ 1000000) : ∃ P V E Y G, Sec b k P V E Y G := by
  obtain ⟨P, V, E, hS, h1, h0⟩ := scan_any b k
  cases hk : isw k with
  | false =>
    obtain ⟨rfl, rfl⟩ := h0 hk
    obtain ⟨Y, G, hW, _, _⟩ := write_any ([].map Tm.rc) k (by simp [Fx.wr])
    exact ⟨[], V, 1, Y, G, hS, hW, fun h => by cases h⟩
  | true =>
    obtain ⟨K, rfl, hK1, hK2⟩ := isw_nat hk
    obtain ⟨rfl, rfl, rfl⟩ := h1 K hk rfl
    have hwr := Fx.wr_rs b K (b.length / K)
    have hle : (Fx.wr ((Fx.ch b K).map Tm.rc)).length ≤ 1000000 := by
      rw [Fx.ch, hwr, List.length_take]; omega
    obtain ⟨Y, G, hW, h2, _⟩ := write_any ((Fx.ch b K).map Tm.rc) (K : Int) hle
    have h3 := h2 K hk rfl
    rw [Fx.wrS_ok (Fx.ok_ch b K hK1)] at h3
    injection h3 with h3 h4
    refine ⟨_, _, _, Y, G, hS, hW, fun he => ⟨h4, ?_⟩⟩
    rw [h3]
    exact Fx.wr_ch b K ((scE_zero b.length K).1 (by rw [he]; rfl))
/-- The first half: what was written is read. -/
structure Fst (l : List (List (List UInt8))) (k : Int) (X : List UInt8) (P : List (Nat × List UInt8)) (V : Nat) : Prop where
  scan : ScanAny X k P V 0
  size : V = X.length
  same : P.map Tm.rc = l
  small : ∀ r ∈ l, r.length ≤ 1000000
theorem fst_of (l : List (List (List UInt8))) (k : Int) (h : (Fx.wr l).length ≤ 1000000) : ∃ X E, WriteAny l k X E ∧ X.length ≤ 1000000 ∧ (E = 0 → ∃ P V, Fst l k X P V) := by
  obtain ⟨X, E, hW, h1, h0⟩ := write_any l k h
  refine ⟨X, E, hW, ?_, fun hE => ?_⟩
  · cases hk : isw k with
    | false => rw [(h0 hk).1]; simp
    | true =>
      obtain ⟨K, rfl, _, _⟩ := isw_nat hk
      have h3 := h1 K hk rfl
      unfold Fx.wrS at h3
      split at h3
      · injection h3 with h3 _; rw [h3]; exact h
      · injection h3 with h3 _; rw [h3]; simp
  · cases hk : isw k with
    | false => rw [(h0 hk).2] at hE; cases hE
    | true =>
      obtain ⟨K, rfl, hK1, hK2⟩ := isw_nat hk
      have h3 := h1 K hk rfl
      have hall : l.all (Fx.ok K) = true := Fx.wrS_zero (by rw [← h3]; exact hE)
      rw [Fx.wrS_ok hall] at h3
      injection h3 with h3 _
      subst h3
      obtain ⟨P, V, E', hS, g1, _⟩ := scan_any (Fx.wr l) (K : Int)
      obtain ⟨rfl, rfl, rfl⟩ := g1 K hk rfl
      have hlen := Fx.wr_len K l hall
      have hdiv : (Fx.wr l).length / K * K = (Fx.wr l).length := by rw [hlen, Nat.mul_div_cancel _ hK1]
      have hz : scE (Fx.wr l).length K = 0 := by
        have := (scE_zero (Fx.wr l).length K).2 hdiv
        simpa using this
      rw [hz] at hS
      exact ⟨_, _, hS, hdiv, Fx.ch_wr K hK1 l hall, oks_small hall⟩

set_option maxRecDepth 100000 in
set_option maxHeartbeats 8000000 in
theorem fixedBack_walk (A : Option Addr) (n c : Nat) (l : List (List (List UInt8))) (A' : Option Addr) (m d : Nat) (b : List UInt8) (k : Int) (w : World) (hr : RL w w.heap.size A n c l) (hz : ∀ r ∈ l, ∀ q ∈ r, q.length ≤ 140737488355328) (hb : Rb w w.heap.size A' m d b) (_hk : I64 k) :
    Calls Try.prog 8 #[.slice A n c, .slice A' m d, .int .i64 k] w fun e w' => e = .returned (.bool true) ∧ Below w.heap.size w w' := by
  by_cases hbig : (wL l ≤ 3000 ∧ (l.length : Int) ≤ 120) ∧ m ≤ 3000
  · obtain ⟨h1, hm⟩ := hbig
    have hl := hr.len
    subst hl
    have hbl := hb.len
    subst hbl
    have hw := wr_w l
    obtain ⟨P, V, E, Y, G, hS⟩ := sec_of b k (by omega)
    obtain ⟨X, F, hW, hXl, hF⟩ := fst_of l k (by omega)
    have hn : l.length ≤ 120 := by omega
    have d2 : decide ((3000 : Int) < (b.length : Int)) = false := by simp; omega
    have hPl := hS.scan.len
    obtain ⟨oc, hoc⟩ : ∃ oc, oc = ((E : Int) == 0) := ⟨_, rfl⟩
    have hend : oc = false ∨ oc = true ∧ G = 0 ∧ Y = b := by
      by_cases hE : E = 0
      · exact .inr ⟨by rw [hoc, hE]; rfl, hS.back hE⟩
      · exact .inl (by rw [hoc]; simp; omega)
    have Hr := Lib.hid hr; have Hz := Lib.hid hz; have Hb := Lib.hid hb; have Ho := Lib.hid (decide_eq_true h1).symm; have HS := Lib.hid hS; have HW := Lib.hid hW; have Hoc := Lib.hid hoc; have Hend := Lib.hid hend
    clear hr hz hb h1 hw hS hW hoc hend
    go_enter Try.func8, Try.ntmps8
    go_wp2_with fail
    refine (fewR_c A l.length c _ l _ Hr.out Hz.out 120 true Ho.out).mono ?_
    rintro e w1 ⟨rfl, rfl⟩
    go_wp2_with fail
    refine (HW.out.write _ _ _ _ Hr.out (by omega)).mono ?_
    rintro e w1 ⟨A1, c1, rfl, hp1, hb1⟩
    have z1 := hb1.size
    have hb1' := (Hb.out.below hb1).more z1
    have H1 := Lib.hid hp1; have Hb1 := Lib.hid hb1'; clear hp1 hb1' d2
    dsimp only
    by_cases hF0 : F = 0
    · obtain ⟨P1, V1, hF1⟩ := hF hF0
      subst hF0
      have hsz := hF1.size
      subst hsz
      have hPX := hF1.scan.len
      have dv : ((X.length : Int) != (X.length : Int)) = false := by simp
      have hr1 := (Hr.out.below hb1).more z1
      have HF1 := Lib.hid hF1; have Hr1 := Lib.hid hr1; clear hF1 hr1 hF
      go_wp2_with fail
      refine (HF1.out.scan.scan _ _ _ _ H1.out.rb hXl).mono ?_
      rintro e w2 ⟨A2, c2, rfl, hp2, hb2⟩
      have z2 := hb2.size
      have hx2 := (H1.out.rb.below hb2).more z2
      have HP2 := Lib.hid hp2; have Hx2 := Lib.hid hx2; clear hp2 hx2
      go_wp2_with fail
      refine (HF1.out.scan.canon _ _ _ _ _ true Hx2.out hXl rfl).mono ?_
      rintro e w3 ⟨rfl, rfl⟩
      go_wp2_with fail
      refine (rall_c A2 P1.length c2 (P1.map Tm.pc) _ HP2.out (by omega) (by rw [Tm.all_pc, List.length_map]; omega)).mono ?_
      rw [Tm.all_pc, HF1.out.same]
      rintro e w4 ⟨A4, c4, rfl, hp4, hb4⟩
      have z4 := hb4.size
      have b14 := hb2.trans (hb4.mono z2)
      have hr4 := (Hr1.out.below b14).more (show w1.heap.size ≤ w4.heap.size by omega)
      have HP4 := Lib.hid hp4; have Hr4 := Lib.hid hr4; clear hp4 hr4
      go_wp2_with fail
      refine (recs_c A4 A l.length c4 c l _ HP4.out Hr4.out (by omega) HF1.out.small).mono ?_
      rintro e w5 ⟨rfl, q, rfl⟩
      obtain ⟨w6, hw6⟩ : ∃ w6, w6 = w4.drewN q := ⟨_, rfl⟩
      have b16 : Below w1.heap.size w1 w6 := by rw [hw6]; exact below_drewN b14 q
      have z6 : w1.heap.size ≤ w6.heap.size := b16.size
      have hb6 := (Hb1.out.below b16).more z6
      have H6 := Lib.hid hw6; have Hb6 := Lib.hid hb6; clear hw6 hb6
      go_wp2_with fail
      rw [← H6.out]
      refine (HS.out.scan.scan _ _ _ _ Hb6.out (by omega)).mono ?_
      rintro e w7 ⟨A7, c7, rfl, hp7, hb7⟩
      have z7 := hb7.size
      have hb7' := (Hb6.out.below hb7).more z7
      have HP7 := Lib.hid hp7; have Hb7 := Lib.hid hb7'; clear hp7 hb7'
      go_wp2_with fail
      refine (rall_c A7 P.length c7 (P.map Tm.pc) _ HP7.out (by omega) (by rw [Tm.all_pc, List.length_map]; omega)).mono ?_
      rw [Tm.all_pc]
      rintro e w8 ⟨A8, c8, rfl, hp8, hb8⟩
      have z8 := hb8.size
      rw [List.length_map] at hp8
      have HP8 := Lib.hid hp8; clear hp8
      go_wp2_with fail
      refine (HS.out.write.write _ _ _ _ HP8.out (by omega)).mono ?_
      rintro e w9 ⟨A9, c9, rfl, hp9, hb9⟩
      have z9 := hb9.size
      have HP9 := Lib.hid hp9; clear hp9
      dsimp only
      go_wp2_with fail
      refine (alive_c _).mono ?_
      rintro e wa ⟨rfl, hba⟩
      have za := hba.size
      have b7a : Below w7.heap.size w7 wa := hb8.trans ((hb9.trans (hba.mono z9)).mono z8)
      have hba' := (Hb7.out.below b7a).more (show w7.heap.size ≤ wa.heap.size by omega)
      have bz : Below w.heap.size w wa := hb1.trans ((b16.trans ((hb7.trans (b7a.mono z7)).mono z6)).mono z1)
      have cv1 := bty.conv (HP9.out.rb.below hba)
      have cv2 := bty.conv hba'
      have Hba := Lib.hid hba'; clear hba'
      rcases Hend.out with rfl | ⟨rfl, rfl, rfl⟩
      all_goals
        go_wp2_with fail
        refine (HS.out.scan.canon _ _ _ _ _ _ Hba.out (by omega) Hoc.out).mono ?_
        rintro e wb ⟨rfl, rfl⟩
        go_wp2
        go_ret
        exact ⟨rfl, bz⟩
    · have dF : ((F : Int) == 0) = false := by simp; omega
      clear hF
      obtain ⟨w6, hw6⟩ : ∃ w6, w6 = w1 := ⟨_, rfl⟩
      have b16 : Below w1.heap.size w1 w6 := by rw [hw6]; exact Below.refl _ _
      have z6 : w1.heap.size ≤ w6.heap.size := b16.size
      have hb6 := (Hb1.out.below b16).more z6
      have H6 := Lib.hid hw6; have Hb6 := Lib.hid hb6; clear hw6 hb6
      go_wp2_with fail
      rw [← H6.out]
      refine (HS.out.scan.scan _ _ _ _ Hb6.out (by omega)).mono ?_
      rintro e w7 ⟨A7, c7, rfl, hp7, hb7⟩
      have z7 := hb7.size
      have hb7' := (Hb6.out.below hb7).more z7
      have HP7 := Lib.hid hp7; have Hb7 := Lib.hid hb7'; clear hp7 hb7'
      go_wp2_with fail
      refine (rall_c A7 P.length c7 (P.map Tm.pc) _ HP7.out (by omega) (by rw [Tm.all_pc, List.length_map]; omega)).mono ?_
      rw [Tm.all_pc]
      rintro e w8 ⟨A8, c8, rfl, hp8, hb8⟩
      have z8 := hb8.size
      rw [List.length_map] at hp8
      have HP8 := Lib.hid hp8; clear hp8
      go_wp2_with fail
      refine (HS.out.write.write _ _ _ _ HP8.out (by omega)).mono ?_
      rintro e w9 ⟨A9, c9, rfl, hp9, hb9⟩
      have z9 := hb9.size
      have HP9 := Lib.hid hp9; clear hp9
      dsimp only
      go_wp2_with fail
      refine (alive_c _).mono ?_
      rintro e wa ⟨rfl, hba⟩
      have za := hba.size
      have b7a : Below w7.heap.size w7 wa := hb8.trans ((hb9.trans (hba.mono z9)).mono z8)
      have hba' := (Hb7.out.below b7a).more (show w7.heap.size ≤ wa.heap.size by omega)
      have bz : Below w.heap.size w wa := hb1.trans ((b16.trans ((hb7.trans (b7a.mono z7)).mono z6)).mono z1)
      have cv1 := bty.conv (HP9.out.rb.below hba)
      have cv2 := bty.conv hba'
      have Hba := Lib.hid hba'; clear hba'
      rcases Hend.out with rfl | ⟨rfl, rfl, rfl⟩
      all_goals
        go_wp2_with fail
        refine (HS.out.scan.canon _ _ _ _ _ _ Hba.out (by omega) Hoc.out).mono ?_
        rintro e wb ⟨rfl, rfl⟩
        go_wp2
        go_ret
        exact ⟨rfl, bz⟩
  · exact fixedBack_big A A' n c m d l k w hr hz hbig
end Go.Proofs.Ytjdmpnonjlffaaa
