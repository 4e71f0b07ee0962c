/-
  The walk of the law ValueTexts.
-/
import Derived.Test.YtkkjgiejnblopaaDoorVF
import Derived.Test.YtkkjgiejnblopaaDoorRi
import Derived.Deep.Cut
namespace Go.Proofs.YtkkjgiejnblopaaDoor
open Go.RowKit Vl

theorem Pl.region_via {α : Type} {P : Program} {id : Nat} {ops : Array Oper} {dr : Bool} {a : Act} {w : World} {Q : Exit → Act → World → Prop} (F : α → Act → Act) (Φ : α → World → Prop)
    (h1 : (Code.region id ops dr).wp P (fun e a' w' => e = Exit.normal ∧ ∃ x, a' = F x a ∧ Φ x w') a w) (h2 : ∀ x w', Φ x w' → Q Exit.normal (F x a) w') : (Code.region id ops dr).wp P Q a w :=
  Code.wp_mono (fun e a' w' ⟨he, x, ha, hp⟩ => by subst he ha; exact h2 x w' hp) h1

theorem slc_le (s : List UInt8) (f m : Int) (h : s.length ≤ 1000) : (slc s f m).length ≤ 1000 := Nat.le_trans (slc_len s f m) h
theorem isV_t {s : List UInt8} (h : s.length ≤ 1000) : isV ⟨true, 0, s⟩ = true := by unfold isV; simp [h]
theorem do_11 {s : List UInt8} (h : s.length ≤ 1000) (f m : Int) : doV 11 [⟨true, 0, s⟩, ⟨false, f, []⟩, ⟨false, m, []⟩] = (⟨true, 0, slc s f m⟩, 0) := by
  have hall : ([⟨true, 0, s⟩, ⟨false, f, []⟩, ⟨false, m, []⟩] : List V).all isV = true := by simp [isV_t h]; exact ⟨rfl, rfl⟩
  have hres : (res 11 (([⟨true, 0, s⟩, ⟨false, f, []⟩, ⟨false, m, []⟩] : List V).map (·.t))).2 = 0 := by show (res 11 [true, false, false]).2 = 0; decide
  unfold doV
  rw [if_pos hall, if_pos hres, if_neg (by omega)]
  show (txt (slc s f m), 0) = _
  rw [txt_short (slc_le s f m h)]
theorem do_9 {s t : List UInt8} (h : s.length ≤ 1000) (k : t.length ≤ 1000) (hst : (s ++ t).length ≤ 1000) : doV 9 [⟨true, 0, s⟩, ⟨true, 0, t⟩] = (⟨true, 0, s ++ t⟩, 0) := by
  have hall : ([⟨true, 0, s⟩, ⟨true, 0, t⟩] : List V).all isV = true := by simp [isV_t h, isV_t k]
  have hres : (res 9 (([⟨true, 0, s⟩, ⟨true, 0, t⟩] : List V).map (·.t))).2 = 0 := by show (res 9 [true, true]).2 = 0; decide
  unfold doV
  rw [if_pos hall, if_pos hres, if_neg (by omega)]
  show (txt (s ++ t), 0) = _
  rw [txt_short hst]
theorem do_21 {s t : List UInt8} (h : s.length ≤ 1000) (k : t.length ≤ 1000) : doV 21 [⟨true, 0, s⟩, ⟨true, 0, t⟩] = (⟨false, find s t, []⟩, 0) := by
  have hall : ([⟨true, 0, s⟩, ⟨true, 0, t⟩] : List V).all isV = true := by simp [isV_t h, isV_t k]
  have hres : (res 21 (([⟨true, 0, s⟩, ⟨true, 0, t⟩] : List V).map (·.t))).2 = 0 := by show (res 21 [true, true]).2 = 0; decide
  unfold doV
  rw [if_pos hall, if_pos hres, if_neg (by omega)]
  rfl
theorem do_turn {s : List UInt8} (h : s.length ≤ 1000) : doV 12 [⟨true, 0, s⟩] = (⟨true, 0, turned s 97⟩, 0) ∧ doV 13 [⟨true, 0, s⟩] = (⟨true, 0, turned s 65⟩, 0) := by
  have hall : ([⟨true, 0, s⟩] : List V).all isV = true := by simp [isV_t h]
  have hres : (res 12 (([⟨true, 0, s⟩] : List V).map (·.t))).2 = 0 := by show (res 12 [true]).2 = 0; decide
  have hres2 : (res 13 (([⟨true, 0, s⟩] : List V).map (·.t))).2 = 0 := by show (res 13 [true]).2 = 0; decide
  have hl : ∀ f, (turned s f).length ≤ 1000 := fun f => by rw [turned_len]; exact h
  constructor
  · unfold doV
    rw [if_pos hall, if_pos hres, if_neg (by omega)]
    show (txt (turned s 97), 0) = _
    rw [txt_short (hl 97)]
  · unfold doV
    rw [if_pos hall, if_pos hres2, if_neg (by omega)]
    show (txt (turned s 65), 0) = _
    rw [txt_short (hl 65)]

theorem do_row (S : Vls) (op : Int) (l : List V) (k : Nat) (hk : l.length = k) (hk2 : k ≤ 1000) (hop : I op) (hl : ∀ v ∈ l, I v.n ∧ v.s.length ≤ 1000000) (t : Bool) (n : Int) (s : List UInt8) (x : Nat) (hres : doV op l = (⟨t, n, s⟩, x)) (g : Nat) (w : World) (hG : Gl w) (hrow : Rc 3 w w.heap.size (some ⟨g, 0, none⟩) k k (vvs l)) :
    Calls Tryd.prog 10 #[.int .i64 op, .slice (some ⟨g, 0, none⟩) k k] w (RetP w t n s x) := by
  refine (S.do_ op _ k k l w hG hop hrow (by omega) hl).mono fun e w' ⟨h0, h1⟩ => ?_
  rw [hres] at h0
  exact ⟨h0, h1⟩
open Pl in
set_option maxRecDepth 100000 in
set_option maxHeartbeats 4000000 in
theorem valueTexts_walk' (S : Vls) (s t : List UInt8) (at_ : Int) (_hs : s.length ≤ maxLen) (_ht : t.length ≤ maxLen) (_hat : I at_) (w : World) (hG : Gl w) :
    Calls Tryd.prog 6 #[st s, st t, .int .i64 at_] w fun e w' => e = .returned (.bool true) ∧ Below w.heap.size w w' := by
  have HS := Lib.hid S; have HG := Lib.hid hG
  clear S hG
  by_cases h1 : s.length ≤ 1000
  · by_cases h2 : t.length ≤ 1000
    · have Hts := Lib.hid (fun W => (show Calls Tryd.prog 18 #[st s] W (RetV W (.agg #[.bool true, .int .i64 0, .string ⟨s.toArray⟩])) from by
        have h := HS.out.text s W (by omega); rwa [List.take_of_length_le h1] at h))
      have Htt := Lib.hid (fun W => (show Calls Tryd.prog 18 #[st t] W (RetV W (.agg #[.bool true, .int .i64 0, .string ⟨t.toArray⟩])) from by
        have h := HS.out.text t W (by omega); rwa [List.take_of_length_le h2] at h))
      obtain ⟨kk, hkk⟩ : ∃ kk, kk = (min (max at_ 0) (s.length : Int)).toNat := ⟨_, rfl⟩
      have ek : min (max at_ 0) (s.length : Int) = (kk : Int) := by omega
      have hk : kk ≤ s.length := by omega
      have Hn0 := Lib.hid (fun W => HS.out.num 0 W (by unfold I; omega))
      have Hns := Lib.hid (fun W => HS.out.num (s.length : Int) W (by unfold I; omega))
      have Hnt := Lib.hid (fun W => HS.out.num (t.length : Int) W (by unfold I; omega))
      have Hnk := Lib.hid (fun W => HS.out.num (kk : Int) W (by unfold I; omega))
      obtain ⟨A, hA⟩ : ∃ A, A = slc s 0 (kk : Int) := ⟨_, rfl⟩
      obtain ⟨B, hB⟩ : ∃ B, B = slc s (kk : Int) (s.length : Int) := ⟨_, rfl⟩
      obtain ⟨Fd, hFd⟩ : ∃ Fd, Fd = find s t := ⟨_, rfl⟩
      obtain ⟨P, hP⟩ : ∃ P, P = slc s Fd (t.length : Int) := ⟨_, rfl⟩
      obtain ⟨U, hU⟩ : ∃ U, U = turned s 97 := ⟨_, rfl⟩
      obtain ⟨L, hL⟩ : ∃ L, L = turned U 65 := ⟨_, rfl⟩
      have lA : A.length ≤ 1000 := by rw [hA]; exact slc_le _ _ _ h1
      have lB : B.length ≤ 1000 := by rw [hB]; exact slc_le _ _ _ h1
      have lP : P.length ≤ 1000 := by rw [hP]; exact slc_le _ _ _ h1
      have lU : U.length = s.length := by rw [hU]; exact turned_len _ _
      have lL : L.length = s.length := by rw [hL, turned_len]; exact lU
      have hAB : A ++ B = s := by rw [hA, hB]; exact slc_join s kk hk
      have ha := Lib.hid (show doV 11 [⟨true, 0, s⟩, ⟨false, 0, []⟩, ⟨false, (kk : Int), []⟩] = (⟨true, 0, A⟩, 0) by rw [do_11 h1, hA])
      have hb := Lib.hid (show doV 11 [⟨true, 0, s⟩, ⟨false, (kk : Int), []⟩, ⟨false, (s.length : Int), []⟩] = (⟨true, 0, B⟩, 0) by rw [do_11 h1, hB])
      have hj := Lib.hid (show doV 9 [⟨true, 0, A⟩, ⟨true, 0, B⟩] = (⟨true, 0, s⟩, 0) by rw [do_9 lA lB (by rw [hAB]; exact h1), hAB])
      have hf := Lib.hid (show doV 21 [⟨true, 0, s⟩, ⟨true, 0, t⟩] = (⟨false, Fd, []⟩, 0) by rw [do_21 h1 h2, hFd])
      have hp := Lib.hid (show doV 11 [⟨true, 0, s⟩, ⟨false, Fd, []⟩, ⟨false, (t.length : Int), []⟩] = (⟨true, 0, P⟩, 0) by rw [do_11 h1, hP])
      have hu := Lib.hid (show doV 12 [⟨true, 0, s⟩] = (⟨true, 0, U⟩, 0) by rw [(do_turn h1).1, hU])
      have hl := Lib.hid (show doV 13 [⟨true, 0, U⟩] = (⟨true, 0, L⟩, 0) by rw [(do_turn (by omega)).2, hL])
      have hv := Lib.hid (show doV 12 [⟨true, 0, L⟩] = (⟨true, 0, U⟩, 0) by rw [(do_turn (by omega)).1, hL, hU, turned_up])
      have hFI := find_I s t (by omega)
      rw [← hFd] at hFI
      have iF : I Fd := by unfold I; omega
      have hPt : 0 ≤ Fd → P = t := fun h => by rw [hP, hFd]; rw [hFd] at h; exact find_at s t h
      have Hok := Lib.hid (show ∀ v ∈ ([⟨true, 0, s⟩, ⟨true, 0, t⟩, ⟨false, 0, []⟩, ⟨false, (s.length : Int), []⟩, ⟨false, (kk : Int), []⟩, ⟨true, 0, A⟩, ⟨true, 0, B⟩, ⟨false, Fd, []⟩, ⟨false, (t.length : Int), []⟩, ⟨true, 0, P⟩, ⟨true, 0, U⟩, ⟨true, 0, L⟩] : List V), I v.n ∧ v.s.length ≤ 1000000 from fun v hv => by
        simp only [List.mem_cons, List.not_mem_nil, or_false] at hv
        rcases hv with rfl | rfl | rfl | rfl | rfl | rfl | rfl | rfl | rfl | rfl | rfl | rfl
        all_goals first | exact ⟨by unfold I; dsimp only; omega, by dsimp only; omega⟩ | exact ⟨by unfold I; dsimp only; omega, by simp⟩ | exact ⟨iF, by simp⟩ | exact ⟨by unfold I; dsimp only; omega, by simp⟩)
      have d1 : ¬ (1000 : Int) < s.length := by omega
      have d2 : ¬ (1000 : Int) < t.length := by omega
      have BB_w := Lib.hid (Below.refl w.heap.size w)
      clear hA hB hFd hP hU hL lA lB lP lL hAB hFI iF hkk _hs _ht _hat
      go_enter Tryd.func6, Tryd.ntmps6
      go_wp2_with (fail)
      refine (Hts.out _).mono ?_
      rintro e w1 ⟨rfl, bq⟩
      have BB_w1 := Lib.hid (BB_w.out.trans (bq.mono BB_w.out.size))
      clear bq
      go_wp2_with (fail)
      refine (Htt.out _).mono ?_
      rintro e w2 ⟨rfl, bq⟩
      have BB_w2 := Lib.hid (BB_w1.out.trans (bq.mono BB_w1.out.size))
      clear bq
      obtain ⟨w3, hn⟩ : ∃ z, z = w2.alloc (.cells #[.bool true, .int .i64 0, .string ⟨s.toArray⟩] 27) := ⟨_, rfl⟩
      have bn : Below w2.heap.size w2 w3 := by rw [hn]; exact (Below.refl _ _).alloc (Nat.le_refl _) _
      have xn : Bx w3 w2.heap.size (.bool true) (.int .i64 0) (.string ⟨s.toArray⟩) := by rw [hn]; exact Bx.made _ _ _ _ _
      have zn : w3.heap.size = w2.heap.size + 1 := by rw [hn]; simp
      have BB_w3 := Lib.hid (BB_w2.out.trans (bn.mono BB_w2.out.size))
      have Xx_w3 := Lib.hid xn; have W_w3 := Lib.hid hn; have Z_w3 := Lib.hid zn
      clear hn bn xn zn
      obtain ⟨w4, hn⟩ : ∃ z, z = w3.alloc (.cells #[.bool true, .int .i64 0, .string ⟨t.toArray⟩] 27) := ⟨_, rfl⟩
      have bn : Below w3.heap.size w3 w4 := by rw [hn]; exact (Below.refl _ _).alloc (Nat.le_refl _) _
      have xn : Bx w4 w3.heap.size (.bool true) (.int .i64 0) (.string ⟨t.toArray⟩) := by rw [hn]; exact Bx.made _ _ _ _ _
      have zn : w4.heap.size = w3.heap.size + 1 := by rw [hn]; simp
      have BB_w4 := Lib.hid (BB_w3.out.trans (bn.mono BB_w3.out.size))
      rw [Z_w3.out] at xn
      have Xy_w4 := Lib.hid xn; have W_w4 := Lib.hid hn; have Z_w4 := Lib.hid zn
      have Xx_w4 := Lib.hid (Xx_w3.out.below bn Xx_w3.out.lt)
      clear hn bn xn zn
      obtain ⟨cx0, cx1, cx2, -, -, -, -⟩ := Xx_w4.out
      obtain ⟨cy0, cy1, cy2, -, -, -, -⟩ := Xy_w4.out
      go_wp2_with (first | rw [← W_w3.out, ← W_w4.out, Z_w3.out] | rw [← W_w3.out, ← W_w4.out])
      refine (Hn0.out _).mono ?_
      rintro e w5 ⟨rfl, bq⟩
      have BB_w5 := Lib.hid (BB_w4.out.trans (bq.mono BB_w4.out.size))
      have Xx_w5 := Lib.hid (Xx_w4.out.below bq Xx_w4.out.lt)
      have Xy_w5 := Lib.hid (Xy_w4.out.below bq Xy_w4.out.lt)
      clear cx0 cx1 cx2 cy0 cy1 cy2
      obtain ⟨cx0, cx1, cx2, -, -, -, -⟩ := Xx_w5.out
      obtain ⟨cy0, cy1, cy2, -, -, -, -⟩ := Xy_w5.out
      clear bq
      go_wp2_with (fail)
      refine (Hns.out _).mono ?_
      rintro e w6 ⟨rfl, bq⟩
      have BB_w6 := Lib.hid (BB_w5.out.trans (bq.mono BB_w5.out.size))
      have Xx_w6 := Lib.hid (Xx_w5.out.below bq Xx_w5.out.lt)
      have Xy_w6 := Lib.hid (Xy_w5.out.below bq Xy_w5.out.lt)
      clear cx0 cx1 cx2 cy0 cy1 cy2
      obtain ⟨cx0, cx1, cx2, -, -, -, -⟩ := Xx_w6.out
      obtain ⟨cy0, cy1, cy2, -, -, -, -⟩ := Xy_w6.out
      clear bq
      obtain ⟨w7, hn⟩ : ∃ z, z = w6.alloc (.cells #[.bool false, .int .i64 0, .string ⟨#[]⟩] 27) := ⟨_, rfl⟩
      have bn : Below w6.heap.size w6 w7 := by rw [hn]; exact (Below.refl _ _).alloc (Nat.le_refl _) _
      have xn : Bx w7 w6.heap.size (.bool false) (.int .i64 0) (.string ⟨#[]⟩) := by rw [hn]; exact Bx.made _ _ _ _ _
      have zn : w7.heap.size = w6.heap.size + 1 := by rw [hn]; simp
      have BB_w7 := Lib.hid (BB_w6.out.trans (bn.mono BB_w6.out.size))
      have Xz_w7 := Lib.hid xn; have W_w7 := Lib.hid hn; have Z_w7 := Lib.hid zn
      have Xx_w7 := Lib.hid (Xx_w6.out.below bn Xx_w6.out.lt)
      have Xy_w7 := Lib.hid (Xy_w6.out.below bn Xy_w6.out.lt)
      clear hn bn xn zn
      obtain ⟨w8, hn⟩ : ∃ z, z = w7.alloc (.cells #[.bool false, .int .i64 (s.length : Int), .string ⟨#[]⟩] 27) := ⟨_, rfl⟩
      have bn : Below w7.heap.size w7 w8 := by rw [hn]; exact (Below.refl _ _).alloc (Nat.le_refl _) _
      have xn : Bx w8 w7.heap.size (.bool false) (.int .i64 (s.length : Int)) (.string ⟨#[]⟩) := by rw [hn]; exact Bx.made _ _ _ _ _
      have zn : w8.heap.size = w7.heap.size + 1 := by rw [hn]; simp
      have BB_w8 := Lib.hid (BB_w7.out.trans (bn.mono BB_w7.out.size))
      rw [Z_w7.out] at xn
      have Xo_w8 := Lib.hid xn; have W_w8 := Lib.hid hn; have Z_w8 := Lib.hid zn
      have Xx_w8 := Lib.hid (Xx_w7.out.below bn Xx_w7.out.lt)
      have Xy_w8 := Lib.hid (Xy_w7.out.below bn Xy_w7.out.lt)
      have Xz_w8 := Lib.hid (Xz_w7.out.below bn Xz_w7.out.lt)
      clear hn bn xn zn
      clear cx0 cx1 cx2 cy0 cy1 cy2
      obtain ⟨cx0, cx1, cx2, -, -, -, -⟩ := Xx_w8.out
      obtain ⟨cy0, cy1, cy2, -, -, -, -⟩ := Xy_w8.out
      obtain ⟨cz0, cz1, cz2, -, -, -, -⟩ := Xz_w8.out
      obtain ⟨co0, co1, co2, -, -, -, -⟩ := Xo_w8.out
      go_wp2_with (first | rw [← W_w7.out, ← W_w8.out, Z_w7.out] | rw [← W_w7.out, ← W_w8.out])
      refine (Hnk.out _).mono ?_
      rintro e w9 ⟨rfl, bq⟩
      have BB_w9 := Lib.hid (BB_w8.out.trans (bq.mono BB_w8.out.size))
      have Xx_w9 := Lib.hid (Xx_w8.out.below bq Xx_w8.out.lt)
      have Xy_w9 := Lib.hid (Xy_w8.out.below bq Xy_w8.out.lt)
      have Xz_w9 := Lib.hid (Xz_w8.out.below bq Xz_w8.out.lt)
      have Xo_w9 := Lib.hid (Xo_w8.out.below bq Xo_w8.out.lt)
      clear cx0 cx1 cx2 cy0 cy1 cy2 cz0 cz1 cz2 co0 co1 co2
      obtain ⟨cx0, cx1, cx2, -, -, -, -⟩ := Xx_w9.out
      obtain ⟨cy0, cy1, cy2, -, -, -, -⟩ := Xy_w9.out
      obtain ⟨cz0, cz1, cz2, -, -, -, -⟩ := Xz_w9.out
      obtain ⟨co0, co1, co2, -, -, -, -⟩ := Xo_w9.out
      clear bq
      obtain ⟨w10, hn⟩ : ∃ z, z = w9.alloc (.cells #[.bool false, .int .i64 (kk : Int), .string ⟨#[]⟩] 27) := ⟨_, rfl⟩
      have bn : Below w9.heap.size w9 w10 := by rw [hn]; exact (Below.refl _ _).alloc (Nat.le_refl _) _
      have xn : Bx w10 w9.heap.size (.bool false) (.int .i64 (kk : Int)) (.string ⟨#[]⟩) := by rw [hn]; exact Bx.made _ _ _ _ _
      have zn : w10.heap.size = w9.heap.size + 1 := by rw [hn]; simp
      have BB_w10 := Lib.hid (BB_w9.out.trans (bn.mono BB_w9.out.size))
      have Xk_w10 := Lib.hid xn; have W_w10 := Lib.hid hn; have Z_w10 := Lib.hid zn
      have Xx_w10 := Lib.hid (Xx_w9.out.below bn Xx_w9.out.lt)
      have Xy_w10 := Lib.hid (Xy_w9.out.below bn Xy_w9.out.lt)
      have Xz_w10 := Lib.hid (Xz_w9.out.below bn Xz_w9.out.lt)
      have Xo_w10 := Lib.hid (Xo_w9.out.below bn Xo_w9.out.lt)
      clear hn bn xn zn
      clear cx0 cx1 cx2 cy0 cy1 cy2 cz0 cz1 cz2 co0 co1 co2
      obtain ⟨cx0, cx1, cx2, -, -, -, -⟩ := Xx_w10.out
      obtain ⟨cy0, cy1, cy2, -, -, -, -⟩ := Xy_w10.out
      obtain ⟨cz0, cz1, cz2, -, -, -, -⟩ := Xz_w10.out
      obtain ⟨co0, co1, co2, -, -, -, -⟩ := Xo_w10.out
      obtain ⟨ck0, ck1, ck2, -, -, -, -⟩ := Xk_w10.out
      obtain ⟨w11, hr⟩ : ∃ r, r = w10.alloc (.cells #[.bool true, .int .i64 0, .string ⟨s.toArray⟩, .bool false, .int .i64 0, .string ⟨#[]⟩, .bool false, .int .i64 (kk : Int), .string ⟨#[]⟩] 27) := ⟨_, rfl⟩
      have hc := do_lit HS.out 11 [⟨true, 0, s⟩, ⟨false, 0, []⟩, ⟨false, (kk : Int), []⟩] _ #[.bool true, .int .i64 0, .string ⟨s.toArray⟩, .bool false, .int .i64 0, .string ⟨#[]⟩, .bool false, .int .i64 (kk : Int), .string ⟨#[]⟩] rfl 3 rfl (by omega) (by unfold I; omega) (fun v hv => (Hok.out v) (by simp at hv ⊢; rcases hv with rfl | rfl | rfl <;> simp)) _ _ _ _ ha.out w10 w11 (HG.out.below' BB_w10.out) hr
      have Wr := Lib.hid hr; have Hc := Lib.hid hc
      clear hr hc
      go_wp2_with (first | rw [← Wr.out] | (rw [← W_w10.out]))
      refine Hc.out.mono ?_
      rintro e w12 ⟨rfl, bq⟩
      have BB_w12 := Lib.hid (BB_w10.out.trans (bq.mono BB_w10.out.size))
      have Xx_w12 := Lib.hid (Xx_w10.out.below bq Xx_w10.out.lt)
      have Xy_w12 := Lib.hid (Xy_w10.out.below bq Xy_w10.out.lt)
      have Xz_w12 := Lib.hid (Xz_w10.out.below bq Xz_w10.out.lt)
      have Xo_w12 := Lib.hid (Xo_w10.out.below bq Xo_w10.out.lt)
      have Xk_w12 := Lib.hid (Xk_w10.out.below bq Xk_w10.out.lt)
      clear cx0 cx1 cx2 cy0 cy1 cy2 cz0 cz1 cz2 co0 co1 co2 ck0 ck1 ck2
      obtain ⟨cx0, cx1, cx2, -, -, -, -⟩ := Xx_w12.out
      obtain ⟨cy0, cy1, cy2, -, -, -, -⟩ := Xy_w12.out
      obtain ⟨cz0, cz1, cz2, -, -, -, -⟩ := Xz_w12.out
      obtain ⟨co0, co1, co2, -, -, -, -⟩ := Xo_w12.out
      obtain ⟨ck0, ck1, ck2, -, -, -, -⟩ := Xk_w12.out
      clear bq Wr Hc
      obtain ⟨w13, hn⟩ : ∃ z, z = w12.alloc (.cells #[.bool true, .int .i64 0, .string ⟨A.toArray⟩] 27) := ⟨_, rfl⟩
      have bn : Below w12.heap.size w12 w13 := by rw [hn]; exact (Below.refl _ _).alloc (Nat.le_refl _) _
      have xn : Bx w13 w12.heap.size (.bool true) (.int .i64 0) (.string ⟨A.toArray⟩) := by rw [hn]; exact Bx.made _ _ _ _ _
      have zn : w13.heap.size = w12.heap.size + 1 := by rw [hn]; simp
      have BB_w13 := Lib.hid (BB_w12.out.trans (bn.mono BB_w12.out.size))
      have Xa_w13 := Lib.hid xn; have W_w13 := Lib.hid hn; have Z_w13 := Lib.hid zn
      have Xx_w13 := Lib.hid (Xx_w12.out.below bn Xx_w12.out.lt)
      have Xy_w13 := Lib.hid (Xy_w12.out.below bn Xy_w12.out.lt)
      have Xz_w13 := Lib.hid (Xz_w12.out.below bn Xz_w12.out.lt)
      have Xo_w13 := Lib.hid (Xo_w12.out.below bn Xo_w12.out.lt)
      have Xk_w13 := Lib.hid (Xk_w12.out.below bn Xk_w12.out.lt)
      clear hn bn xn zn
      clear cx0 cx1 cx2 cy0 cy1 cy2 cz0 cz1 cz2 co0 co1 co2 ck0 ck1 ck2
      obtain ⟨cx0, cx1, cx2, -, -, -, -⟩ := Xx_w13.out
      obtain ⟨cy0, cy1, cy2, -, -, -, -⟩ := Xy_w13.out
      obtain ⟨cz0, cz1, cz2, -, -, -, -⟩ := Xz_w13.out
      obtain ⟨co0, co1, co2, -, -, -, -⟩ := Xo_w13.out
      obtain ⟨ck0, ck1, ck2, -, -, -, -⟩ := Xk_w13.out
      obtain ⟨ca0, ca1, ca2, -, -, -, -⟩ := Xa_w13.out
      obtain ⟨w14, hr⟩ : ∃ r, r = w13.alloc (.cells #[.bool true, .int .i64 0, .string ⟨s.toArray⟩, .bool false, .int .i64 (kk : Int), .string ⟨#[]⟩, .bool false, .int .i64 (s.length : Int), .string ⟨#[]⟩] 27) := ⟨_, rfl⟩
      have hc := do_lit HS.out 11 [⟨true, 0, s⟩, ⟨false, (kk : Int), []⟩, ⟨false, (s.length : Int), []⟩] _ #[.bool true, .int .i64 0, .string ⟨s.toArray⟩, .bool false, .int .i64 (kk : Int), .string ⟨#[]⟩, .bool false, .int .i64 (s.length : Int), .string ⟨#[]⟩] rfl 3 rfl (by omega) (by unfold I; omega) (fun v hv => (Hok.out v) (by simp at hv ⊢; rcases hv with rfl | rfl | rfl <;> simp)) _ _ _ _ hb.out w13 w14 (HG.out.below' BB_w13.out) hr
      have Wr := Lib.hid hr; have Hc := Lib.hid hc
      clear hr hc
      go_wp2_with (first | rw [← Wr.out] | (rw [← W_w13.out]))
      refine Hc.out.mono ?_
      rintro e w15 ⟨rfl, bq⟩
      have BB_w15 := Lib.hid (BB_w13.out.trans (bq.mono BB_w13.out.size))
      have Xx_w15 := Lib.hid (Xx_w13.out.below bq Xx_w13.out.lt)
      have Xy_w15 := Lib.hid (Xy_w13.out.below bq Xy_w13.out.lt)
      have Xz_w15 := Lib.hid (Xz_w13.out.below bq Xz_w13.out.lt)
      have Xo_w15 := Lib.hid (Xo_w13.out.below bq Xo_w13.out.lt)
      have Xk_w15 := Lib.hid (Xk_w13.out.below bq Xk_w13.out.lt)
      have Xa_w15 := Lib.hid (Xa_w13.out.below bq Xa_w13.out.lt)
      clear cx0 cx1 cx2 cy0 cy1 cy2 cz0 cz1 cz2 co0 co1 co2 ck0 ck1 ck2 ca0 ca1 ca2
      obtain ⟨cx0, cx1, cx2, -, -, -, -⟩ := Xx_w15.out
      obtain ⟨cy0, cy1, cy2, -, -, -, -⟩ := Xy_w15.out
      obtain ⟨cz0, cz1, cz2, -, -, -, -⟩ := Xz_w15.out
      obtain ⟨co0, co1, co2, -, -, -, -⟩ := Xo_w15.out
      obtain ⟨ck0, ck1, ck2, -, -, -, -⟩ := Xk_w15.out
      obtain ⟨ca0, ca1, ca2, -, -, -, -⟩ := Xa_w15.out
      clear bq Wr Hc
      obtain ⟨w16, hn⟩ : ∃ z, z = w15.alloc (.cells #[.bool true, .int .i64 0, .string ⟨B.toArray⟩] 27) := ⟨_, rfl⟩
      have bn : Below w15.heap.size w15 w16 := by rw [hn]; exact (Below.refl _ _).alloc (Nat.le_refl _) _
      have xn : Bx w16 w15.heap.size (.bool true) (.int .i64 0) (.string ⟨B.toArray⟩) := by rw [hn]; exact Bx.made _ _ _ _ _
      have zn : w16.heap.size = w15.heap.size + 1 := by rw [hn]; simp
      have BB_w16 := Lib.hid (BB_w15.out.trans (bn.mono BB_w15.out.size))
      have Xb_w16 := Lib.hid xn; have W_w16 := Lib.hid hn; have Z_w16 := Lib.hid zn
      have Xx_w16 := Lib.hid (Xx_w15.out.below bn Xx_w15.out.lt)
      have Xy_w16 := Lib.hid (Xy_w15.out.below bn Xy_w15.out.lt)
      have Xz_w16 := Lib.hid (Xz_w15.out.below bn Xz_w15.out.lt)
      have Xo_w16 := Lib.hid (Xo_w15.out.below bn Xo_w15.out.lt)
      have Xk_w16 := Lib.hid (Xk_w15.out.below bn Xk_w15.out.lt)
      have Xa_w16 := Lib.hid (Xa_w15.out.below bn Xa_w15.out.lt)
      clear hn bn xn zn
      clear cx0 cx1 cx2 cy0 cy1 cy2 cz0 cz1 cz2 co0 co1 co2 ck0 ck1 ck2 ca0 ca1 ca2
      obtain ⟨cx0, cx1, cx2, -, -, -, -⟩ := Xx_w16.out
      obtain ⟨cy0, cy1, cy2, -, -, -, -⟩ := Xy_w16.out
      obtain ⟨cz0, cz1, cz2, -, -, -, -⟩ := Xz_w16.out
      obtain ⟨co0, co1, co2, -, -, -, -⟩ := Xo_w16.out
      obtain ⟨ck0, ck1, ck2, -, -, -, -⟩ := Xk_w16.out
      obtain ⟨ca0, ca1, ca2, -, -, -, -⟩ := Xa_w16.out
      obtain ⟨cb0, cb1, cb2, -, -, -, -⟩ := Xb_w16.out
      obtain ⟨w17, hr⟩ : ∃ r, r = w16.alloc (.cells #[.bool true, .int .i64 0, .string ⟨A.toArray⟩, .bool true, .int .i64 0, .string ⟨B.toArray⟩] 27) := ⟨_, rfl⟩
      have hc := do_lit HS.out 9 [⟨true, 0, A⟩, ⟨true, 0, B⟩] _ #[.bool true, .int .i64 0, .string ⟨A.toArray⟩, .bool true, .int .i64 0, .string ⟨B.toArray⟩] rfl 2 rfl (by omega) (by unfold I; omega) (fun v hv => (Hok.out v) (by simp at hv ⊢; rcases hv with rfl | rfl <;> simp)) _ _ _ _ hj.out w16 w17 (HG.out.below' BB_w16.out) hr
      have Wr := Lib.hid hr; have Hc := Lib.hid hc
      clear hr hc
      go_wp2_with (first | rw [← Wr.out] | (rw [← W_w16.out]))
      refine Hc.out.mono ?_
      rintro e w18 ⟨rfl, bq⟩
      have BB_w18 := Lib.hid (BB_w16.out.trans (bq.mono BB_w16.out.size))
      have Xx_w18 := Lib.hid (Xx_w16.out.below bq Xx_w16.out.lt)
      have Xy_w18 := Lib.hid (Xy_w16.out.below bq Xy_w16.out.lt)
      have Xz_w18 := Lib.hid (Xz_w16.out.below bq Xz_w16.out.lt)
      have Xo_w18 := Lib.hid (Xo_w16.out.below bq Xo_w16.out.lt)
      have Xk_w18 := Lib.hid (Xk_w16.out.below bq Xk_w16.out.lt)
      have Xa_w18 := Lib.hid (Xa_w16.out.below bq Xa_w16.out.lt)
      have Xb_w18 := Lib.hid (Xb_w16.out.below bq Xb_w16.out.lt)
      clear cx0 cx1 cx2 cy0 cy1 cy2 cz0 cz1 cz2 co0 co1 co2 ck0 ck1 ck2 ca0 ca1 ca2 cb0 cb1 cb2
      obtain ⟨cx0, cx1, cx2, -, -, -, -⟩ := Xx_w18.out
      obtain ⟨cy0, cy1, cy2, -, -, -, -⟩ := Xy_w18.out
      obtain ⟨cz0, cz1, cz2, -, -, -, -⟩ := Xz_w18.out
      obtain ⟨co0, co1, co2, -, -, -, -⟩ := Xo_w18.out
      obtain ⟨ck0, ck1, ck2, -, -, -, -⟩ := Xk_w18.out
      obtain ⟨ca0, ca1, ca2, -, -, -, -⟩ := Xa_w18.out
      obtain ⟨cb0, cb1, cb2, -, -, -, -⟩ := Xb_w18.out
      clear bq Wr Hc
      obtain ⟨w19, hn⟩ : ∃ z, z = w18.alloc (.cells #[.bool true, .int .i64 0, .string ⟨s.toArray⟩] 27) := ⟨_, rfl⟩
      have bn : Below w18.heap.size w18 w19 := by rw [hn]; exact (Below.refl _ _).alloc (Nat.le_refl _) _
      have xn : Bx w19 w18.heap.size (.bool true) (.int .i64 0) (.string ⟨s.toArray⟩) := by rw [hn]; exact Bx.made _ _ _ _ _
      have zn : w19.heap.size = w18.heap.size + 1 := by rw [hn]; simp
      have BB_w19 := Lib.hid (BB_w18.out.trans (bn.mono BB_w18.out.size))
      have Xj_w19 := Lib.hid xn; have W_w19 := Lib.hid hn; have Z_w19 := Lib.hid zn
      have Xx_w19 := Lib.hid (Xx_w18.out.below bn Xx_w18.out.lt)
      have Xy_w19 := Lib.hid (Xy_w18.out.below bn Xy_w18.out.lt)
      have Xz_w19 := Lib.hid (Xz_w18.out.below bn Xz_w18.out.lt)
      have Xo_w19 := Lib.hid (Xo_w18.out.below bn Xo_w18.out.lt)
      have Xk_w19 := Lib.hid (Xk_w18.out.below bn Xk_w18.out.lt)
      have Xa_w19 := Lib.hid (Xa_w18.out.below bn Xa_w18.out.lt)
      have Xb_w19 := Lib.hid (Xb_w18.out.below bn Xb_w18.out.lt)
      clear hn bn xn zn
      clear cx0 cx1 cx2 cy0 cy1 cy2 cz0 cz1 cz2 co0 co1 co2 ck0 ck1 ck2 ca0 ca1 ca2 cb0 cb1 cb2
      obtain ⟨cx0, cx1, cx2, -, -, -, -⟩ := Xx_w19.out
      obtain ⟨cy0, cy1, cy2, -, -, -, -⟩ := Xy_w19.out
      obtain ⟨cz0, cz1, cz2, -, -, -, -⟩ := Xz_w19.out
      obtain ⟨co0, co1, co2, -, -, -, -⟩ := Xo_w19.out
      obtain ⟨ck0, ck1, ck2, -, -, -, -⟩ := Xk_w19.out
      obtain ⟨ca0, ca1, ca2, -, -, -, -⟩ := Xa_w19.out
      obtain ⟨cb0, cb1, cb2, -, -, -, -⟩ := Xb_w19.out
      obtain ⟨cj0, cj1, cj2, -, -, -, -⟩ := Xj_w19.out
      obtain ⟨w20, hr⟩ : ∃ r, r = w19.alloc (.cells #[.bool true, .int .i64 0, .string ⟨s.toArray⟩, .bool true, .int .i64 0, .string ⟨t.toArray⟩] 27) := ⟨_, rfl⟩
      have hc := do_lit HS.out 21 [⟨true, 0, s⟩, ⟨true, 0, t⟩] _ #[.bool true, .int .i64 0, .string ⟨s.toArray⟩, .bool true, .int .i64 0, .string ⟨t.toArray⟩] rfl 2 rfl (by omega) (by unfold I; omega) (fun v hv => (Hok.out v) (by simp at hv ⊢; rcases hv with rfl | rfl <;> simp)) _ _ _ _ hf.out w19 w20 (HG.out.below' BB_w19.out) hr
      have Wr := Lib.hid hr; have Hc := Lib.hid hc
      clear hr hc
      go_wp2_with (first | rw [← Wr.out] | (rw [← W_w19.out]))
      refine Hc.out.mono ?_
      rintro e w21 ⟨rfl, bq⟩
      have BB_w21 := Lib.hid (BB_w19.out.trans (bq.mono BB_w19.out.size))
      have Xx_w21 := Lib.hid (Xx_w19.out.below bq Xx_w19.out.lt)
      have Xy_w21 := Lib.hid (Xy_w19.out.below bq Xy_w19.out.lt)
      have Xz_w21 := Lib.hid (Xz_w19.out.below bq Xz_w19.out.lt)
      have Xo_w21 := Lib.hid (Xo_w19.out.below bq Xo_w19.out.lt)
      have Xk_w21 := Lib.hid (Xk_w19.out.below bq Xk_w19.out.lt)
      have Xa_w21 := Lib.hid (Xa_w19.out.below bq Xa_w19.out.lt)
      have Xb_w21 := Lib.hid (Xb_w19.out.below bq Xb_w19.out.lt)
      have Xj_w21 := Lib.hid (Xj_w19.out.below bq Xj_w19.out.lt)
      clear cx0 cx1 cx2 cy0 cy1 cy2 cz0 cz1 cz2 co0 co1 co2 ck0 ck1 ck2 ca0 ca1 ca2 cb0 cb1 cb2 cj0 cj1 cj2
      obtain ⟨cx0, cx1, cx2, -, -, -, -⟩ := Xx_w21.out
      obtain ⟨cy0, cy1, cy2, -, -, -, -⟩ := Xy_w21.out
      obtain ⟨cz0, cz1, cz2, -, -, -, -⟩ := Xz_w21.out
      obtain ⟨co0, co1, co2, -, -, -, -⟩ := Xo_w21.out
      obtain ⟨ck0, ck1, ck2, -, -, -, -⟩ := Xk_w21.out
      obtain ⟨ca0, ca1, ca2, -, -, -, -⟩ := Xa_w21.out
      obtain ⟨cb0, cb1, cb2, -, -, -, -⟩ := Xb_w21.out
      obtain ⟨cj0, cj1, cj2, -, -, -, -⟩ := Xj_w21.out
      clear bq Wr Hc
      obtain ⟨w22, hn⟩ : ∃ z, z = w21.alloc (.cells #[.bool false, .int .i64 Fd, .string ⟨#[]⟩] 27) := ⟨_, rfl⟩
      have bn : Below w21.heap.size w21 w22 := by rw [hn]; exact (Below.refl _ _).alloc (Nat.le_refl _) _
      have xn : Bx w22 w21.heap.size (.bool false) (.int .i64 Fd) (.string ⟨#[]⟩) := by rw [hn]; exact Bx.made _ _ _ _ _
      have zn : w22.heap.size = w21.heap.size + 1 := by rw [hn]; simp
      have BB_w22 := Lib.hid (BB_w21.out.trans (bn.mono BB_w21.out.size))
      have Xf_w22 := Lib.hid xn; have W_w22 := Lib.hid hn; have Z_w22 := Lib.hid zn
      have Xx_w22 := Lib.hid (Xx_w21.out.below bn Xx_w21.out.lt)
      have Xy_w22 := Lib.hid (Xy_w21.out.below bn Xy_w21.out.lt)
      have Xz_w22 := Lib.hid (Xz_w21.out.below bn Xz_w21.out.lt)
      have Xo_w22 := Lib.hid (Xo_w21.out.below bn Xo_w21.out.lt)
      have Xk_w22 := Lib.hid (Xk_w21.out.below bn Xk_w21.out.lt)
      have Xa_w22 := Lib.hid (Xa_w21.out.below bn Xa_w21.out.lt)
      have Xb_w22 := Lib.hid (Xb_w21.out.below bn Xb_w21.out.lt)
      have Xj_w22 := Lib.hid (Xj_w21.out.below bn Xj_w21.out.lt)
      clear hn bn xn zn
      clear cx0 cx1 cx2 cy0 cy1 cy2 cz0 cz1 cz2 co0 co1 co2 ck0 ck1 ck2 ca0 ca1 ca2 cb0 cb1 cb2 cj0 cj1 cj2
      obtain ⟨cx0, cx1, cx2, -, -, -, -⟩ := Xx_w22.out
      obtain ⟨cy0, cy1, cy2, -, -, -, -⟩ := Xy_w22.out
      obtain ⟨cz0, cz1, cz2, -, -, -, -⟩ := Xz_w22.out
      obtain ⟨co0, co1, co2, -, -, -, -⟩ := Xo_w22.out
      obtain ⟨ck0, ck1, ck2, -, -, -, -⟩ := Xk_w22.out
      obtain ⟨ca0, ca1, ca2, -, -, -, -⟩ := Xa_w22.out
      obtain ⟨cb0, cb1, cb2, -, -, -, -⟩ := Xb_w22.out
      obtain ⟨cj0, cj1, cj2, -, -, -, -⟩ := Xj_w22.out
      obtain ⟨cf0, cf1, cf2, -, -, -, -⟩ := Xf_w22.out
      go_upto_region 10 with (rw [← W_w22.out])
      refine region_via (α := Nat × Nat) (fun x a => Act.put (Act.put (Act.put (Act.put (Act.put (Act.put (Act.put (Act.put (Act.put (Act.put (Act.put (Act.put (a) (some 82) (.agg #[.bool true, .int .i64 0, .string ⟨s.toArray⟩])) (some 83) (.agg #[.bool false, .int .i64 Fd, .string ⟨#[]⟩])) (some 84) (.string ⟨t.toArray⟩)) (some 85) (.int .i64 (t.length : Int))) (some 86) (.agg #[.bool false, .int .i64 (t.length : Int), .string ⟨#[]⟩])) (some 87) (.slice (some ⟨x.2, 0, none⟩) 3 3)) (some 88) (.tuple #[.agg #[.bool true, .int .i64 0, .string ⟨P.toArray⟩], .int .i64 0])) (some 81) (.tuple #[.agg #[.bool true, .int .i64 0, .string ⟨P.toArray⟩], .int .i64 0])) (some 89) (.agg #[.bool true, .int .i64 0, .string ⟨P.toArray⟩])) (some 90) (.int .i64 0)) (some 20) (.pointer (some ⟨x.1, 0, none⟩))) (some 21) (.int .i64 0)) (fun x w' => Bx w' x.1 (.bool true) (.int .i64 0) (.string ⟨P.toArray⟩) ∧ Below w22.heap.size w22.drew w') ?_ ?_
      · refine wp_region_tree (Below w22.heap.size) (Below.refl _) (fun _ _ _ => Below.trans) (.read 0 (.read 1 (.read 2 (.read 3 (.two 4 10 (.two 5 10 (.two 6 10 (.read 7 (.read 8 (.read 9 (.alone 10 (.alone 11 (.read 12 (.done))))))) (.alone 6 (.read 7 (.read 8 (.read 9 (.alone 11 (.read 12 (.done)))))))) (.alone 5 (.alone 6 (.read 7 (.read 8 (.read 9 (.alone 11 (.read 12 (.done))))))))) (.alone 4 (.alone 5 (.alone 6 (.read 7 (.read 8 (.read 9 (.alone 11 (.read 12 (.done)))))))))))))) (by kernel_rfl) (by kernel_rfl) (by kernel_rfl) (by kernel_rfl) (fun _ _ _ _ _ h => nomatch h.1) ?_
        obtain ⟨s0, hs0⟩ : ∃ s, s = w22.drew := ⟨_, rfl⟩
        have Cs := Lib.hid (show Below w22.heap.size w22.drew s0 by rw [hs0]; exact Below.refl _ _)
        rw [← hs0]
        have Hs0 := Lib.hid hs0
        clear hs0 cx0 cx1 cx2 cy0 cy1 cy2 cz0 cz1 cz2 co0 co1 co2 ck0 ck1 ck2 ca0 ca1 ca2 cb0 cb1 cb2 cj0 cj1 cj2 cf0 cf1 cf2
        refine wpS_read (o := { dst := some 82, op := Go.Op.load 27 (Go.Operand.tmp 7), type := 27, pos := "law.go:104", after := #[], guard := none }) (v := .agg #[.bool true, .int .i64 0, .string ⟨s.toArray⟩]) rfl (by rfl) ?_ ?_
        · intro w' hw'; have hb := (show Below w22.heap.size w22 w' from (below_drewN (Below.refl _ _) 1).trans (Cs.out.trans hw')); obtain ⟨q0, q1, q2, -, -, -, -⟩ := Xx_w22.out.below hb Xx_w22.out.lt; go_simp
        try simp only [Act.put, List.setIfInBounds_toArray, List.set_cons_zero, List.set_cons_succ]
        refine wpS_read (o := { dst := some 83, op := Go.Op.load 27 (Go.Operand.tmp 18), type := 27, pos := "law.go:104", after := #[], guard := none }) (v := .agg #[.bool false, .int .i64 Fd, .string ⟨#[]⟩]) rfl (by rfl) ?_ ?_
        · intro w' hw'; have hb := (show Below w22.heap.size w22 w' from (below_drewN (Below.refl _ _) 1).trans (Cs.out.trans hw')); obtain ⟨q0, q1, q2, -, -, -, -⟩ := Xf_w22.out.below hb Xf_w22.out.lt; go_simp
        try simp only [Act.put, List.setIfInBounds_toArray, List.set_cons_zero, List.set_cons_succ]
        refine wpS_read (o := { dst := some 84, op := Go.Op.move (Go.Operand.tmp 1), type := 9, pos := "law.go:104", after := #[], guard := none }) (v := .string ⟨t.toArray⟩) rfl (by rfl) ?_ ?_
        · intro w' _; go_simp
        try simp only [Act.put, List.setIfInBounds_toArray, List.set_cons_zero, List.set_cons_succ]
        refine wpS_read (o := { dst := some 85, op := Go.Op.call { callee := Go.Callee.builtin Go.Builtin.len, args := #[Go.Operand.tmp 84], argTypes := #[9] }, type := 3, pos := "law.go:104", after := #[{ on := 2, ground := Go.Ground.data }], guard := none }) (v := .int .i64 (t.length : Int)) rfl (by rfl) ?_ ?_
        · intro w' _; go_simp; try rfl
        try simp only [Act.put, List.setIfInBounds_toArray, List.set_cons_zero, List.set_cons_succ]
        refine wpS_two ?_ ?_
        · refine stS_call (o := { dst := some 86, op := Go.Op.call { callee := Go.Callee.value (Go.Operand.func 17), args := #[Go.Operand.tmp 85], argTypes := #[3] }, type := 27, pos := "law.go:104", after := #[{ on := 3, ground := Go.Ground.data }], guard := none }) rfl (by rfl) (fun K hK => ?_)
          go_simp
          go_at_call 17
          with_reducible refine (Hnt.out s0).mono ?_
          rintro e s1 ⟨rfl, yy⟩
          have Cx := Cs
          have Cs := Lib.hid (Cs.out.trans (yy.mono Cs.out.size))
          refine hK _ _ (yy.mono Cx.out.size) ?_
          clear hK K yy Cx
          try simp only [Act.put, List.setIfInBounds_toArray, List.set_cons_zero, List.set_cons_succ]
          refine wpS_two ?_ ?_
          · obtain ⟨gr, hgr⟩ : ∃ g, g = (World.heap s1).size := ⟨_, rfl⟩
            obtain ⟨s2, hnx⟩ : ∃ u, u = World.alloc s1 (.cells #[.bool true, .int .i64 0, .string ⟨s.toArray⟩, .bool false, .int .i64 Fd, .string ⟨#[]⟩, .bool false, .int .i64 (t.length : Int), .string ⟨#[]⟩] 27) := ⟨_, rfl⟩
            have yy : Below (World.heap s1).size s1 s2 := by rw [hnx]; exact (Below.refl _ _).alloc (Nat.le_refl _) _
            have KR := Lib.hid (show Rc 3 s2 s2.heap.size (some ⟨gr, 0, none⟩) 3 3 (vvs [⟨true, 0, s⟩, ⟨false, Fd, []⟩, ⟨false, (t.length : Int), []⟩]) by rw [hnx, hgr]; exact (Rc.lit (z := 3) _ _ #[.bool true, .int .i64 0, .string ⟨s.toArray⟩, .bool false, .int .i64 Fd, .string ⟨#[]⟩, .bool false, .int .i64 (t.length : Int), .string ⟨#[]⟩] 3 rfl (by simp [maxLen])).more (by simp))
            have Cx := Cs
            have Cs := Lib.hid (Cs.out.trans (yy.mono Cs.out.size))
            have W_ := Lib.hid hnx; have G_ := Lib.hid hgr
            refine stS_value (o := { dst := some 87, op := Go.Op.buildSlice 22 3 #[(0, Go.Operand.tmp 82), (1, Go.Operand.tmp 83), (2, Go.Operand.tmp 86)], type := 22, pos := "law.go:104", after := #[{ on := 0, ground := Go.Ground.data }, { on := 1, ground := Go.Ground.data }, { on := 4, ground := Go.Ground.data }], guard := none }) (v := .slice (some ⟨gr, 0, none⟩) 3 3) (w1 := s2) rfl (by rfl) ?_ ?_ ?_
            · rw [W_.out, G_.out]; go_simp
            · exact yy.mono Cx.out.size
            clear yy hnx hgr Cx
            try simp only [Act.put, List.setIfInBounds_toArray, List.set_cons_zero, List.set_cons_succ]
            refine wpS_two ?_ ?_
            · refine stS_call (o := { dst := some 88, op := Go.Op.call { callee := Go.Callee.value (Go.Operand.func 10), args := #[Go.Operand.const (Go.Value.int Go.IntKind.i64 11), Go.Operand.tmp 87], argTypes := #[3, 22] }, type := 29, pos := "law.go:104", after := #[{ on := 5, ground := Go.Ground.data }, { on := 4, ground := Go.Ground.chain }], guard := none }) rfl (by rfl) (fun K hK => ?_)
              go_simp
              go_at_call 10
              with_reducible refine (do_row HS.out 11 [⟨true, 0, s⟩, ⟨false, Fd, []⟩, ⟨false, (t.length : Int), []⟩] 3 rfl (by omega) (by unfold I; omega) (fun v hv => (Hok.out v) (by simp at hv ⊢; rcases hv with rfl | rfl | rfl <;> simp)) _ _ _ _ hp.out gr s2 (HG.out.below' (BB_w22.out.trans (((show Below w22.heap.size w22 w22.drew from below_drewN (Below.refl _ _) 1).trans Cs.out).mono BB_w22.out.size))) KR.out).mono ?_
              rintro e s3 ⟨rfl, yy⟩
              have Cx := Cs
              have Cs := Lib.hid (Cs.out.trans (yy.mono Cs.out.size))
              refine hK _ _ (yy.mono Cx.out.size) ?_
              clear hK K yy Cx
              try simp only [Act.put, List.setIfInBounds_toArray, List.set_cons_zero, List.set_cons_succ]
              refine wpS_read (o := { dst := some 81, op := Go.Op.move (Go.Operand.tmp 88), type := 29, pos := "law.go:104", after := #[{ on := 6, ground := Go.Ground.data }], guard := none }) (v := .tuple #[.agg #[.bool true, .int .i64 0, .string ⟨P.toArray⟩], .int .i64 0]) rfl (by rfl) ?_ ?_
              · intro w' _; go_simp
              try simp only [Act.put, List.setIfInBounds_toArray, List.set_cons_zero, List.set_cons_succ]
              refine wpS_read (o := { dst := some 89, op := Go.Op.extract (Go.Operand.tmp 81) 0, type := 27, pos := "law.go:104", after := #[{ on := 7, ground := Go.Ground.data }], guard := none }) (v := .agg #[.bool true, .int .i64 0, .string ⟨P.toArray⟩]) rfl (by rfl) ?_ ?_
              · intro w' _; go_simp
              try simp only [Act.put, List.setIfInBounds_toArray, List.set_cons_zero, List.set_cons_succ]
              refine wpS_read (o := { dst := some 90, op := Go.Op.extract (Go.Operand.tmp 81) 1, type := 28, pos := "law.go:104", after := #[{ on := 7, ground := Go.Ground.data }, { on := 11, ground := Go.Ground.gcOnly Go.Departure.lateStores }], guard := none }) (v := .int .i64 0) rfl (by rfl) ?_ ?_
              · intro w' _; go_simp
              try simp only [Act.put, List.setIfInBounds_toArray, List.set_cons_zero, List.set_cons_succ]
              refine wpS_alone ?_
              obtain ⟨gp, hgp⟩ : ∃ g, g = (World.heap s3).size := ⟨_, rfl⟩
              obtain ⟨s4, hnx⟩ : ∃ u, u = World.alloc s3 (.cells #[.bool false, .int .i64 0, .string ⟨#[]⟩] 27) := ⟨_, rfl⟩
              have yy : Below (World.heap s3).size s3 s4 := by rw [hnx]; exact (Below.refl _ _).alloc (Nat.le_refl _) _
              have BG := Lib.hid (show Bx s4 gp (.bool false) (.int .i64 0) (.string ⟨#[]⟩) by rw [hnx, hgp]; exact Bx.made _ _ _ _ _)
              have GP := Lib.hid (show w22.heap.size ≤ gp by rw [hgp]; exact Cs.out.size)
              have Cx := Cs
              have Cs := Lib.hid (Cs.out.trans (yy.mono Cs.out.size))
              have W_ := Lib.hid hnx; have G_ := Lib.hid hgp
              refine stS_value (o := { dst := some 20, op := Go.Op.alloc 27, type := 0, pos := "law.go:104", after := #[], guard := none }) (v := .pointer (some ⟨gp, 0, none⟩)) (w1 := s4) rfl (by rfl) ?_ ?_ ?_
              · rw [W_.out, G_.out]; go_simp
              · exact yy.mono Cx.out.size
              clear yy hnx hgp Cx
              try simp only [Act.put, List.setIfInBounds_toArray, List.set_cons_zero, List.set_cons_succ]
              refine wpS_alone ?_
              obtain ⟨s5, hnx⟩ : ∃ u, u = put3 s4 gp (.bool true) (.int .i64 0) (.string ⟨P.toArray⟩) := ⟨_, rfl⟩
              have yy : Below gp s4 s5 := by rw [hnx]; exact put3_below _ _ _ _ _
              have P8 := Lib.hid (show Bx s5 gp (.bool true) (.int .i64 0) (.string ⟨P.toArray⟩) by rw [hnx]; exact put3_box BG.out _ _ _)
              obtain ⟨o0, o1, o2, o3, o4, o5, o6⟩ := BG.out
              have W_ := Lib.hid hnx
              refine stS_call (o := { dst := none, op := Go.Op.store 27 (Go.Operand.tmp 20) (Go.Operand.tmp 89), type := 0, pos := "law.go:104", after := #[{ on := 10, ground := Go.Ground.data }, { on := 8, ground := Go.Ground.data }, { on := 6, ground := Go.Ground.chain }, { on := 0, ground := Go.Ground.phase }, { on := 1, ground := Go.Ground.phase }, { on := 2, ground := Go.Ground.phase }, { on := 3, ground := Go.Ground.phase }, { on := 4, ground := Go.Ground.phase }, { on := 5, ground := Go.Ground.phase }, { on := 6, ground := Go.Ground.phase }, { on := 7, ground := Go.Ground.phase }, { on := 8, ground := Go.Ground.phase }, { on := 9, ground := Go.Ground.textOnly Go.Departure.lateStores }, { on := 10, ground := Go.Ground.phase }], guard := none }) rfl (by rfl) (fun K hK => ?_)
              go_simp
              change K _ (put3 s4 gp _ _ _)
              rw [← W_.out]
              have Cs := Lib.hid (Cs.out.trans (yy.mono GP.out))
              refine hK _ _ (yy.mono GP.out) ?_
              clear hK K o0 o1 o2 o3 o4 o5 o6 hnx yy
              try simp only [Act.put, List.setIfInBounds_toArray, List.set_cons_zero, List.set_cons_succ]
              refine wpS_read (o := { dst := some 21, op := Go.Op.assign (Go.Operand.tmp 90), type := 28, pos := "law.go:104", after := #[{ on := 9, ground := Go.Ground.data }, { on := 11, ground := Go.Ground.chain }, { on := 0, ground := Go.Ground.phase }, { on := 1, ground := Go.Ground.phase }, { on := 2, ground := Go.Ground.phase }, { on := 3, ground := Go.Ground.phase }, { on := 4, ground := Go.Ground.phase }, { on := 5, ground := Go.Ground.phase }, { on := 6, ground := Go.Ground.phase }, { on := 7, ground := Go.Ground.phase }, { on := 8, ground := Go.Ground.phase }, { on := 9, ground := Go.Ground.phase }, { on := 10, ground := Go.Ground.phase }, { on := 11, ground := Go.Ground.phase }], guard := none }) (v := .int .i64 0) rfl (by rfl) ?_ ?_
              · intro w' _; go_simp
              try simp only [Act.put, List.setIfInBounds_toArray, List.set_cons_zero, List.set_cons_succ]
              refine wpS_done ?_
              exact ⟨rfl, (gp, gr), (by first | rfl | simp only [Act.put, List.setIfInBounds_toArray, List.set_cons_zero, List.set_cons_succ]), P8.out, (by rw [Hs0.out]; exact Cs.out)⟩
            · obtain ⟨gp, hgp⟩ : ∃ g, g = (World.heap s2).size := ⟨_, rfl⟩
              obtain ⟨s3, hnx⟩ : ∃ u, u = World.alloc s2 (.cells #[.bool false, .int .i64 0, .string ⟨#[]⟩] 27) := ⟨_, rfl⟩
              have yy : Below (World.heap s2).size s2 s3 := by rw [hnx]; exact (Below.refl _ _).alloc (Nat.le_refl _) _
              have BG := Lib.hid (show Bx s3 gp (.bool false) (.int .i64 0) (.string ⟨#[]⟩) by rw [hnx, hgp]; exact Bx.made _ _ _ _ _)
              have GP := Lib.hid (show w22.heap.size ≤ gp by rw [hgp]; exact Cs.out.size)
              have KR := Lib.hid ((KR.out.below yy).more yy.size)
              have Cx := Cs
              have Cs := Lib.hid (Cs.out.trans (yy.mono Cs.out.size))
              have W_ := Lib.hid hnx; have G_ := Lib.hid hgp
              refine stS_value (o := { dst := some 20, op := Go.Op.alloc 27, type := 0, pos := "law.go:104", after := #[], guard := none }) (v := .pointer (some ⟨gp, 0, none⟩)) (w1 := s3) rfl (by rfl) ?_ ?_ ?_
              · rw [W_.out, G_.out]; go_simp
              · exact yy.mono Cx.out.size
              clear yy hnx hgp Cx
              try simp only [Act.put, List.setIfInBounds_toArray, List.set_cons_zero, List.set_cons_succ]
              refine wpS_alone ?_
              refine stS_call (o := { dst := some 88, op := Go.Op.call { callee := Go.Callee.value (Go.Operand.func 10), args := #[Go.Operand.const (Go.Value.int Go.IntKind.i64 11), Go.Operand.tmp 87], argTypes := #[3, 22] }, type := 29, pos := "law.go:104", after := #[{ on := 5, ground := Go.Ground.data }, { on := 4, ground := Go.Ground.chain }], guard := none }) rfl (by rfl) (fun K hK => ?_)
              go_simp
              go_at_call 10
              with_reducible refine (do_row HS.out 11 [⟨true, 0, s⟩, ⟨false, Fd, []⟩, ⟨false, (t.length : Int), []⟩] 3 rfl (by omega) (by unfold I; omega) (fun v hv => (Hok.out v) (by simp at hv ⊢; rcases hv with rfl | rfl | rfl <;> simp)) _ _ _ _ hp.out gr s3 (HG.out.below' (BB_w22.out.trans (((show Below w22.heap.size w22 w22.drew from below_drewN (Below.refl _ _) 1).trans Cs.out).mono BB_w22.out.size))) KR.out).mono ?_
              rintro e s4 ⟨rfl, yy⟩
              have BG := Lib.hid (BG.out.below yy BG.out.lt)
              have Cx := Cs
              have Cs := Lib.hid (Cs.out.trans (yy.mono Cs.out.size))
              refine hK _ _ (yy.mono Cx.out.size) ?_
              clear hK K yy Cx
              try simp only [Act.put, List.setIfInBounds_toArray, List.set_cons_zero, List.set_cons_succ]
              refine wpS_read (o := { dst := some 81, op := Go.Op.move (Go.Operand.tmp 88), type := 29, pos := "law.go:104", after := #[{ on := 6, ground := Go.Ground.data }], guard := none }) (v := .tuple #[.agg #[.bool true, .int .i64 0, .string ⟨P.toArray⟩], .int .i64 0]) rfl (by rfl) ?_ ?_
              · intro w' _; go_simp
              try simp only [Act.put, List.setIfInBounds_toArray, List.set_cons_zero, List.set_cons_succ]
              refine wpS_read (o := { dst := some 89, op := Go.Op.extract (Go.Operand.tmp 81) 0, type := 27, pos := "law.go:104", after := #[{ on := 7, ground := Go.Ground.data }], guard := none }) (v := .agg #[.bool true, .int .i64 0, .string ⟨P.toArray⟩]) rfl (by rfl) ?_ ?_
              · intro w' _; go_simp
              try simp only [Act.put, List.setIfInBounds_toArray, List.set_cons_zero, List.set_cons_succ]
              refine wpS_read (o := { dst := some 90, op := Go.Op.extract (Go.Operand.tmp 81) 1, type := 28, pos := "law.go:104", after := #[{ on := 7, ground := Go.Ground.data }, { on := 11, ground := Go.Ground.gcOnly Go.Departure.lateStores }], guard := none }) (v := .int .i64 0) rfl (by rfl) ?_ ?_
              · intro w' _; go_simp
              try simp only [Act.put, List.setIfInBounds_toArray, List.set_cons_zero, List.set_cons_succ]
              refine wpS_alone ?_
              obtain ⟨s5, hnx⟩ : ∃ u, u = put3 s4 gp (.bool true) (.int .i64 0) (.string ⟨P.toArray⟩) := ⟨_, rfl⟩
              have yy : Below gp s4 s5 := by rw [hnx]; exact put3_below _ _ _ _ _
              have P8 := Lib.hid (show Bx s5 gp (.bool true) (.int .i64 0) (.string ⟨P.toArray⟩) by rw [hnx]; exact put3_box BG.out _ _ _)
              obtain ⟨o0, o1, o2, o3, o4, o5, o6⟩ := BG.out
              have W_ := Lib.hid hnx
              refine stS_call (o := { dst := none, op := Go.Op.store 27 (Go.Operand.tmp 20) (Go.Operand.tmp 89), type := 0, pos := "law.go:104", after := #[{ on := 10, ground := Go.Ground.data }, { on := 8, ground := Go.Ground.data }, { on := 6, ground := Go.Ground.chain }, { on := 0, ground := Go.Ground.phase }, { on := 1, ground := Go.Ground.phase }, { on := 2, ground := Go.Ground.phase }, { on := 3, ground := Go.Ground.phase }, { on := 4, ground := Go.Ground.phase }, { on := 5, ground := Go.Ground.phase }, { on := 6, ground := Go.Ground.phase }, { on := 7, ground := Go.Ground.phase }, { on := 8, ground := Go.Ground.phase }, { on := 9, ground := Go.Ground.textOnly Go.Departure.lateStores }, { on := 10, ground := Go.Ground.phase }], guard := none }) rfl (by rfl) (fun K hK => ?_)
              go_simp
              change K _ (put3 s4 gp _ _ _)
              rw [← W_.out]
              have Cs := Lib.hid (Cs.out.trans (yy.mono GP.out))
              refine hK _ _ (yy.mono GP.out) ?_
              clear hK K o0 o1 o2 o3 o4 o5 o6 hnx yy
              try simp only [Act.put, List.setIfInBounds_toArray, List.set_cons_zero, List.set_cons_succ]
              refine wpS_read (o := { dst := some 21, op := Go.Op.assign (Go.Operand.tmp 90), type := 28, pos := "law.go:104", after := #[{ on := 9, ground := Go.Ground.data }, { on := 11, ground := Go.Ground.chain }, { on := 0, ground := Go.Ground.phase }, { on := 1, ground := Go.Ground.phase }, { on := 2, ground := Go.Ground.phase }, { on := 3, ground := Go.Ground.phase }, { on := 4, ground := Go.Ground.phase }, { on := 5, ground := Go.Ground.phase }, { on := 6, ground := Go.Ground.phase }, { on := 7, ground := Go.Ground.phase }, { on := 8, ground := Go.Ground.phase }, { on := 9, ground := Go.Ground.phase }, { on := 10, ground := Go.Ground.phase }, { on := 11, ground := Go.Ground.phase }], guard := none }) (v := .int .i64 0) rfl (by rfl) ?_ ?_
              · intro w' _; go_simp
              try simp only [Act.put, List.setIfInBounds_toArray, List.set_cons_zero, List.set_cons_succ]
              refine wpS_done ?_
              exact ⟨rfl, (gp, gr), (by first | rfl | simp only [Act.put, List.setIfInBounds_toArray, List.set_cons_zero, List.set_cons_succ]), P8.out, (by rw [Hs0.out]; exact Cs.out)⟩
          · obtain ⟨gp, hgp⟩ : ∃ g, g = (World.heap s1).size := ⟨_, rfl⟩
            obtain ⟨s2, hnx⟩ : ∃ u, u = World.alloc s1 (.cells #[.bool false, .int .i64 0, .string ⟨#[]⟩] 27) := ⟨_, rfl⟩
            have yy : Below (World.heap s1).size s1 s2 := by rw [hnx]; exact (Below.refl _ _).alloc (Nat.le_refl _) _
            have BG := Lib.hid (show Bx s2 gp (.bool false) (.int .i64 0) (.string ⟨#[]⟩) by rw [hnx, hgp]; exact Bx.made _ _ _ _ _)
            have GP := Lib.hid (show w22.heap.size ≤ gp by rw [hgp]; exact Cs.out.size)
            have Cx := Cs
            have Cs := Lib.hid (Cs.out.trans (yy.mono Cs.out.size))
            have W_ := Lib.hid hnx; have G_ := Lib.hid hgp
            refine stS_value (o := { dst := some 20, op := Go.Op.alloc 27, type := 0, pos := "law.go:104", after := #[], guard := none }) (v := .pointer (some ⟨gp, 0, none⟩)) (w1 := s2) rfl (by rfl) ?_ ?_ ?_
            · rw [W_.out, G_.out]; go_simp
            · exact yy.mono Cx.out.size
            clear yy hnx hgp Cx
            try simp only [Act.put, List.setIfInBounds_toArray, List.set_cons_zero, List.set_cons_succ]
            refine wpS_alone ?_
            obtain ⟨gr, hgr⟩ : ∃ g, g = (World.heap s2).size := ⟨_, rfl⟩
            obtain ⟨s3, hnx⟩ : ∃ u, u = World.alloc s2 (.cells #[.bool true, .int .i64 0, .string ⟨s.toArray⟩, .bool false, .int .i64 Fd, .string ⟨#[]⟩, .bool false, .int .i64 (t.length : Int), .string ⟨#[]⟩] 27) := ⟨_, rfl⟩
            have yy : Below (World.heap s2).size s2 s3 := by rw [hnx]; exact (Below.refl _ _).alloc (Nat.le_refl _) _
            have KR := Lib.hid (show Rc 3 s3 s3.heap.size (some ⟨gr, 0, none⟩) 3 3 (vvs [⟨true, 0, s⟩, ⟨false, Fd, []⟩, ⟨false, (t.length : Int), []⟩]) by rw [hnx, hgr]; exact (Rc.lit (z := 3) _ _ #[.bool true, .int .i64 0, .string ⟨s.toArray⟩, .bool false, .int .i64 Fd, .string ⟨#[]⟩, .bool false, .int .i64 (t.length : Int), .string ⟨#[]⟩] 3 rfl (by simp [maxLen])).more (by simp))
            have BG := Lib.hid (BG.out.below yy BG.out.lt)
            have Cx := Cs
            have Cs := Lib.hid (Cs.out.trans (yy.mono Cs.out.size))
            have W_ := Lib.hid hnx; have G_ := Lib.hid hgr
            refine stS_value (o := { dst := some 87, op := Go.Op.buildSlice 22 3 #[(0, Go.Operand.tmp 82), (1, Go.Operand.tmp 83), (2, Go.Operand.tmp 86)], type := 22, pos := "law.go:104", after := #[{ on := 0, ground := Go.Ground.data }, { on := 1, ground := Go.Ground.data }, { on := 4, ground := Go.Ground.data }], guard := none }) (v := .slice (some ⟨gr, 0, none⟩) 3 3) (w1 := s3) rfl (by rfl) ?_ ?_ ?_
            · rw [W_.out, G_.out]; go_simp
            · exact yy.mono Cx.out.size
            clear yy hnx hgr Cx
            try simp only [Act.put, List.setIfInBounds_toArray, List.set_cons_zero, List.set_cons_succ]
            refine wpS_alone ?_
            refine stS_call (o := { dst := some 88, op := Go.Op.call { callee := Go.Callee.value (Go.Operand.func 10), args := #[Go.Operand.const (Go.Value.int Go.IntKind.i64 11), Go.Operand.tmp 87], argTypes := #[3, 22] }, type := 29, pos := "law.go:104", after := #[{ on := 5, ground := Go.Ground.data }, { on := 4, ground := Go.Ground.chain }], guard := none }) rfl (by rfl) (fun K hK => ?_)
            go_simp
            go_at_call 10
            with_reducible refine (do_row HS.out 11 [⟨true, 0, s⟩, ⟨false, Fd, []⟩, ⟨false, (t.length : Int), []⟩] 3 rfl (by omega) (by unfold I; omega) (fun v hv => (Hok.out v) (by simp at hv ⊢; rcases hv with rfl | rfl | rfl <;> simp)) _ _ _ _ hp.out gr s3 (HG.out.below' (BB_w22.out.trans (((show Below w22.heap.size w22 w22.drew from below_drewN (Below.refl _ _) 1).trans Cs.out).mono BB_w22.out.size))) KR.out).mono ?_
            rintro e s4 ⟨rfl, yy⟩
            have BG := Lib.hid (BG.out.below yy BG.out.lt)
            have Cx := Cs
            have Cs := Lib.hid (Cs.out.trans (yy.mono Cs.out.size))
            refine hK _ _ (yy.mono Cx.out.size) ?_
            clear hK K yy Cx
            try simp only [Act.put, List.setIfInBounds_toArray, List.set_cons_zero, List.set_cons_succ]
            refine wpS_read (o := { dst := some 81, op := Go.Op.move (Go.Operand.tmp 88), type := 29, pos := "law.go:104", after := #[{ on := 6, ground := Go.Ground.data }], guard := none }) (v := .tuple #[.agg #[.bool true, .int .i64 0, .string ⟨P.toArray⟩], .int .i64 0]) rfl (by rfl) ?_ ?_
            · intro w' _; go_simp
            try simp only [Act.put, List.setIfInBounds_toArray, List.set_cons_zero, List.set_cons_succ]
            refine wpS_read (o := { dst := some 89, op := Go.Op.extract (Go.Operand.tmp 81) 0, type := 27, pos := "law.go:104", after := #[{ on := 7, ground := Go.Ground.data }], guard := none }) (v := .agg #[.bool true, .int .i64 0, .string ⟨P.toArray⟩]) rfl (by rfl) ?_ ?_
            · intro w' _; go_simp
            try simp only [Act.put, List.setIfInBounds_toArray, List.set_cons_zero, List.set_cons_succ]
            refine wpS_read (o := { dst := some 90, op := Go.Op.extract (Go.Operand.tmp 81) 1, type := 28, pos := "law.go:104", after := #[{ on := 7, ground := Go.Ground.data }, { on := 11, ground := Go.Ground.gcOnly Go.Departure.lateStores }], guard := none }) (v := .int .i64 0) rfl (by rfl) ?_ ?_
            · intro w' _; go_simp
            try simp only [Act.put, List.setIfInBounds_toArray, List.set_cons_zero, List.set_cons_succ]
            refine wpS_alone ?_
            obtain ⟨s5, hnx⟩ : ∃ u, u = put3 s4 gp (.bool true) (.int .i64 0) (.string ⟨P.toArray⟩) := ⟨_, rfl⟩
            have yy : Below gp s4 s5 := by rw [hnx]; exact put3_below _ _ _ _ _
            have P8 := Lib.hid (show Bx s5 gp (.bool true) (.int .i64 0) (.string ⟨P.toArray⟩) by rw [hnx]; exact put3_box BG.out _ _ _)
            obtain ⟨o0, o1, o2, o3, o4, o5, o6⟩ := BG.out
            have W_ := Lib.hid hnx
            refine stS_call (o := { dst := none, op := Go.Op.store 27 (Go.Operand.tmp 20) (Go.Operand.tmp 89), type := 0, pos := "law.go:104", after := #[{ on := 10, ground := Go.Ground.data }, { on := 8, ground := Go.Ground.data }, { on := 6, ground := Go.Ground.chain }, { on := 0, ground := Go.Ground.phase }, { on := 1, ground := Go.Ground.phase }, { on := 2, ground := Go.Ground.phase }, { on := 3, ground := Go.Ground.phase }, { on := 4, ground := Go.Ground.phase }, { on := 5, ground := Go.Ground.phase }, { on := 6, ground := Go.Ground.phase }, { on := 7, ground := Go.Ground.phase }, { on := 8, ground := Go.Ground.phase }, { on := 9, ground := Go.Ground.textOnly Go.Departure.lateStores }, { on := 10, ground := Go.Ground.phase }], guard := none }) rfl (by rfl) (fun K hK => ?_)
            go_simp
            change K _ (put3 s4 gp _ _ _)
            rw [← W_.out]
            have Cs := Lib.hid (Cs.out.trans (yy.mono GP.out))
            refine hK _ _ (yy.mono GP.out) ?_
            clear hK K o0 o1 o2 o3 o4 o5 o6 hnx yy
            try simp only [Act.put, List.setIfInBounds_toArray, List.set_cons_zero, List.set_cons_succ]
            refine wpS_read (o := { dst := some 21, op := Go.Op.assign (Go.Operand.tmp 90), type := 28, pos := "law.go:104", after := #[{ on := 9, ground := Go.Ground.data }, { on := 11, ground := Go.Ground.chain }, { on := 0, ground := Go.Ground.phase }, { on := 1, ground := Go.Ground.phase }, { on := 2, ground := Go.Ground.phase }, { on := 3, ground := Go.Ground.phase }, { on := 4, ground := Go.Ground.phase }, { on := 5, ground := Go.Ground.phase }, { on := 6, ground := Go.Ground.phase }, { on := 7, ground := Go.Ground.phase }, { on := 8, ground := Go.Ground.phase }, { on := 9, ground := Go.Ground.phase }, { on := 10, ground := Go.Ground.phase }, { on := 11, ground := Go.Ground.phase }], guard := none }) (v := .int .i64 0) rfl (by rfl) ?_ ?_
            · intro w' _; go_simp
            try simp only [Act.put, List.setIfInBounds_toArray, List.set_cons_zero, List.set_cons_succ]
            refine wpS_done ?_
            exact ⟨rfl, (gp, gr), (by first | rfl | simp only [Act.put, List.setIfInBounds_toArray, List.set_cons_zero, List.set_cons_succ]), P8.out, (by rw [Hs0.out]; exact Cs.out)⟩
        · obtain ⟨gp, hgp⟩ : ∃ g, g = (World.heap s0).size := ⟨_, rfl⟩
          obtain ⟨s1, hnx⟩ : ∃ u, u = World.alloc s0 (.cells #[.bool false, .int .i64 0, .string ⟨#[]⟩] 27) := ⟨_, rfl⟩
          have yy : Below (World.heap s0).size s0 s1 := by rw [hnx]; exact (Below.refl _ _).alloc (Nat.le_refl _) _
          have BG := Lib.hid (show Bx s1 gp (.bool false) (.int .i64 0) (.string ⟨#[]⟩) by rw [hnx, hgp]; exact Bx.made _ _ _ _ _)
          have GP := Lib.hid (show w22.heap.size ≤ gp by rw [hgp]; exact Cs.out.size)
          have Cx := Cs
          have Cs := Lib.hid (Cs.out.trans (yy.mono Cs.out.size))
          have W_ := Lib.hid hnx; have G_ := Lib.hid hgp
          refine stS_value (o := { dst := some 20, op := Go.Op.alloc 27, type := 0, pos := "law.go:104", after := #[], guard := none }) (v := .pointer (some ⟨gp, 0, none⟩)) (w1 := s1) rfl (by rfl) ?_ ?_ ?_
          · rw [W_.out, G_.out]; go_simp
          · exact yy.mono Cx.out.size
          clear yy hnx hgp Cx
          try simp only [Act.put, List.setIfInBounds_toArray, List.set_cons_zero, List.set_cons_succ]
          refine wpS_alone ?_
          refine stS_call (o := { dst := some 86, op := Go.Op.call { callee := Go.Callee.value (Go.Operand.func 17), args := #[Go.Operand.tmp 85], argTypes := #[3] }, type := 27, pos := "law.go:104", after := #[{ on := 3, ground := Go.Ground.data }], guard := none }) rfl (by rfl) (fun K hK => ?_)
          go_simp
          go_at_call 17
          with_reducible refine (Hnt.out s1).mono ?_
          rintro e s2 ⟨rfl, yy⟩
          have BG := Lib.hid (BG.out.below yy BG.out.lt)
          have Cx := Cs
          have Cs := Lib.hid (Cs.out.trans (yy.mono Cs.out.size))
          refine hK _ _ (yy.mono Cx.out.size) ?_
          clear hK K yy Cx
          try simp only [Act.put, List.setIfInBounds_toArray, List.set_cons_zero, List.set_cons_succ]
          refine wpS_alone ?_
          obtain ⟨gr, hgr⟩ : ∃ g, g = (World.heap s2).size := ⟨_, rfl⟩
          obtain ⟨s3, hnx⟩ : ∃ u, u = World.alloc s2 (.cells #[.bool true, .int .i64 0, .string ⟨s.toArray⟩, .bool false, .int .i64 Fd, .string ⟨#[]⟩, .bool false, .int .i64 (t.length : Int), .string ⟨#[]⟩] 27) := ⟨_, rfl⟩
          have yy : Below (World.heap s2).size s2 s3 := by rw [hnx]; exact (Below.refl _ _).alloc (Nat.le_refl _) _
          have KR := Lib.hid (show Rc 3 s3 s3.heap.size (some ⟨gr, 0, none⟩) 3 3 (vvs [⟨true, 0, s⟩, ⟨false, Fd, []⟩, ⟨false, (t.length : Int), []⟩]) by rw [hnx, hgr]; exact (Rc.lit (z := 3) _ _ #[.bool true, .int .i64 0, .string ⟨s.toArray⟩, .bool false, .int .i64 Fd, .string ⟨#[]⟩, .bool false, .int .i64 (t.length : Int), .string ⟨#[]⟩] 3 rfl (by simp [maxLen])).more (by simp))
          have BG := Lib.hid (BG.out.below yy BG.out.lt)
          have Cx := Cs
          have Cs := Lib.hid (Cs.out.trans (yy.mono Cs.out.size))
          have W_ := Lib.hid hnx; have G_ := Lib.hid hgr
          refine stS_value (o := { dst := some 87, op := Go.Op.buildSlice 22 3 #[(0, Go.Operand.tmp 82), (1, Go.Operand.tmp 83), (2, Go.Operand.tmp 86)], type := 22, pos := "law.go:104", after := #[{ on := 0, ground := Go.Ground.data }, { on := 1, ground := Go.Ground.data }, { on := 4, ground := Go.Ground.data }], guard := none }) (v := .slice (some ⟨gr, 0, none⟩) 3 3) (w1 := s3) rfl (by rfl) ?_ ?_ ?_
          · rw [W_.out, G_.out]; go_simp
          · exact yy.mono Cx.out.size
          clear yy hnx hgr Cx
          try simp only [Act.put, List.setIfInBounds_toArray, List.set_cons_zero, List.set_cons_succ]
          refine wpS_alone ?_
          refine stS_call (o := { dst := some 88, op := Go.Op.call { callee := Go.Callee.value (Go.Operand.func 10), args := #[Go.Operand.const (Go.Value.int Go.IntKind.i64 11), Go.Operand.tmp 87], argTypes := #[3, 22] }, type := 29, pos := "law.go:104", after := #[{ on := 5, ground := Go.Ground.data }, { on := 4, ground := Go.Ground.chain }], guard := none }) rfl (by rfl) (fun K hK => ?_)
          go_simp
          go_at_call 10
          with_reducible refine (do_row HS.out 11 [⟨true, 0, s⟩, ⟨false, Fd, []⟩, ⟨false, (t.length : Int), []⟩] 3 rfl (by omega) (by unfold I; omega) (fun v hv => (Hok.out v) (by simp at hv ⊢; rcases hv with rfl | rfl | rfl <;> simp)) _ _ _ _ hp.out gr s3 (HG.out.below' (BB_w22.out.trans (((show Below w22.heap.size w22 w22.drew from below_drewN (Below.refl _ _) 1).trans Cs.out).mono BB_w22.out.size))) KR.out).mono ?_
          rintro e s4 ⟨rfl, yy⟩
          have BG := Lib.hid (BG.out.below yy BG.out.lt)
          have Cx := Cs
          have Cs := Lib.hid (Cs.out.trans (yy.mono Cs.out.size))
          refine hK _ _ (yy.mono Cx.out.size) ?_
          clear hK K yy Cx
          try simp only [Act.put, List.setIfInBounds_toArray, List.set_cons_zero, List.set_cons_succ]
          refine wpS_read (o := { dst := some 81, op := Go.Op.move (Go.Operand.tmp 88), type := 29, pos := "law.go:104", after := #[{ on := 6, ground := Go.Ground.data }], guard := none }) (v := .tuple #[.agg #[.bool true, .int .i64 0, .string ⟨P.toArray⟩], .int .i64 0]) rfl (by rfl) ?_ ?_
          · intro w' _; go_simp
          try simp only [Act.put, List.setIfInBounds_toArray, List.set_cons_zero, List.set_cons_succ]
          refine wpS_read (o := { dst := some 89, op := Go.Op.extract (Go.Operand.tmp 81) 0, type := 27, pos := "law.go:104", after := #[{ on := 7, ground := Go.Ground.data }], guard := none }) (v := .agg #[.bool true, .int .i64 0, .string ⟨P.toArray⟩]) rfl (by rfl) ?_ ?_
          · intro w' _; go_simp
          try simp only [Act.put, List.setIfInBounds_toArray, List.set_cons_zero, List.set_cons_succ]
          refine wpS_read (o := { dst := some 90, op := Go.Op.extract (Go.Operand.tmp 81) 1, type := 28, pos := "law.go:104", after := #[{ on := 7, ground := Go.Ground.data }, { on := 11, ground := Go.Ground.gcOnly Go.Departure.lateStores }], guard := none }) (v := .int .i64 0) rfl (by rfl) ?_ ?_
          · intro w' _; go_simp
          try simp only [Act.put, List.setIfInBounds_toArray, List.set_cons_zero, List.set_cons_succ]
          refine wpS_alone ?_
          obtain ⟨s5, hnx⟩ : ∃ u, u = put3 s4 gp (.bool true) (.int .i64 0) (.string ⟨P.toArray⟩) := ⟨_, rfl⟩
          have yy : Below gp s4 s5 := by rw [hnx]; exact put3_below _ _ _ _ _
          have P8 := Lib.hid (show Bx s5 gp (.bool true) (.int .i64 0) (.string ⟨P.toArray⟩) by rw [hnx]; exact put3_box BG.out _ _ _)
          obtain ⟨o0, o1, o2, o3, o4, o5, o6⟩ := BG.out
          have W_ := Lib.hid hnx
          refine stS_call (o := { dst := none, op := Go.Op.store 27 (Go.Operand.tmp 20) (Go.Operand.tmp 89), type := 0, pos := "law.go:104", after := #[{ on := 10, ground := Go.Ground.data }, { on := 8, ground := Go.Ground.data }, { on := 6, ground := Go.Ground.chain }, { on := 0, ground := Go.Ground.phase }, { on := 1, ground := Go.Ground.phase }, { on := 2, ground := Go.Ground.phase }, { on := 3, ground := Go.Ground.phase }, { on := 4, ground := Go.Ground.phase }, { on := 5, ground := Go.Ground.phase }, { on := 6, ground := Go.Ground.phase }, { on := 7, ground := Go.Ground.phase }, { on := 8, ground := Go.Ground.phase }, { on := 9, ground := Go.Ground.textOnly Go.Departure.lateStores }, { on := 10, ground := Go.Ground.phase }], guard := none }) rfl (by rfl) (fun K hK => ?_)
          go_simp
          change K _ (put3 s4 gp _ _ _)
          rw [← W_.out]
          have Cs := Lib.hid (Cs.out.trans (yy.mono GP.out))
          refine hK _ _ (yy.mono GP.out) ?_
          clear hK K o0 o1 o2 o3 o4 o5 o6 hnx yy
          try simp only [Act.put, List.setIfInBounds_toArray, List.set_cons_zero, List.set_cons_succ]
          refine wpS_read (o := { dst := some 21, op := Go.Op.assign (Go.Operand.tmp 90), type := 28, pos := "law.go:104", after := #[{ on := 9, ground := Go.Ground.data }, { on := 11, ground := Go.Ground.chain }, { on := 0, ground := Go.Ground.phase }, { on := 1, ground := Go.Ground.phase }, { on := 2, ground := Go.Ground.phase }, { on := 3, ground := Go.Ground.phase }, { on := 4, ground := Go.Ground.phase }, { on := 5, ground := Go.Ground.phase }, { on := 6, ground := Go.Ground.phase }, { on := 7, ground := Go.Ground.phase }, { on := 8, ground := Go.Ground.phase }, { on := 9, ground := Go.Ground.phase }, { on := 10, ground := Go.Ground.phase }, { on := 11, ground := Go.Ground.phase }], guard := none }) (v := .int .i64 0) rfl (by rfl) ?_ ?_
          · intro w' _; go_simp
          try simp only [Act.put, List.setIfInBounds_toArray, List.set_cons_zero, List.set_cons_succ]
          refine wpS_done ?_
          exact ⟨rfl, (gp, gr), (by first | rfl | simp only [Act.put, List.setIfInBounds_toArray, List.set_cons_zero, List.set_cons_succ]), P8.out, (by rw [Hs0.out]; exact Cs.out)⟩
      · rintro ⟨gp, gr⟩ w23 ⟨xn, hb⟩
        have bn : Below w22.heap.size w22 w23 := (below_drewN (Below.refl _ _) 1).trans hb
        have BB_w23 := Lib.hid (BB_w22.out.trans (bn.mono BB_w22.out.size))
        have Xp_w23 := Lib.hid xn
        have Xx_w23 := Lib.hid (Xx_w22.out.below bn Xx_w22.out.lt)
        have Xy_w23 := Lib.hid (Xy_w22.out.below bn Xy_w22.out.lt)
        have Xz_w23 := Lib.hid (Xz_w22.out.below bn Xz_w22.out.lt)
        have Xo_w23 := Lib.hid (Xo_w22.out.below bn Xo_w22.out.lt)
        have Xk_w23 := Lib.hid (Xk_w22.out.below bn Xk_w22.out.lt)
        have Xa_w23 := Lib.hid (Xa_w22.out.below bn Xa_w22.out.lt)
        have Xb_w23 := Lib.hid (Xb_w22.out.below bn Xb_w22.out.lt)
        have Xj_w23 := Lib.hid (Xj_w22.out.below bn Xj_w22.out.lt)
        have Xf_w23 := Lib.hid (Xf_w22.out.below bn Xf_w22.out.lt)
        clear xn hb bn cx0 cx1 cx2 cy0 cy1 cy2 cz0 cz1 cz2 co0 co1 co2 ck0 ck1 ck2 ca0 ca1 ca2 cb0 cb1 cb2 cj0 cj1 cj2 cf0 cf1 cf2
        obtain ⟨cx0, cx1, cx2, -, -, -, -⟩ := Xx_w23.out
        obtain ⟨cy0, cy1, cy2, -, -, -, -⟩ := Xy_w23.out
        obtain ⟨cz0, cz1, cz2, -, -, -, -⟩ := Xz_w23.out
        obtain ⟨co0, co1, co2, -, -, -, -⟩ := Xo_w23.out
        obtain ⟨ck0, ck1, ck2, -, -, -, -⟩ := Xk_w23.out
        obtain ⟨ca0, ca1, ca2, -, -, -, -⟩ := Xa_w23.out
        obtain ⟨cb0, cb1, cb2, -, -, -, -⟩ := Xb_w23.out
        obtain ⟨cj0, cj1, cj2, -, -, -, -⟩ := Xj_w23.out
        obtain ⟨cf0, cf1, cf2, -, -, -, -⟩ := Xf_w23.out
        obtain ⟨cp0, cp1, cp2, -, -, -, -⟩ := Xp_w23.out
        dsimp only
        try simp only [Act.put, List.setIfInBounds_toArray, List.set_cons_zero, List.set_cons_succ]
        obtain ⟨w24, hr⟩ : ∃ r, r = w23.alloc (.cells #[.bool true, .int .i64 0, .string ⟨s.toArray⟩] 27) := ⟨_, rfl⟩
        have hc := do_lit HS.out 12 [⟨true, 0, s⟩] _ #[.bool true, .int .i64 0, .string ⟨s.toArray⟩] rfl 1 rfl (by omega) (by unfold I; omega) (fun v hv => (Hok.out v) (by simp at hv ⊢; subst hv; simp)) _ _ _ _ hu.out w23 w24 (HG.out.below' BB_w23.out) hr
        have Wr := Lib.hid hr; have Hc := Lib.hid hc
        clear hr hc
        go_wp2_with (first | rw [← Wr.out] | (fail))
        refine Hc.out.mono ?_
        rintro e w25 ⟨rfl, bq⟩
        have BB_w25 := Lib.hid (BB_w23.out.trans (bq.mono BB_w23.out.size))
        have Xx_w25 := Lib.hid (Xx_w23.out.below bq Xx_w23.out.lt)
        have Xy_w25 := Lib.hid (Xy_w23.out.below bq Xy_w23.out.lt)
        have Xz_w25 := Lib.hid (Xz_w23.out.below bq Xz_w23.out.lt)
        have Xo_w25 := Lib.hid (Xo_w23.out.below bq Xo_w23.out.lt)
        have Xk_w25 := Lib.hid (Xk_w23.out.below bq Xk_w23.out.lt)
        have Xa_w25 := Lib.hid (Xa_w23.out.below bq Xa_w23.out.lt)
        have Xb_w25 := Lib.hid (Xb_w23.out.below bq Xb_w23.out.lt)
        have Xj_w25 := Lib.hid (Xj_w23.out.below bq Xj_w23.out.lt)
        have Xf_w25 := Lib.hid (Xf_w23.out.below bq Xf_w23.out.lt)
        have Xp_w25 := Lib.hid (Xp_w23.out.below bq Xp_w23.out.lt)
        clear cx0 cx1 cx2 cy0 cy1 cy2 cz0 cz1 cz2 co0 co1 co2 ck0 ck1 ck2 ca0 ca1 ca2 cb0 cb1 cb2 cj0 cj1 cj2 cf0 cf1 cf2 cp0 cp1 cp2
        obtain ⟨cx0, cx1, cx2, -, -, -, -⟩ := Xx_w25.out
        obtain ⟨cy0, cy1, cy2, -, -, -, -⟩ := Xy_w25.out
        obtain ⟨cz0, cz1, cz2, -, -, -, -⟩ := Xz_w25.out
        obtain ⟨co0, co1, co2, -, -, -, -⟩ := Xo_w25.out
        obtain ⟨ck0, ck1, ck2, -, -, -, -⟩ := Xk_w25.out
        obtain ⟨ca0, ca1, ca2, -, -, -, -⟩ := Xa_w25.out
        obtain ⟨cb0, cb1, cb2, -, -, -, -⟩ := Xb_w25.out
        obtain ⟨cj0, cj1, cj2, -, -, -, -⟩ := Xj_w25.out
        obtain ⟨cf0, cf1, cf2, -, -, -, -⟩ := Xf_w25.out
        obtain ⟨cp0, cp1, cp2, -, -, -, -⟩ := Xp_w25.out
        clear bq Wr Hc
        obtain ⟨w26, hn⟩ : ∃ z, z = w25.alloc (.cells #[.bool true, .int .i64 0, .string ⟨U.toArray⟩] 27) := ⟨_, rfl⟩
        have bn : Below w25.heap.size w25 w26 := by rw [hn]; exact (Below.refl _ _).alloc (Nat.le_refl _) _
        have xn : Bx w26 w25.heap.size (.bool true) (.int .i64 0) (.string ⟨U.toArray⟩) := by rw [hn]; exact Bx.made _ _ _ _ _
        have zn : w26.heap.size = w25.heap.size + 1 := by rw [hn]; simp
        have BB_w26 := Lib.hid (BB_w25.out.trans (bn.mono BB_w25.out.size))
        have Xu_w26 := Lib.hid xn; have W_w26 := Lib.hid hn; have Z_w26 := Lib.hid zn
        have Xx_w26 := Lib.hid (Xx_w25.out.below bn Xx_w25.out.lt)
        have Xy_w26 := Lib.hid (Xy_w25.out.below bn Xy_w25.out.lt)
        have Xz_w26 := Lib.hid (Xz_w25.out.below bn Xz_w25.out.lt)
        have Xo_w26 := Lib.hid (Xo_w25.out.below bn Xo_w25.out.lt)
        have Xk_w26 := Lib.hid (Xk_w25.out.below bn Xk_w25.out.lt)
        have Xa_w26 := Lib.hid (Xa_w25.out.below bn Xa_w25.out.lt)
        have Xb_w26 := Lib.hid (Xb_w25.out.below bn Xb_w25.out.lt)
        have Xj_w26 := Lib.hid (Xj_w25.out.below bn Xj_w25.out.lt)
        have Xf_w26 := Lib.hid (Xf_w25.out.below bn Xf_w25.out.lt)
        have Xp_w26 := Lib.hid (Xp_w25.out.below bn Xp_w25.out.lt)
        clear hn bn xn zn
        clear cx0 cx1 cx2 cy0 cy1 cy2 cz0 cz1 cz2 co0 co1 co2 ck0 ck1 ck2 ca0 ca1 ca2 cb0 cb1 cb2 cj0 cj1 cj2 cf0 cf1 cf2 cp0 cp1 cp2
        obtain ⟨cx0, cx1, cx2, -, -, -, -⟩ := Xx_w26.out
        obtain ⟨cy0, cy1, cy2, -, -, -, -⟩ := Xy_w26.out
        obtain ⟨cz0, cz1, cz2, -, -, -, -⟩ := Xz_w26.out
        obtain ⟨co0, co1, co2, -, -, -, -⟩ := Xo_w26.out
        obtain ⟨ck0, ck1, ck2, -, -, -, -⟩ := Xk_w26.out
        obtain ⟨ca0, ca1, ca2, -, -, -, -⟩ := Xa_w26.out
        obtain ⟨cb0, cb1, cb2, -, -, -, -⟩ := Xb_w26.out
        obtain ⟨cj0, cj1, cj2, -, -, -, -⟩ := Xj_w26.out
        obtain ⟨cf0, cf1, cf2, -, -, -, -⟩ := Xf_w26.out
        obtain ⟨cp0, cp1, cp2, -, -, -, -⟩ := Xp_w26.out
        obtain ⟨cu0, cu1, cu2, -, -, -, -⟩ := Xu_w26.out
        obtain ⟨w27, hr⟩ : ∃ r, r = w26.alloc (.cells #[.bool true, .int .i64 0, .string ⟨U.toArray⟩] 27) := ⟨_, rfl⟩
        have hc := do_lit HS.out 13 [⟨true, 0, U⟩] _ #[.bool true, .int .i64 0, .string ⟨U.toArray⟩] rfl 1 rfl (by omega) (by unfold I; omega) (fun v hv => (Hok.out v) (by simp at hv ⊢; subst hv; simp)) _ _ _ _ hl.out w26 w27 (HG.out.below' BB_w26.out) hr
        have Wr := Lib.hid hr; have Hc := Lib.hid hc
        clear hr hc
        go_wp2_with (first | rw [← Wr.out] | (rw [← W_w26.out]))
        refine Hc.out.mono ?_
        rintro e w28 ⟨rfl, bq⟩
        have BB_w28 := Lib.hid (BB_w26.out.trans (bq.mono BB_w26.out.size))
        have Xx_w28 := Lib.hid (Xx_w26.out.below bq Xx_w26.out.lt)
        have Xy_w28 := Lib.hid (Xy_w26.out.below bq Xy_w26.out.lt)
        have Xz_w28 := Lib.hid (Xz_w26.out.below bq Xz_w26.out.lt)
        have Xo_w28 := Lib.hid (Xo_w26.out.below bq Xo_w26.out.lt)
        have Xk_w28 := Lib.hid (Xk_w26.out.below bq Xk_w26.out.lt)
        have Xa_w28 := Lib.hid (Xa_w26.out.below bq Xa_w26.out.lt)
        have Xb_w28 := Lib.hid (Xb_w26.out.below bq Xb_w26.out.lt)
        have Xj_w28 := Lib.hid (Xj_w26.out.below bq Xj_w26.out.lt)
        have Xf_w28 := Lib.hid (Xf_w26.out.below bq Xf_w26.out.lt)
        have Xp_w28 := Lib.hid (Xp_w26.out.below bq Xp_w26.out.lt)
        have Xu_w28 := Lib.hid (Xu_w26.out.below bq Xu_w26.out.lt)
        clear cx0 cx1 cx2 cy0 cy1 cy2 cz0 cz1 cz2 co0 co1 co2 ck0 ck1 ck2 ca0 ca1 ca2 cb0 cb1 cb2 cj0 cj1 cj2 cf0 cf1 cf2 cp0 cp1 cp2 cu0 cu1 cu2
        obtain ⟨cx0, cx1, cx2, -, -, -, -⟩ := Xx_w28.out
        obtain ⟨cy0, cy1, cy2, -, -, -, -⟩ := Xy_w28.out
        obtain ⟨cz0, cz1, cz2, -, -, -, -⟩ := Xz_w28.out
        obtain ⟨co0, co1, co2, -, -, -, -⟩ := Xo_w28.out
        obtain ⟨ck0, ck1, ck2, -, -, -, -⟩ := Xk_w28.out
        obtain ⟨ca0, ca1, ca2, -, -, -, -⟩ := Xa_w28.out
        obtain ⟨cb0, cb1, cb2, -, -, -, -⟩ := Xb_w28.out
        obtain ⟨cj0, cj1, cj2, -, -, -, -⟩ := Xj_w28.out
        obtain ⟨cf0, cf1, cf2, -, -, -, -⟩ := Xf_w28.out
        obtain ⟨cp0, cp1, cp2, -, -, -, -⟩ := Xp_w28.out
        obtain ⟨cu0, cu1, cu2, -, -, -, -⟩ := Xu_w28.out
        clear bq Wr Hc
        obtain ⟨w29, hn⟩ : ∃ z, z = w28.alloc (.cells #[.bool true, .int .i64 0, .string ⟨L.toArray⟩] 27) := ⟨_, rfl⟩
        have bn : Below w28.heap.size w28 w29 := by rw [hn]; exact (Below.refl _ _).alloc (Nat.le_refl _) _
        have xn : Bx w29 w28.heap.size (.bool true) (.int .i64 0) (.string ⟨L.toArray⟩) := by rw [hn]; exact Bx.made _ _ _ _ _
        have zn : w29.heap.size = w28.heap.size + 1 := by rw [hn]; simp
        have BB_w29 := Lib.hid (BB_w28.out.trans (bn.mono BB_w28.out.size))
        have Xl_w29 := Lib.hid xn; have W_w29 := Lib.hid hn; have Z_w29 := Lib.hid zn
        have Xx_w29 := Lib.hid (Xx_w28.out.below bn Xx_w28.out.lt)
        have Xy_w29 := Lib.hid (Xy_w28.out.below bn Xy_w28.out.lt)
        have Xz_w29 := Lib.hid (Xz_w28.out.below bn Xz_w28.out.lt)
        have Xo_w29 := Lib.hid (Xo_w28.out.below bn Xo_w28.out.lt)
        have Xk_w29 := Lib.hid (Xk_w28.out.below bn Xk_w28.out.lt)
        have Xa_w29 := Lib.hid (Xa_w28.out.below bn Xa_w28.out.lt)
        have Xb_w29 := Lib.hid (Xb_w28.out.below bn Xb_w28.out.lt)
        have Xj_w29 := Lib.hid (Xj_w28.out.below bn Xj_w28.out.lt)
        have Xf_w29 := Lib.hid (Xf_w28.out.below bn Xf_w28.out.lt)
        have Xp_w29 := Lib.hid (Xp_w28.out.below bn Xp_w28.out.lt)
        have Xu_w29 := Lib.hid (Xu_w28.out.below bn Xu_w28.out.lt)
        clear hn bn xn zn
        clear cx0 cx1 cx2 cy0 cy1 cy2 cz0 cz1 cz2 co0 co1 co2 ck0 ck1 ck2 ca0 ca1 ca2 cb0 cb1 cb2 cj0 cj1 cj2 cf0 cf1 cf2 cp0 cp1 cp2 cu0 cu1 cu2
        obtain ⟨cx0, cx1, cx2, -, -, -, -⟩ := Xx_w29.out
        obtain ⟨cy0, cy1, cy2, -, -, -, -⟩ := Xy_w29.out
        obtain ⟨cz0, cz1, cz2, -, -, -, -⟩ := Xz_w29.out
        obtain ⟨co0, co1, co2, -, -, -, -⟩ := Xo_w29.out
        obtain ⟨ck0, ck1, ck2, -, -, -, -⟩ := Xk_w29.out
        obtain ⟨ca0, ca1, ca2, -, -, -, -⟩ := Xa_w29.out
        obtain ⟨cb0, cb1, cb2, -, -, -, -⟩ := Xb_w29.out
        obtain ⟨cj0, cj1, cj2, -, -, -, -⟩ := Xj_w29.out
        obtain ⟨cf0, cf1, cf2, -, -, -, -⟩ := Xf_w29.out
        obtain ⟨cp0, cp1, cp2, -, -, -, -⟩ := Xp_w29.out
        obtain ⟨cu0, cu1, cu2, -, -, -, -⟩ := Xu_w29.out
        obtain ⟨cl0, cl1, cl2, -, -, -, -⟩ := Xl_w29.out
        obtain ⟨w30, hr⟩ : ∃ r, r = w29.alloc (.cells #[.bool true, .int .i64 0, .string ⟨L.toArray⟩] 27) := ⟨_, rfl⟩
        have hc := do_lit HS.out 12 [⟨true, 0, L⟩] _ #[.bool true, .int .i64 0, .string ⟨L.toArray⟩] rfl 1 rfl (by omega) (by unfold I; omega) (fun v hv => (Hok.out v) (by simp at hv ⊢; subst hv; simp)) _ _ _ _ hv.out w29 w30 (HG.out.below' BB_w29.out) hr
        have Wr := Lib.hid hr; have Hc := Lib.hid hc
        clear hr hc
        go_wp2_with (first | rw [← Wr.out] | (rw [← W_w29.out]))
        refine Hc.out.mono ?_
        rintro e w31 ⟨rfl, bq⟩
        have BB_w31 := Lib.hid (BB_w29.out.trans (bq.mono BB_w29.out.size))
        have Xx_w31 := Lib.hid (Xx_w29.out.below bq Xx_w29.out.lt)
        have Xy_w31 := Lib.hid (Xy_w29.out.below bq Xy_w29.out.lt)
        have Xz_w31 := Lib.hid (Xz_w29.out.below bq Xz_w29.out.lt)
        have Xo_w31 := Lib.hid (Xo_w29.out.below bq Xo_w29.out.lt)
        have Xk_w31 := Lib.hid (Xk_w29.out.below bq Xk_w29.out.lt)
        have Xa_w31 := Lib.hid (Xa_w29.out.below bq Xa_w29.out.lt)
        have Xb_w31 := Lib.hid (Xb_w29.out.below bq Xb_w29.out.lt)
        have Xj_w31 := Lib.hid (Xj_w29.out.below bq Xj_w29.out.lt)
        have Xf_w31 := Lib.hid (Xf_w29.out.below bq Xf_w29.out.lt)
        have Xp_w31 := Lib.hid (Xp_w29.out.below bq Xp_w29.out.lt)
        have Xu_w31 := Lib.hid (Xu_w29.out.below bq Xu_w29.out.lt)
        have Xl_w31 := Lib.hid (Xl_w29.out.below bq Xl_w29.out.lt)
        clear cx0 cx1 cx2 cy0 cy1 cy2 cz0 cz1 cz2 co0 co1 co2 ck0 ck1 ck2 ca0 ca1 ca2 cb0 cb1 cb2 cj0 cj1 cj2 cf0 cf1 cf2 cp0 cp1 cp2 cu0 cu1 cu2 cl0 cl1 cl2
        obtain ⟨cx0, cx1, cx2, -, -, -, -⟩ := Xx_w31.out
        obtain ⟨cy0, cy1, cy2, -, -, -, -⟩ := Xy_w31.out
        obtain ⟨cz0, cz1, cz2, -, -, -, -⟩ := Xz_w31.out
        obtain ⟨co0, co1, co2, -, -, -, -⟩ := Xo_w31.out
        obtain ⟨ck0, ck1, ck2, -, -, -, -⟩ := Xk_w31.out
        obtain ⟨ca0, ca1, ca2, -, -, -, -⟩ := Xa_w31.out
        obtain ⟨cb0, cb1, cb2, -, -, -, -⟩ := Xb_w31.out
        obtain ⟨cj0, cj1, cj2, -, -, -, -⟩ := Xj_w31.out
        obtain ⟨cf0, cf1, cf2, -, -, -, -⟩ := Xf_w31.out
        obtain ⟨cp0, cp1, cp2, -, -, -, -⟩ := Xp_w31.out
        obtain ⟨cu0, cu1, cu2, -, -, -, -⟩ := Xu_w31.out
        obtain ⟨cl0, cl1, cl2, -, -, -, -⟩ := Xl_w31.out
        clear bq Wr Hc
        obtain ⟨w32, hn⟩ : ∃ z, z = w31.alloc (.cells #[.bool true, .int .i64 0, .string ⟨U.toArray⟩] 27) := ⟨_, rfl⟩
        have bn : Below w31.heap.size w31 w32 := by rw [hn]; exact (Below.refl _ _).alloc (Nat.le_refl _) _
        have xn : Bx w32 w31.heap.size (.bool true) (.int .i64 0) (.string ⟨U.toArray⟩) := by rw [hn]; exact Bx.made _ _ _ _ _
        have zn : w32.heap.size = w31.heap.size + 1 := by rw [hn]; simp
        have BB_w32 := Lib.hid (BB_w31.out.trans (bn.mono BB_w31.out.size))
        have Xv_w32 := Lib.hid xn; have W_w32 := Lib.hid hn; have Z_w32 := Lib.hid zn
        have Xx_w32 := Lib.hid (Xx_w31.out.below bn Xx_w31.out.lt)
        have Xy_w32 := Lib.hid (Xy_w31.out.below bn Xy_w31.out.lt)
        have Xz_w32 := Lib.hid (Xz_w31.out.below bn Xz_w31.out.lt)
        have Xo_w32 := Lib.hid (Xo_w31.out.below bn Xo_w31.out.lt)
        have Xk_w32 := Lib.hid (Xk_w31.out.below bn Xk_w31.out.lt)
        have Xa_w32 := Lib.hid (Xa_w31.out.below bn Xa_w31.out.lt)
        have Xb_w32 := Lib.hid (Xb_w31.out.below bn Xb_w31.out.lt)
        have Xj_w32 := Lib.hid (Xj_w31.out.below bn Xj_w31.out.lt)
        have Xf_w32 := Lib.hid (Xf_w31.out.below bn Xf_w31.out.lt)
        have Xp_w32 := Lib.hid (Xp_w31.out.below bn Xp_w31.out.lt)
        have Xu_w32 := Lib.hid (Xu_w31.out.below bn Xu_w31.out.lt)
        have Xl_w32 := Lib.hid (Xl_w31.out.below bn Xl_w31.out.lt)
        clear hn bn xn zn
        clear cx0 cx1 cx2 cy0 cy1 cy2 cz0 cz1 cz2 co0 co1 co2 ck0 ck1 ck2 ca0 ca1 ca2 cb0 cb1 cb2 cj0 cj1 cj2 cf0 cf1 cf2 cp0 cp1 cp2 cu0 cu1 cu2 cl0 cl1 cl2
        obtain ⟨cx0, cx1, cx2, -, -, -, -⟩ := Xx_w32.out
        obtain ⟨cy0, cy1, cy2, -, -, -, -⟩ := Xy_w32.out
        obtain ⟨cz0, cz1, cz2, -, -, -, -⟩ := Xz_w32.out
        obtain ⟨co0, co1, co2, -, -, -, -⟩ := Xo_w32.out
        obtain ⟨ck0, ck1, ck2, -, -, -, -⟩ := Xk_w32.out
        obtain ⟨ca0, ca1, ca2, -, -, -, -⟩ := Xa_w32.out
        obtain ⟨cb0, cb1, cb2, -, -, -, -⟩ := Xb_w32.out
        obtain ⟨cj0, cj1, cj2, -, -, -, -⟩ := Xj_w32.out
        obtain ⟨cf0, cf1, cf2, -, -, -, -⟩ := Xf_w32.out
        obtain ⟨cp0, cp1, cp2, -, -, -, -⟩ := Xp_w32.out
        obtain ⟨cu0, cu1, cu2, -, -, -, -⟩ := Xu_w32.out
        obtain ⟨cl0, cl1, cl2, -, -, -, -⟩ := Xl_w32.out
        obtain ⟨cv0, cv1, cv2, -, -, -, -⟩ := Xv_w32.out
        go_wp2_with (rw [← W_w32.out])
        by_cases hF : Fd < 0
        · have dF : decide (Fd < 0) = true := decide_eq_true hF
          clear hPt
          refine (alive13_c HS.out w32 (HG.out.below' BB_w32.out)).mono ?_
          rintro e wf ⟨rfl, bf⟩
          have BBf := Lib.hid (BB_w32.out.trans (bf.mono BB_w32.out.size))
          have xfx := Xx_w32.out.below bf Xx_w32.out.lt
          have xfy := Xy_w32.out.below bf Xy_w32.out.lt
          have xfz := Xz_w32.out.below bf Xz_w32.out.lt
          have xfo := Xo_w32.out.below bf Xo_w32.out.lt
          have xfk := Xk_w32.out.below bf Xk_w32.out.lt
          have xfa := Xa_w32.out.below bf Xa_w32.out.lt
          have xfb := Xb_w32.out.below bf Xb_w32.out.lt
          have xfj := Xj_w32.out.below bf Xj_w32.out.lt
          have xff := Xf_w32.out.below bf Xf_w32.out.lt
          have xfp := Xp_w32.out.below bf Xp_w32.out.lt
          have xfu := Xu_w32.out.below bf Xu_w32.out.lt
          have xfl := Xl_w32.out.below bf Xl_w32.out.lt
          have xfv := Xv_w32.out.below bf Xv_w32.out.lt
          clear cx0 cx1 cx2 cy0 cy1 cy2 cz0 cz1 cz2 co0 co1 co2 ck0 ck1 ck2 ca0 ca1 ca2 cb0 cb1 cb2 cj0 cj1 cj2 cf0 cf1 cf2 cp0 cp1 cp2 cu0 cu1 cu2 cl0 cl1 cl2 cv0 cv1 cv2 bf
          obtain ⟨cx0, cx1, cx2, -, -, -, -⟩ := xfx
          obtain ⟨cy0, cy1, cy2, -, -, -, -⟩ := xfy
          obtain ⟨cz0, cz1, cz2, -, -, -, -⟩ := xfz
          obtain ⟨co0, co1, co2, -, -, -, -⟩ := xfo
          obtain ⟨ck0, ck1, ck2, -, -, -, -⟩ := xfk
          obtain ⟨ca0, ca1, ca2, -, -, -, -⟩ := xfa
          obtain ⟨cb0, cb1, cb2, -, -, -, -⟩ := xfb
          obtain ⟨cj0, cj1, cj2, -, -, -, -⟩ := xfj
          obtain ⟨cf0, cf1, cf2, -, -, -, -⟩ := xff
          obtain ⟨cp0, cp1, cp2, -, -, -, -⟩ := xfp
          obtain ⟨cu0, cu1, cu2, -, -, -, -⟩ := xfu
          obtain ⟨cl0, cl1, cl2, -, -, -, -⟩ := xfl
          obtain ⟨cv0, cv1, cv2, -, -, -, -⟩ := xfv
          go_wp2
          go_ret
          exact ⟨rfl, BBf.out⟩
        · have dF : decide (Fd < 0) = false := decide_eq_false hF
          have eP := hPt (by omega)
          subst P
          refine (alive13_c HS.out w32 (HG.out.below' BB_w32.out)).mono ?_
          rintro e wf ⟨rfl, bf⟩
          have BBf := Lib.hid (BB_w32.out.trans (bf.mono BB_w32.out.size))
          have xfx := Xx_w32.out.below bf Xx_w32.out.lt
          have xfy := Xy_w32.out.below bf Xy_w32.out.lt
          have xfz := Xz_w32.out.below bf Xz_w32.out.lt
          have xfo := Xo_w32.out.below bf Xo_w32.out.lt
          have xfk := Xk_w32.out.below bf Xk_w32.out.lt
          have xfa := Xa_w32.out.below bf Xa_w32.out.lt
          have xfb := Xb_w32.out.below bf Xb_w32.out.lt
          have xfj := Xj_w32.out.below bf Xj_w32.out.lt
          have xff := Xf_w32.out.below bf Xf_w32.out.lt
          have xfp := Xp_w32.out.below bf Xp_w32.out.lt
          have xfu := Xu_w32.out.below bf Xu_w32.out.lt
          have xfl := Xl_w32.out.below bf Xl_w32.out.lt
          have xfv := Xv_w32.out.below bf Xv_w32.out.lt
          clear cx0 cx1 cx2 cy0 cy1 cy2 cz0 cz1 cz2 co0 co1 co2 ck0 ck1 ck2 ca0 ca1 ca2 cb0 cb1 cb2 cj0 cj1 cj2 cf0 cf1 cf2 cp0 cp1 cp2 cu0 cu1 cu2 cl0 cl1 cl2 cv0 cv1 cv2 bf
          obtain ⟨cx0, cx1, cx2, -, -, -, -⟩ := xfx
          obtain ⟨cy0, cy1, cy2, -, -, -, -⟩ := xfy
          obtain ⟨cz0, cz1, cz2, -, -, -, -⟩ := xfz
          obtain ⟨co0, co1, co2, -, -, -, -⟩ := xfo
          obtain ⟨ck0, ck1, ck2, -, -, -, -⟩ := xfk
          obtain ⟨ca0, ca1, ca2, -, -, -, -⟩ := xfa
          obtain ⟨cb0, cb1, cb2, -, -, -, -⟩ := xfb
          obtain ⟨cj0, cj1, cj2, -, -, -, -⟩ := xfj
          obtain ⟨cf0, cf1, cf2, -, -, -, -⟩ := xff
          obtain ⟨cp0, cp1, cp2, -, -, -, -⟩ := xfp
          obtain ⟨cu0, cu1, cu2, -, -, -, -⟩ := xfu
          obtain ⟨cl0, cl1, cl2, -, -, -, -⟩ := xfl
          obtain ⟨cv0, cv1, cv2, -, -, -, -⟩ := xfv
          go_wp2
          go_ret
          exact ⟨rfl, BBf.out⟩
    · have d1 : ¬ (1000 : Int) < s.length := by omega
      have d2 : (1000 : Int) < t.length := by omega
      go_enter Tryd.func6, Tryd.ntmps6
      go_wp2_with fail
      refine (alive13_c HS.out _ HG.out).mono ?_
      rintro e wf ⟨rfl, bf⟩
      go_wp2
      go_ret
      exact ⟨rfl, bf⟩
  · have d1 : (1000 : Int) < s.length := by omega
    go_enter Tryd.func6, Tryd.ntmps6
    go_wp2_with fail
    refine (alive13_c HS.out _ HG.out).mono ?_
    rintro e wf ⟨rfl, bf⟩
    go_wp2
    go_ret
    exact ⟨rfl, bf⟩
end Go.Proofs.YtkkjgiejnblopaaDoor
