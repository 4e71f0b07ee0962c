/-
  The document's Do.
-/
import Derived.Test.YtkkjgiejnblopaaDoorVC
import Derived.Test.YtkkjgiejnblopaaDoorPw
namespace Go.Proofs.YtkkjgiejnblopaaDoor
open Go.RowKit Vl

/-- The cells of values. -/
def vvs (l : List V) : List Value := l.flatMap fun v => [.bool v.t, .int .i64 v.n, st v.s]
theorem vvs_len (l : List V) : (vvs l).length = l.length * 3 := by
  induction l with
  | nil => rfl
  | cons v l ih => unfold vvs at ih ⊢; rw [List.flatMap_cons, List.length_append, ih]; simp; omega
theorem vvs_get : ∀ (l : List V) (k : Nat) (v : V), l[k]? = some v → (vvs l)[k * 3]? = some (.bool v.t) ∧ (vvs l)[k * 3 + 1]? = some (.int .i64 v.n) ∧ (vvs l)[k * 3 + 2]? = some (st v.s)
  | [], k, v, h => by simp at h
  | x :: l, 0, v, h => by
    simp at h; subst h
    exact ⟨rfl, rfl, rfl⟩
  | x :: l, k + 1, v, h => by
    have ih := vvs_get l k v (by simpa using h)
    have e : vvs (x :: l) = [.bool x.t, .int .i64 x.n, st x.s] ++ vvs l := rfl
    rw [e, show (k + 1) * 3 = k * 3 + 3 by omega, show k * 3 + 3 + 1 = (k * 3 + 1) + 3 by omega, show k * 3 + 3 + 2 = (k * 3 + 2) + 3 by omega]
    rw [List.getElem?_append_right (by simp), List.getElem?_append_right (by simp), List.getElem?_append_right (by simp)]
    simpa using ih
theorem vvs_at {w : World} {B n c k : Nat} {A : Option Addr} {l : List V} (h : Rc 3 w B A n c (vvs l)) (hk : k < n) :
    ∃ b o v, A = some ⟨b, o, none⟩ ∧ b < B ∧ w.cell? ⟨b, o + k * 3, none⟩ = some (.bool v.t) ∧ w.cell? ⟨b, o + k * 3 + 1, none⟩ = some (.int .i64 v.n) ∧ w.cell? ⟨b, o + k * 3 + 2, none⟩ = some (st v.s) ∧ l[k]? = some v := by
  have hl : l.length = n := by have := h.1; rw [vvs_len] at this; omega
  obtain ⟨b, o, e, hb, hc⟩ := h.2.2.2 (by omega)
  have hkl : k < l.length := by omega
  have hg := List.getElem?_eq_getElem hkl
  obtain ⟨g1, g2, g3⟩ := vvs_get l k _ hg
  exact ⟨b, o, l[k], e, hb, hc _ _ g1, by rw [Nat.add_assoc]; exact hc _ _ g2, by rw [Nat.add_assoc]; exact hc _ _ g3, hg⟩
theorem bsty : Sl Tryd.prog 23 4 (.bool false) 1 1 := ⟨Tryd.underlying23, by kernel_rfl, rfl, by omega⟩
theorem isV_len {v : V} (h : isV v = true) : v.s.length ≤ 1000 := by
  cases ht : v.t with
  | false => rw [isV_number h ht]; simp
  | true => exact (isV_text h ht).2
def DoRel (w1 : World) (n : Nat) (l : List V) (o i : Value) (wr : World) : Prop :=
  ∃ A c, ∃ k : Nat, o = .slice A k c ∧ i = .int .i64 (k : Int) ∧ k ≤ n ∧ Oc 1 wr 4 w1.heap.size A k c (lvb ((l.take k).map (·.t))) ∧ (l.take k).all isV = true ∧ Below w1.heap.size w1 wr
def RetD (w : World) (r : V × Nat) (e : Ending) (w' : World) : Prop := e = .returned (.tuple #[vv r.1, .int .i64 (r.2 : Int)]) ∧ Below w.heap.size w w'

set_option maxRecDepth 100000 in
set_option maxHeartbeats 4000000 in
theorem do_c (op : Int) (A : Option Addr) (n c : Nat) (l : List V) (w : World) (hr : Rc 3 w w.heap.size A n c (vvs l)) (hn : n ≤ 1000000) (hI : ∀ v ∈ l, I v.n) :
    Calls Tryd.prog 11 #[.int .i64 op, .slice A n c] w (RetD w (doV op l)) := by
  have hl : l.length = n := by have := hr.1; rw [vvs_len] at this; omega
  obtain ⟨w1, hw1⟩ : ∃ w1, w1 = w.alloc (.cells #[.bool false, .int .i64 0, .string ⟨#[]⟩] 27) := ⟨_, rfl⟩
  have z1 : w1.heap.size = w.heap.size + 1 := by rw [hw1]; simp
  have b1 : Below w.heap.size w w1 := by rw [hw1]; exact (Below.refl _ _).alloc (Nat.le_refl _) _
  have x1 : Bx w1 w.heap.size (.bool false) (.int .i64 0) (.string ⟨#[]⟩) := by rw [hw1]; exact Bx.made _ _ _ _ _
  obtain ⟨w2, hw2⟩ : ∃ w2, w2 = w1.alloc (.cells #[] 4) := ⟨_, rfl⟩
  have b2 : Below w1.heap.size w1 w2 := by rw [hw2]; exact (Below.refl _ _).alloc (Nat.le_refl _) _
  have own2 : Oc 1 w2 4 w1.heap.size (some ⟨w1.heap.size, 0, none⟩) 0 0 [] := by rw [hw2]; exact Oc.made0 1 _ _
  have hr1 := (hr.below b1).more (B' := w1.heap.size) (by omega)
  obtain ⟨R, hR⟩ : ∃ R, R = doV op l := ⟨_, rfl⟩
  rw [← hR]
  have W1 := Lib.hid hw1; have W2 := Lib.hid hw2; have Z1 := Lib.hid z1; have B1 := Lib.hid b1; have X1 := Lib.hid x1; have B2 := Lib.hid b2; have Own2 := Lib.hid own2; have Hr := Lib.hid hr1; have HI := Lib.hid hI; have HR := Lib.hid hR; have Hl := Lib.hid hl
  have zl : w.heap.size < w1.heap.size := by omega
  clear hw1 hw2 b1 x1 b2 own2 hr hr1 hI hR hl z1
  go_enter Tryd.func11, Tryd.ntmps11
  go_wp2_with (first | rw [← W1.out, ← W2.out, Z1.out] | rw [← W1.out, ← W2.out])
  go_loopw [6, 7] (fun o i wr => DoRel w1 n l o i wr) (fun _ i _ => n - (intOf i).toNat)
  case atStart => exact ⟨_, _, 0, by first | rfl | rw [Z1.out], rfl, Nat.zero_le _, Own2.out, rfl, B2.out⟩
  case round =>
    obtain ⟨A3, c3, k, rfl, rfl, hk, hown, hall, hbel⟩ := hrel
    rename World => wr
    have z3 := hbel.size
    by_cases hlt : k < n
    · obtain ⟨b, o, v, rfl, hb, hc0, hc1, hc2, hv⟩ := vvs_at (Hr.out.below hbel) hlt
      have htk : l.take (k + 1) = l.take k ++ [v] := by rw [List.take_add_one, hv]; rfl
      have Hv := Lib.hid hv; have Htk := Lib.hid htk; have Hown := Lib.hid hown; have Hall := Lib.hid hall; have Hbel := Lib.hid hbel
      have hbw : b < wr.heap.size := by omega
      obtain ⟨t, m, s⟩ := v
      dsimp only at hc0 hc1 hc2
      have hct : wr.cell? ⟨b, o + k * 3, none⟩ = some (.bool t) := hc0
      obtain ⟨ok, hok⟩ : ∃ ok, ok = isV ⟨t, m, s⟩ := ⟨_, rfl⟩
      have his := is_c ⟨t, m, s⟩ wr
      rw [← hok] at his
      have His := Lib.hid his; have Hok := Lib.hid hok
      clear hv htk hown hall hbel his hok
      go_wp2_with fail
      refine His.out.mono ?_
      rintro e w4 ⟨rfl, b4⟩
      have z4 := b4.size
      have bb4 := Hbel.out.trans (b4.mono z3)
      have hct4 : w4.cell? ⟨b, o + k * 3, none⟩ = some (.bool t) := (b4.cell (p := ⟨b, o + k * 3, none⟩) hbw).trans hct
      clear hc0 hc1 hc2 hct
      cases ok with
      | false =>
        have hRv : R = (v0, 1) := by
          rw [HR.out]
          unfold doV
          rw [if_neg]
          intro q
          have := List.all_eq_true.1 q _ (List.mem_of_getElem? Hv.out)
          rw [← Hok.out] at this
          cases this
        subst hRv
        have x4 := X1.out.below bb4 (by omega)
        have X4 := Lib.hid x4; have BB4 := Lib.hid (B1.out.trans (bb4.mono (by omega)))
        obtain ⟨o0, o1, o2, f0, f1, f2, lr⟩ := x4
        clear b4 bb4 hct4
        go_wp2
        change bodyPost _ _ _ _ _ (put3 w4 w.heap.size _ _ _)
        have s0 := fun v0 v1 v2 => (put3_box X4.out v0 v1 v2).c0
        have s1 := fun v0 v1 v2 => (put3_box X4.out v0 v1 v2).c1
        have s2 := fun v0 v1 v2 => (put3_box X4.out v0 v1 v2).c2
        refine bodyPost_ret (v := .tuple #[vv v0, .int .i64 1]) ?_ rfl ⟨rfl, BB4.out.trans (put3_below _ _ _ _ _)⟩
        simp [results, Tryd.results11, go_sem, s0, s1, s2, v0]
      | true =>
        obtain ⟨w5, hw5⟩ : ∃ w5, w5 = w4.alloc (.cells #[.bool t] 4) := ⟨_, rfl⟩
        have b5 : Below w4.heap.size w4 w5 := by rw [hw5]; exact (Below.refl _ _).alloc (Nat.le_refl _) _
        have hrow : Rc 1 w5 (w4.heap.size + 1) (some ⟨w4.heap.size, 0, none⟩) 1 1 [.bool t] := by rw [hw5]; exact Rc.lit (z := 1) w4 _ #[.bool t] 1 rfl (by simp [maxLen])
        have b45 := b4.trans (b5.mono z4)
        have own5 := Hown.out.keep b45
        have bb5 := Hbel.out.trans (b45.mono z3)
        have z5 := bb5.size
        have W5 := Lib.hid hw5; have Hrow := Lib.hid hrow; have Own5 := Lib.hid own5; have BB5 := Lib.hid bb5
        have hws : lvb ((l.take (k + 1)).map (·.t)) = lvb ((l.take k).map (·.t)) ++ [.bool t] := by rw [Htk.out]; simp [lvb]
        obtain ⟨N, hN⟩ : ∃ N, N = lvb ((l.take (k + 1)).map (·.t)) := ⟨_, rfl⟩
        rw [← hN] at hws
        have HN := Lib.hid hN
        have hal : (l.take (k + 1)).all isV = true := by rw [Htk.out, List.all_append, Hall.out]; simp [← Hok.out]
        have Hws := Lib.hid hws.symm; have Hal := Lib.hid hal
        clear hw5 hrow own5 bb5 b45 b5 b4 bb4 hws hal hN
        go_wp2_with (at_builtin; rw [← W5.out]; go_must (refine Sl.wpAppAt bsty rfl (.tmp 27) (.tmp 33) rfl (n := k) (m := 1) (N := k + 1) (ws := N) rfl rfl Own5.out Hrow.out ?hs1 rfl Hws.out ?hs4 ?hs5 ?hs6 ?_))
        case hs1 => simp [Value.oneCell']
        case hs4 => omega
        case hs5 => omega
        case hs6 => exact z5
        intro A8 c8 w8 hown8 hg8
        have b8 := hg8.belowC Own5.out z5
        have bw8 := BB5.out.trans b8
        have Hown8 := Lib.hid hown8
        clear hown8 hg8
        go_wp2
        go_roundw
        case rel => exact ⟨A8, c8, k + 1, rfl, by go_num, hlt, by rw [← HN.out]; exact Hown8.out, Hal.out, bw8⟩
        case measure => simp [intOf]; omega
    · obtain rfl : k = n := by omega
      rw [List.take_of_length_le (by have := Hl.out; omega)] at hown hall
      have hrc := result_c op A3 k c3 (l.map (·.t)) wr hown.rc hn
      obtain ⟨rb, hrb⟩ : ∃ rb, rb = (res op (l.map (·.t))).1 := ⟨_, rfl⟩
      obtain ⟨re, hre⟩ : ∃ re, re = (res op (l.map (·.t))).2 := ⟨_, rfl⟩
      rw [← hrb, ← hre] at hrc
      have Hrc := Lib.hid hrc; have Hre := Lib.hid hre; have Hall := Lib.hid hall; have Hbel := Lib.hid hbel
      clear hrc hrb hre hall hown hbel
      go_wp2_with fail
      refine Hrc.out.mono ?_
      rintro e w5' ⟨rfl, q, rfl⟩
      have b5 : Below w1.heap.size w1 (wr.drewN q) := below_drewN Hbel.out _
      obtain ⟨w5, hw5⟩ : ∃ w5, w5 = wr.drewN q := ⟨_, rfl⟩
      have z5 : w5.heap.size = wr.heap.size := by rw [hw5]; rfl
      rw [← hw5] at b5 ⊢
      have B5 := Lib.hid b5
      clear hw5 b5
      by_cases he : re = 0
      · subst he
        obtain ⟨hV, -, hlen, -⟩ := do_kind op l Hall.out (by unfold doV; rw [if_pos Hall.out, if_pos Hre.out.symm])
        have hop := kd_op (op := op) (by
          intro e
          have := Hre.out
          unfold res at this
          rw [if_pos e] at this
          cases this)
        have hx0 : 0 < k := by
          have h1 := Hl.out
          rcases hop with rfl | rfl | rfl | rfl | rfl | rfl | rfl | rfl | rfl | rfl | rfl | rfl | rfl | rfl | rfl | rfl | rfl | rfl <;> (have h2 : l.length = _ := hlen; simp [ar, kd] at h2; omega)
        obtain ⟨b, o, v, rfl, hb, hc0, hc1, hc2, hv⟩ := vvs_at (Hr.out.below B5.out) hx0
        have hbw : b < w5.heap.size := by omega
        have gd0 : l.getD 0 v0 = v := by rw [List.getD_eq_getElem?_getD, hv]; rfl
        have hVa : isV v = true := List.all_eq_true.1 Hall.out v (List.mem_of_getElem? hv)
        have hIa : I v.n := HI.out v (List.mem_of_getElem? hv)
        obtain ⟨t, m, s⟩ := v
        dsimp only at hc0 hc1 hc2 hIa
        simp only [Nat.zero_mul, Nat.add_zero] at hc0 hc1 hc2
        have hc0' := hc0
        have z5' := z5
        clear z5 hv
        by_cases hk2 : 1 < k
        · obtain ⟨b', o', v', hE, -, hd0, hd1, hd2, hv'⟩ := vvs_at (Hr.out.below B5.out) hk2
          injection hE with hE
          injection hE with hE1 hE2
          subst hE1 hE2
          have gd1 : l.getD 1 v0 = v' := by rw [List.getD_eq_getElem?_getD, hv']; rfl
          have hVb : isV v' = true := List.all_eq_true.1 Hall.out v' (List.mem_of_getElem? hv')
          have hIb : I v'.n := HI.out v' (List.mem_of_getElem? hv')
          obtain ⟨t1, m1, s1⟩ := v'
          dsimp only at hd0 hd1 hd2 hIb
          clear hv'
          have d1 : decide ((1 : Int) < (k : Int)) = true := by simp; omega
          have d1' : decide (1 < k) = true := decide_eq_true hk2
          by_cases hk3 : 2 < k
          · obtain ⟨b', o', v', hE, -, hh0, hh1, hh2, hv'⟩ := vvs_at (Hr.out.below B5.out) hk3
            injection hE with hE
            injection hE with hE1 hE2
            subst hE1 hE2
            have gd2 : l.getD 2 v0 = v' := by rw [List.getD_eq_getElem?_getD, hv']; rfl
            obtain ⟨t2, m2, s2⟩ := v'
            dsimp only at hh0 hh1 hh2
            clear hv'
            have d2 : decide ((2 : Int) < (k : Int)) = true := by simp; omega
            have d2' : decide (2 < k) = true := decide_eq_true hk3
            have raw := fun (x y z : Obj) (k : Nat) => (show (((w5.alloc x).alloc y).alloc z).cell? ⟨b, k, none⟩ = w5.cell? ⟨b, k, none⟩ by rw [World.cell?_alloc_lt _ _ _ (by simp; omega), World.cell?_alloc_lt _ _ _ (by simp; omega), World.cell?_alloc_lt _ _ _ hbw])
            have ra0 := (raw (.cells #[.bool t, .int .i64 m, .string ⟨s.toArray⟩] 27) (.cells #[.bool false, .int .i64 0, .string ⟨#[]⟩] 27) (.cells #[.bool false, .int .i64 0, .string ⟨#[]⟩] 27) (o + 1 * 3 )).trans hd0
            have ra1 := (raw (.cells #[.bool t, .int .i64 m, .string ⟨s.toArray⟩] 27) (.cells #[.bool false, .int .i64 0, .string ⟨#[]⟩] 27) (.cells #[.bool false, .int .i64 0, .string ⟨#[]⟩] 27) (o + 1 * 3 + 1)).trans hd1
            have ra2 := (raw (.cells #[.bool t, .int .i64 m, .string ⟨s.toArray⟩] 27) (.cells #[.bool false, .int .i64 0, .string ⟨#[]⟩] 27) (.cells #[.bool false, .int .i64 0, .string ⟨#[]⟩] 27) (o + 1 * 3 + 2)).trans hd2
            simp only [Nat.one_mul] at ra0 ra1 ra2
            have rb0 := (raw (.cells #[.bool t, .int .i64 m, .string ⟨s.toArray⟩] 27) (.cells #[.bool t1, .int .i64 m1, .string ⟨s1.toArray⟩] 27) (.cells #[.bool false, .int .i64 0, .string ⟨#[]⟩] 27) (o + 2 * 3 )).trans hh0
            have rb1 := (raw (.cells #[.bool t, .int .i64 m, .string ⟨s.toArray⟩] 27) (.cells #[.bool t1, .int .i64 m1, .string ⟨s1.toArray⟩] 27) (.cells #[.bool false, .int .i64 0, .string ⟨#[]⟩] 27) (o + 2 * 3 + 1)).trans hh1
            have rb2 := (raw (.cells #[.bool t, .int .i64 m, .string ⟨s.toArray⟩] 27) (.cells #[.bool t1, .int .i64 m1, .string ⟨s1.toArray⟩] 27) (.cells #[.bool false, .int .i64 0, .string ⟨#[]⟩] 27) (o + 2 * 3 + 2)).trans hh2
            simp only [Nat.reduceMul] at rb0 rb1 rb2
            obtain ⟨w6, hw6⟩ : ∃ w6, w6 = w5.alloc (.cells #[.bool t, .int .i64 m, .string ⟨s.toArray⟩] 27) := ⟨_, rfl⟩
            obtain ⟨w7, hw7⟩ : ∃ w7, w7 = w6.alloc (.cells #[.bool t1, .int .i64 m1, .string ⟨s1.toArray⟩] 27) := ⟨_, rfl⟩
            obtain ⟨w8, hw8⟩ : ∃ w8, w8 = w7.alloc (.cells #[.bool t2, .int .i64 m2, .string ⟨s2.toArray⟩] 27) := ⟨_, rfl⟩
            have b58 : Below w5.heap.size w5 w8 := by rw [hw8, hw7, hw6]; exact (((Below.refl _ _).alloc (Nat.le_refl _) _).alloc (by simp) _).alloc (by simp; omega) _
            have hlast : w1.heap.size ≤ w8.heap.size := by have := b58.size; omega
            have BL := Lib.hid (B5.out.trans (b58.mono (by omega)))
            have W6 := Lib.hid hw6; have W7 := Lib.hid hw7; have W8 := Lib.hid hw8
            have hla : s.length ≤ 1000 := isV_len (v := ⟨t, m, s⟩) hVa
            have hlb : s1.length ≤ 1000 := isV_len (v := ⟨t1, m1, s1⟩) hVb
            clear raw z5' b58 hw6 hw7 hw8 hb hbw hc0' hV hVa hd0 hd1 hd2 hVb hh0 hh1 hh2
            rcases (show op ≤ 8 ∨ (8 < op ∧ op < 14) ∨ (14 ≤ op ∧ op ≤ 17) ∨ 17 < op by omega) with hc | hc | hc | hc
            · have q1 : op ≤ 8 := hc
              have d8 : decide (op ≤ 8) = true := decide_eq_true q1
              obtain ⟨X, hX⟩ : ∃ X, X = rek op ⟨t, m, s⟩ ⟨t1, m1, s1⟩ ⟨t2, m2, s2⟩ := ⟨_, rfl⟩
              have hRv : R = (X, 0) := by
                rw [HR.out, hX]
                unfold doV
                rw [if_pos Hall.out, if_pos Hre.out.symm, if_pos (by omega), gd0, gd1, gd2]
              have hcall := reckoned_c op ⟨t, m, s⟩ ⟨t1, m1, s1⟩ ⟨t2, m2, s2⟩ (by omega) hIa hIb w8
              rw [← hX] at hcall
              obtain ⟨rt, rn, rs⟩ := X
              subst hRv
              have Hcall := Lib.hid hcall
              clear hcall hX HR Hall Hre gd0 gd1 gd2 hop hIa
              go_wp2_with fail
              rw [← W6.out, ← W7.out, ← W8.out]
              refine Hcall.out.mono ?_
              rintro e w20 ⟨rfl, b20⟩
              have bl20 := BL.out.trans (b20.mono hlast)
              have x20 := X1.out.below bl20 zl
              have X20 := Lib.hid x20; have BW20 := Lib.hid (B1.out.trans (bl20.mono (by omega)))
              obtain ⟨o0, o1, o2, f0, f1, f2, lr⟩ := x20
              clear b20 bl20 ra0 ra1 ra2 rb0 rb1 rb2
              go_wp2
              change bodyPost _ _ _ _ _ (put3 w20 w.heap.size _ _ _)
              have s0 := fun v0 v1 v2 => (put3_box X20.out v0 v1 v2).c0
              have s1 := fun v0 v1 v2 => (put3_box X20.out v0 v1 v2).c1
              have s2 := fun v0 v1 v2 => (put3_box X20.out v0 v1 v2).c2
              refine bodyPost_ret (v := .tuple #[vv ⟨rt, rn, rs⟩, .int .i64 0]) ?_ rfl ⟨rfl, BW20.out.trans (put3_below _ _ _ _ _)⟩
              simp [results, Tryd.results11, go_sem, s0, s1, s2]
            · obtain ⟨q1, q2⟩ := hc
              have d8 : decide (op ≤ 8) = false := decide_eq_false (by omega)
              have d14 : decide (14 ≤ op) = false := decide_eq_false (by omega)
              obtain ⟨X, hX⟩ : ∃ X, X = tex op ⟨t, m, s⟩ ⟨t1, m1, s1⟩ ⟨t2, m2, s2⟩ := ⟨_, rfl⟩
              have hRv : R = (X, 0) := by
                rw [HR.out, hX]
                unfold doV
                rw [if_pos Hall.out, if_pos Hre.out.symm, if_neg (by omega), gd0, gd1, gd2]
              have hcall := texted_c op ⟨t, m, s⟩ ⟨t1, m1, s1⟩ ⟨t2, m2, s2⟩ (by omega) hIa hla hlb w8
              rw [← hX] at hcall
              obtain ⟨rt, rn, rs⟩ := X
              subst hRv
              have Hcall := Lib.hid hcall
              clear hcall hX HR Hall Hre gd0 gd1 gd2 hop hIa
              go_wp2_with fail
              rw [← W6.out, ← W7.out, ← W8.out]
              refine Hcall.out.mono ?_
              rintro e w20 ⟨rfl, b20⟩
              have bl20 := BL.out.trans (b20.mono hlast)
              have x20 := X1.out.below bl20 zl
              have X20 := Lib.hid x20; have BW20 := Lib.hid (B1.out.trans (bl20.mono (by omega)))
              obtain ⟨o0, o1, o2, f0, f1, f2, lr⟩ := x20
              clear b20 bl20 ra0 ra1 ra2 rb0 rb1 rb2
              go_wp2
              change bodyPost _ _ _ _ _ (put3 w20 w.heap.size _ _ _)
              have s0 := fun v0 v1 v2 => (put3_box X20.out v0 v1 v2).c0
              have s1 := fun v0 v1 v2 => (put3_box X20.out v0 v1 v2).c1
              have s2 := fun v0 v1 v2 => (put3_box X20.out v0 v1 v2).c2
              refine bodyPost_ret (v := .tuple #[vv ⟨rt, rn, rs⟩, .int .i64 0]) ?_ rfl ⟨rfl, BW20.out.trans (put3_below _ _ _ _ _)⟩
              simp [results, Tryd.results11, go_sem, s0, s1, s2]
            · obtain ⟨q1, q2⟩ := hc
              have d8 : decide (op ≤ 8) = false := decide_eq_false (by omega)
              have d14 : decide (14 ≤ op) = true := decide_eq_true (by omega)
              have d17 : decide (op ≤ 17) = true := decide_eq_true (by omega)
              obtain ⟨X, hX⟩ : ∃ X, X = rek op ⟨t, m, s⟩ ⟨t1, m1, s1⟩ ⟨t2, m2, s2⟩ := ⟨_, rfl⟩
              have hRv : R = (X, 0) := by
                rw [HR.out, hX]
                unfold doV
                rw [if_pos Hall.out, if_pos Hre.out.symm, if_pos (by omega), gd0, gd1, gd2]
              have hcall := reckoned_c op ⟨t, m, s⟩ ⟨t1, m1, s1⟩ ⟨t2, m2, s2⟩ (by omega) hIa hIb w8
              rw [← hX] at hcall
              obtain ⟨rt, rn, rs⟩ := X
              subst hRv
              have Hcall := Lib.hid hcall
              clear hcall hX HR Hall Hre gd0 gd1 gd2 hop hIa
              go_wp2_with fail
              rw [← W6.out, ← W7.out, ← W8.out]
              refine Hcall.out.mono ?_
              rintro e w20 ⟨rfl, b20⟩
              have bl20 := BL.out.trans (b20.mono hlast)
              have x20 := X1.out.below bl20 zl
              have X20 := Lib.hid x20; have BW20 := Lib.hid (B1.out.trans (bl20.mono (by omega)))
              obtain ⟨o0, o1, o2, f0, f1, f2, lr⟩ := x20
              clear b20 bl20 ra0 ra1 ra2 rb0 rb1 rb2
              go_wp2
              change bodyPost _ _ _ _ _ (put3 w20 w.heap.size _ _ _)
              have s0 := fun v0 v1 v2 => (put3_box X20.out v0 v1 v2).c0
              have s1 := fun v0 v1 v2 => (put3_box X20.out v0 v1 v2).c1
              have s2 := fun v0 v1 v2 => (put3_box X20.out v0 v1 v2).c2
              refine bodyPost_ret (v := .tuple #[vv ⟨rt, rn, rs⟩, .int .i64 0]) ?_ rfl ⟨rfl, BW20.out.trans (put3_below _ _ _ _ _)⟩
              simp [results, Tryd.results11, go_sem, s0, s1, s2]
            · have q1 : 17 < op := hc
              have d8 : decide (op ≤ 8) = false := decide_eq_false (by omega)
              have d14 : decide (14 ≤ op) = true := decide_eq_true (by omega)
              have d17 : decide (op ≤ 17) = false := decide_eq_false (by omega)
              obtain ⟨X, hX⟩ : ∃ X, X = tex op ⟨t, m, s⟩ ⟨t1, m1, s1⟩ ⟨t2, m2, s2⟩ := ⟨_, rfl⟩
              have hRv : R = (X, 0) := by
                rw [HR.out, hX]
                unfold doV
                rw [if_pos Hall.out, if_pos Hre.out.symm, if_neg (by omega), gd0, gd1, gd2]
              have hcall := texted_c op ⟨t, m, s⟩ ⟨t1, m1, s1⟩ ⟨t2, m2, s2⟩ (by omega) hIa hla hlb w8
              rw [← hX] at hcall
              obtain ⟨rt, rn, rs⟩ := X
              subst hRv
              have Hcall := Lib.hid hcall
              clear hcall hX HR Hall Hre gd0 gd1 gd2 hop hIa
              go_wp2_with fail
              rw [← W6.out, ← W7.out, ← W8.out]
              refine Hcall.out.mono ?_
              rintro e w20 ⟨rfl, b20⟩
              have bl20 := BL.out.trans (b20.mono hlast)
              have x20 := X1.out.below bl20 zl
              have X20 := Lib.hid x20; have BW20 := Lib.hid (B1.out.trans (bl20.mono (by omega)))
              obtain ⟨o0, o1, o2, f0, f1, f2, lr⟩ := x20
              clear b20 bl20 ra0 ra1 ra2 rb0 rb1 rb2
              go_wp2
              change bodyPost _ _ _ _ _ (put3 w20 w.heap.size _ _ _)
              have s0 := fun v0 v1 v2 => (put3_box X20.out v0 v1 v2).c0
              have s1 := fun v0 v1 v2 => (put3_box X20.out v0 v1 v2).c1
              have s2 := fun v0 v1 v2 => (put3_box X20.out v0 v1 v2).c2
              refine bodyPost_ret (v := .tuple #[vv ⟨rt, rn, rs⟩, .int .i64 0]) ?_ rfl ⟨rfl, BW20.out.trans (put3_below _ _ _ _ _)⟩
              simp [results, Tryd.results11, go_sem, s0, s1, s2]
          · have gd2 : l.getD 2 v0 = v0 := by rw [List.getD_eq_getElem?_getD, List.getElem?_eq_none (by have := Hl.out; omega)]; rfl
            have d2 : decide ((2 : Int) < (k : Int)) = false := by simp; omega
            have d2' : decide (2 < k) = false := decide_eq_false hk3
            have raw := fun (x y z : Obj) (k : Nat) => (show (((w5.alloc x).alloc y).alloc z).cell? ⟨b, k, none⟩ = w5.cell? ⟨b, k, none⟩ by rw [World.cell?_alloc_lt _ _ _ (by simp; omega), World.cell?_alloc_lt _ _ _ (by simp; omega), World.cell?_alloc_lt _ _ _ hbw])
            have ra0 := (raw (.cells #[.bool t, .int .i64 m, .string ⟨s.toArray⟩] 27) (.cells #[.bool false, .int .i64 0, .string ⟨#[]⟩] 27) (.cells #[.bool false, .int .i64 0, .string ⟨#[]⟩] 27) (o + 1 * 3 )).trans hd0
            have ra1 := (raw (.cells #[.bool t, .int .i64 m, .string ⟨s.toArray⟩] 27) (.cells #[.bool false, .int .i64 0, .string ⟨#[]⟩] 27) (.cells #[.bool false, .int .i64 0, .string ⟨#[]⟩] 27) (o + 1 * 3 + 1)).trans hd1
            have ra2 := (raw (.cells #[.bool t, .int .i64 m, .string ⟨s.toArray⟩] 27) (.cells #[.bool false, .int .i64 0, .string ⟨#[]⟩] 27) (.cells #[.bool false, .int .i64 0, .string ⟨#[]⟩] 27) (o + 1 * 3 + 2)).trans hd2
            simp only [Nat.one_mul] at ra0 ra1 ra2
            obtain ⟨w6, hw6⟩ : ∃ w6, w6 = w5.alloc (.cells #[.bool t, .int .i64 m, .string ⟨s.toArray⟩] 27) := ⟨_, rfl⟩
            obtain ⟨w7, hw7⟩ : ∃ w7, w7 = w6.alloc (.cells #[.bool t1, .int .i64 m1, .string ⟨s1.toArray⟩] 27) := ⟨_, rfl⟩
            obtain ⟨w8, hw8⟩ : ∃ w8, w8 = w7.alloc (.cells #[.bool false, .int .i64 0, .string ⟨#[]⟩] 27) := ⟨_, rfl⟩
            have b58 : Below w5.heap.size w5 w8 := by rw [hw8, hw7, hw6]; exact (((Below.refl _ _).alloc (Nat.le_refl _) _).alloc (by simp) _).alloc (by simp; omega) _
            have hlast : w1.heap.size ≤ w8.heap.size := by have := b58.size; omega
            have BL := Lib.hid (B5.out.trans (b58.mono (by omega)))
            have W6 := Lib.hid hw6; have W7 := Lib.hid hw7; have W8 := Lib.hid hw8
            have hla : s.length ≤ 1000 := isV_len (v := ⟨t, m, s⟩) hVa
            have hlb : s1.length ≤ 1000 := isV_len (v := ⟨t1, m1, s1⟩) hVb
            clear raw z5' b58 hw6 hw7 hw8 hb hbw hc0' hV hVa hd0 hd1 hd2 hVb
            rcases (show op ≤ 8 ∨ (8 < op ∧ op < 14) ∨ (14 ≤ op ∧ op ≤ 17) ∨ 17 < op by omega) with hc | hc | hc | hc
            · have q1 : op ≤ 8 := hc
              have d8 : decide (op ≤ 8) = true := decide_eq_true q1
              obtain ⟨X, hX⟩ : ∃ X, X = rek op ⟨t, m, s⟩ ⟨t1, m1, s1⟩ v0 := ⟨_, rfl⟩
              have hRv : R = (X, 0) := by
                rw [HR.out, hX]
                unfold doV
                rw [if_pos Hall.out, if_pos Hre.out.symm, if_pos (by omega), gd0, gd1, gd2]
              have hcall := reckoned_c op ⟨t, m, s⟩ ⟨t1, m1, s1⟩ v0 (by omega) hIa hIb w8
              rw [← hX] at hcall
              obtain ⟨rt, rn, rs⟩ := X
              subst hRv
              have Hcall := Lib.hid hcall
              clear hcall hX HR Hall Hre gd0 gd1 gd2 hop hIa
              go_wp2_with fail
              rw [← W6.out, ← W7.out, ← W8.out]
              refine Hcall.out.mono ?_
              rintro e w20 ⟨rfl, b20⟩
              have bl20 := BL.out.trans (b20.mono hlast)
              have x20 := X1.out.below bl20 zl
              have X20 := Lib.hid x20; have BW20 := Lib.hid (B1.out.trans (bl20.mono (by omega)))
              obtain ⟨o0, o1, o2, f0, f1, f2, lr⟩ := x20
              clear b20 bl20 ra0 ra1 ra2
              go_wp2
              change bodyPost _ _ _ _ _ (put3 w20 w.heap.size _ _ _)
              have s0 := fun v0 v1 v2 => (put3_box X20.out v0 v1 v2).c0
              have s1 := fun v0 v1 v2 => (put3_box X20.out v0 v1 v2).c1
              have s2 := fun v0 v1 v2 => (put3_box X20.out v0 v1 v2).c2
              refine bodyPost_ret (v := .tuple #[vv ⟨rt, rn, rs⟩, .int .i64 0]) ?_ rfl ⟨rfl, BW20.out.trans (put3_below _ _ _ _ _)⟩
              simp [results, Tryd.results11, go_sem, s0, s1, s2]
            · obtain ⟨q1, q2⟩ := hc
              have d8 : decide (op ≤ 8) = false := decide_eq_false (by omega)
              have d14 : decide (14 ≤ op) = false := decide_eq_false (by omega)
              obtain ⟨X, hX⟩ : ∃ X, X = tex op ⟨t, m, s⟩ ⟨t1, m1, s1⟩ v0 := ⟨_, rfl⟩
              have hRv : R = (X, 0) := by
                rw [HR.out, hX]
                unfold doV
                rw [if_pos Hall.out, if_pos Hre.out.symm, if_neg (by omega), gd0, gd1, gd2]
              have hcall := texted_c op ⟨t, m, s⟩ ⟨t1, m1, s1⟩ v0 (by omega) hIa hla hlb w8
              rw [← hX] at hcall
              obtain ⟨rt, rn, rs⟩ := X
              subst hRv
              have Hcall := Lib.hid hcall
              clear hcall hX HR Hall Hre gd0 gd1 gd2 hop hIa
              go_wp2_with fail
              rw [← W6.out, ← W7.out, ← W8.out]
              refine Hcall.out.mono ?_
              rintro e w20 ⟨rfl, b20⟩
              have bl20 := BL.out.trans (b20.mono hlast)
              have x20 := X1.out.below bl20 zl
              have X20 := Lib.hid x20; have BW20 := Lib.hid (B1.out.trans (bl20.mono (by omega)))
              obtain ⟨o0, o1, o2, f0, f1, f2, lr⟩ := x20
              clear b20 bl20 ra0 ra1 ra2
              go_wp2
              change bodyPost _ _ _ _ _ (put3 w20 w.heap.size _ _ _)
              have s0 := fun v0 v1 v2 => (put3_box X20.out v0 v1 v2).c0
              have s1 := fun v0 v1 v2 => (put3_box X20.out v0 v1 v2).c1
              have s2 := fun v0 v1 v2 => (put3_box X20.out v0 v1 v2).c2
              refine bodyPost_ret (v := .tuple #[vv ⟨rt, rn, rs⟩, .int .i64 0]) ?_ rfl ⟨rfl, BW20.out.trans (put3_below _ _ _ _ _)⟩
              simp [results, Tryd.results11, go_sem, s0, s1, s2]
            · obtain ⟨q1, q2⟩ := hc
              have d8 : decide (op ≤ 8) = false := decide_eq_false (by omega)
              have d14 : decide (14 ≤ op) = true := decide_eq_true (by omega)
              have d17 : decide (op ≤ 17) = true := decide_eq_true (by omega)
              obtain ⟨X, hX⟩ : ∃ X, X = rek op ⟨t, m, s⟩ ⟨t1, m1, s1⟩ v0 := ⟨_, rfl⟩
              have hRv : R = (X, 0) := by
                rw [HR.out, hX]
                unfold doV
                rw [if_pos Hall.out, if_pos Hre.out.symm, if_pos (by omega), gd0, gd1, gd2]
              have hcall := reckoned_c op ⟨t, m, s⟩ ⟨t1, m1, s1⟩ v0 (by omega) hIa hIb w8
              rw [← hX] at hcall
              obtain ⟨rt, rn, rs⟩ := X
              subst hRv
              have Hcall := Lib.hid hcall
              clear hcall hX HR Hall Hre gd0 gd1 gd2 hop hIa
              go_wp2_with fail
              rw [← W6.out, ← W7.out, ← W8.out]
              refine Hcall.out.mono ?_
              rintro e w20 ⟨rfl, b20⟩
              have bl20 := BL.out.trans (b20.mono hlast)
              have x20 := X1.out.below bl20 zl
              have X20 := Lib.hid x20; have BW20 := Lib.hid (B1.out.trans (bl20.mono (by omega)))
              obtain ⟨o0, o1, o2, f0, f1, f2, lr⟩ := x20
              clear b20 bl20 ra0 ra1 ra2
              go_wp2
              change bodyPost _ _ _ _ _ (put3 w20 w.heap.size _ _ _)
              have s0 := fun v0 v1 v2 => (put3_box X20.out v0 v1 v2).c0
              have s1 := fun v0 v1 v2 => (put3_box X20.out v0 v1 v2).c1
              have s2 := fun v0 v1 v2 => (put3_box X20.out v0 v1 v2).c2
              refine bodyPost_ret (v := .tuple #[vv ⟨rt, rn, rs⟩, .int .i64 0]) ?_ rfl ⟨rfl, BW20.out.trans (put3_below _ _ _ _ _)⟩
              simp [results, Tryd.results11, go_sem, s0, s1, s2]
            · have q1 : 17 < op := hc
              have d8 : decide (op ≤ 8) = false := decide_eq_false (by omega)
              have d14 : decide (14 ≤ op) = true := decide_eq_true (by omega)
              have d17 : decide (op ≤ 17) = false := decide_eq_false (by omega)
              obtain ⟨X, hX⟩ : ∃ X, X = tex op ⟨t, m, s⟩ ⟨t1, m1, s1⟩ v0 := ⟨_, rfl⟩
              have hRv : R = (X, 0) := by
                rw [HR.out, hX]
                unfold doV
                rw [if_pos Hall.out, if_pos Hre.out.symm, if_neg (by omega), gd0, gd1, gd2]
              have hcall := texted_c op ⟨t, m, s⟩ ⟨t1, m1, s1⟩ v0 (by omega) hIa hla hlb w8
              rw [← hX] at hcall
              obtain ⟨rt, rn, rs⟩ := X
              subst hRv
              have Hcall := Lib.hid hcall
              clear hcall hX HR Hall Hre gd0 gd1 gd2 hop hIa
              go_wp2_with fail
              rw [← W6.out, ← W7.out, ← W8.out]
              refine Hcall.out.mono ?_
              rintro e w20 ⟨rfl, b20⟩
              have bl20 := BL.out.trans (b20.mono hlast)
              have x20 := X1.out.below bl20 zl
              have X20 := Lib.hid x20; have BW20 := Lib.hid (B1.out.trans (bl20.mono (by omega)))
              obtain ⟨o0, o1, o2, f0, f1, f2, lr⟩ := x20
              clear b20 bl20 ra0 ra1 ra2
              go_wp2
              change bodyPost _ _ _ _ _ (put3 w20 w.heap.size _ _ _)
              have s0 := fun v0 v1 v2 => (put3_box X20.out v0 v1 v2).c0
              have s1 := fun v0 v1 v2 => (put3_box X20.out v0 v1 v2).c1
              have s2 := fun v0 v1 v2 => (put3_box X20.out v0 v1 v2).c2
              refine bodyPost_ret (v := .tuple #[vv ⟨rt, rn, rs⟩, .int .i64 0]) ?_ rfl ⟨rfl, BW20.out.trans (put3_below _ _ _ _ _)⟩
              simp [results, Tryd.results11, go_sem, s0, s1, s2]
        · have gd1 : l.getD 1 v0 = v0 := by rw [List.getD_eq_getElem?_getD, List.getElem?_eq_none (by have := Hl.out; omega)]; rfl
          have gd2 : l.getD 2 v0 = v0 := by rw [List.getD_eq_getElem?_getD, List.getElem?_eq_none (by have := Hl.out; omega)]; rfl
          have d1 : decide ((1 : Int) < (k : Int)) = false := by simp; omega
          have d1' : decide (1 < k) = false := decide_eq_false hk2
          have d2 : decide ((2 : Int) < (k : Int)) = false := by simp; omega
          have d2' : decide (2 < k) = false := decide_eq_false (by omega)
          have raw := fun (x y z : Obj) (k : Nat) => (show (((w5.alloc x).alloc y).alloc z).cell? ⟨b, k, none⟩ = w5.cell? ⟨b, k, none⟩ by rw [World.cell?_alloc_lt _ _ _ (by simp; omega), World.cell?_alloc_lt _ _ _ (by simp; omega), World.cell?_alloc_lt _ _ _ hbw])
          obtain ⟨w6, hw6⟩ : ∃ w6, w6 = w5.alloc (.cells #[.bool t, .int .i64 m, .string ⟨s.toArray⟩] 27) := ⟨_, rfl⟩
          obtain ⟨w7, hw7⟩ : ∃ w7, w7 = w6.alloc (.cells #[.bool false, .int .i64 0, .string ⟨#[]⟩] 27) := ⟨_, rfl⟩
          obtain ⟨w8, hw8⟩ : ∃ w8, w8 = w7.alloc (.cells #[.bool false, .int .i64 0, .string ⟨#[]⟩] 27) := ⟨_, rfl⟩
          have b58 : Below w5.heap.size w5 w8 := by rw [hw8, hw7, hw6]; exact (((Below.refl _ _).alloc (Nat.le_refl _) _).alloc (by simp) _).alloc (by simp; omega) _
          have hlast : w1.heap.size ≤ w8.heap.size := by have := b58.size; omega
          have BL := Lib.hid (B5.out.trans (b58.mono (by omega)))
          have W6 := Lib.hid hw6; have W7 := Lib.hid hw7; have W8 := Lib.hid hw8
          have hla : s.length ≤ 1000 := isV_len (v := ⟨t, m, s⟩) hVa
          clear raw z5' b58 hw6 hw7 hw8 hb hbw hc0' hV hVa
          rcases (show op ≤ 8 ∨ (8 < op ∧ op < 14) ∨ (14 ≤ op ∧ op ≤ 17) ∨ 17 < op by omega) with hc | hc | hc | hc
          · have q1 : op ≤ 8 := hc
            have d8 : decide (op ≤ 8) = true := decide_eq_true q1
            obtain ⟨X, hX⟩ : ∃ X, X = rek op ⟨t, m, s⟩ v0 v0 := ⟨_, rfl⟩
            have hRv : R = (X, 0) := by
              rw [HR.out, hX]
              unfold doV
              rw [if_pos Hall.out, if_pos Hre.out.symm, if_pos (by omega), gd0, gd1, gd2]
            have hcall := reckoned_c op ⟨t, m, s⟩ v0 v0 (by omega) hIa (by unfold v0 I; dsimp only; omega) w8
            rw [← hX] at hcall
            obtain ⟨rt, rn, rs⟩ := X
            subst hRv
            have Hcall := Lib.hid hcall
            clear hcall hX HR Hall Hre gd0 gd1 gd2 hop hIa
            go_wp2_with fail
            rw [← W6.out, ← W7.out, ← W8.out]
            refine Hcall.out.mono ?_
            rintro e w20 ⟨rfl, b20⟩
            have bl20 := BL.out.trans (b20.mono hlast)
            have x20 := X1.out.below bl20 zl
            have X20 := Lib.hid x20; have BW20 := Lib.hid (B1.out.trans (bl20.mono (by omega)))
            obtain ⟨o0, o1, o2, f0, f1, f2, lr⟩ := x20
            clear b20 bl20
            go_wp2
            change bodyPost _ _ _ _ _ (put3 w20 w.heap.size _ _ _)
            have s0 := fun v0 v1 v2 => (put3_box X20.out v0 v1 v2).c0
            have s1 := fun v0 v1 v2 => (put3_box X20.out v0 v1 v2).c1
            have s2 := fun v0 v1 v2 => (put3_box X20.out v0 v1 v2).c2
            refine bodyPost_ret (v := .tuple #[vv ⟨rt, rn, rs⟩, .int .i64 0]) ?_ rfl ⟨rfl, BW20.out.trans (put3_below _ _ _ _ _)⟩
            simp [results, Tryd.results11, go_sem, s0, s1, s2]
          · obtain ⟨q1, q2⟩ := hc
            have d8 : decide (op ≤ 8) = false := decide_eq_false (by omega)
            have d14 : decide (14 ≤ op) = false := decide_eq_false (by omega)
            obtain ⟨X, hX⟩ : ∃ X, X = tex op ⟨t, m, s⟩ v0 v0 := ⟨_, rfl⟩
            have hRv : R = (X, 0) := by
              rw [HR.out, hX]
              unfold doV
              rw [if_pos Hall.out, if_pos Hre.out.symm, if_neg (by omega), gd0, gd1, gd2]
            have hcall := texted_c op ⟨t, m, s⟩ v0 v0 (by omega) hIa hla (by unfold v0; simp) w8
            rw [← hX] at hcall
            obtain ⟨rt, rn, rs⟩ := X
            subst hRv
            have Hcall := Lib.hid hcall
            clear hcall hX HR Hall Hre gd0 gd1 gd2 hop hIa
            go_wp2_with fail
            rw [← W6.out, ← W7.out, ← W8.out]
            refine Hcall.out.mono ?_
            rintro e w20 ⟨rfl, b20⟩
            have bl20 := BL.out.trans (b20.mono hlast)
            have x20 := X1.out.below bl20 zl
            have X20 := Lib.hid x20; have BW20 := Lib.hid (B1.out.trans (bl20.mono (by omega)))
            obtain ⟨o0, o1, o2, f0, f1, f2, lr⟩ := x20
            clear b20 bl20
            go_wp2
            change bodyPost _ _ _ _ _ (put3 w20 w.heap.size _ _ _)
            have s0 := fun v0 v1 v2 => (put3_box X20.out v0 v1 v2).c0
            have s1 := fun v0 v1 v2 => (put3_box X20.out v0 v1 v2).c1
            have s2 := fun v0 v1 v2 => (put3_box X20.out v0 v1 v2).c2
            refine bodyPost_ret (v := .tuple #[vv ⟨rt, rn, rs⟩, .int .i64 0]) ?_ rfl ⟨rfl, BW20.out.trans (put3_below _ _ _ _ _)⟩
            simp [results, Tryd.results11, go_sem, s0, s1, s2]
          · obtain ⟨q1, q2⟩ := hc
            have d8 : decide (op ≤ 8) = false := decide_eq_false (by omega)
            have d14 : decide (14 ≤ op) = true := decide_eq_true (by omega)
            have d17 : decide (op ≤ 17) = true := decide_eq_true (by omega)
            obtain ⟨X, hX⟩ : ∃ X, X = rek op ⟨t, m, s⟩ v0 v0 := ⟨_, rfl⟩
            have hRv : R = (X, 0) := by
              rw [HR.out, hX]
              unfold doV
              rw [if_pos Hall.out, if_pos Hre.out.symm, if_pos (by omega), gd0, gd1, gd2]
            have hcall := reckoned_c op ⟨t, m, s⟩ v0 v0 (by omega) hIa (by unfold v0 I; dsimp only; omega) w8
            rw [← hX] at hcall
            obtain ⟨rt, rn, rs⟩ := X
            subst hRv
            have Hcall := Lib.hid hcall
            clear hcall hX HR Hall Hre gd0 gd1 gd2 hop hIa
            go_wp2_with fail
            rw [← W6.out, ← W7.out, ← W8.out]
            refine Hcall.out.mono ?_
            rintro e w20 ⟨rfl, b20⟩
            have bl20 := BL.out.trans (b20.mono hlast)
            have x20 := X1.out.below bl20 zl
            have X20 := Lib.hid x20; have BW20 := Lib.hid (B1.out.trans (bl20.mono (by omega)))
            obtain ⟨o0, o1, o2, f0, f1, f2, lr⟩ := x20
            clear b20 bl20
            go_wp2
            change bodyPost _ _ _ _ _ (put3 w20 w.heap.size _ _ _)
            have s0 := fun v0 v1 v2 => (put3_box X20.out v0 v1 v2).c0
            have s1 := fun v0 v1 v2 => (put3_box X20.out v0 v1 v2).c1
            have s2 := fun v0 v1 v2 => (put3_box X20.out v0 v1 v2).c2
            refine bodyPost_ret (v := .tuple #[vv ⟨rt, rn, rs⟩, .int .i64 0]) ?_ rfl ⟨rfl, BW20.out.trans (put3_below _ _ _ _ _)⟩
            simp [results, Tryd.results11, go_sem, s0, s1, s2]
          · have q1 : 17 < op := hc
            have d8 : decide (op ≤ 8) = false := decide_eq_false (by omega)
            have d14 : decide (14 ≤ op) = true := decide_eq_true (by omega)
            have d17 : decide (op ≤ 17) = false := decide_eq_false (by omega)
            obtain ⟨X, hX⟩ : ∃ X, X = tex op ⟨t, m, s⟩ v0 v0 := ⟨_, rfl⟩
            have hRv : R = (X, 0) := by
              rw [HR.out, hX]
              unfold doV
              rw [if_pos Hall.out, if_pos Hre.out.symm, if_neg (by omega), gd0, gd1, gd2]
            have hcall := texted_c op ⟨t, m, s⟩ v0 v0 (by omega) hIa hla (by unfold v0; simp) w8
            rw [← hX] at hcall
            obtain ⟨rt, rn, rs⟩ := X
            subst hRv
            have Hcall := Lib.hid hcall
            clear hcall hX HR Hall Hre gd0 gd1 gd2 hop hIa
            go_wp2_with fail
            rw [← W6.out, ← W7.out, ← W8.out]
            refine Hcall.out.mono ?_
            rintro e w20 ⟨rfl, b20⟩
            have bl20 := BL.out.trans (b20.mono hlast)
            have x20 := X1.out.below bl20 zl
            have X20 := Lib.hid x20; have BW20 := Lib.hid (B1.out.trans (bl20.mono (by omega)))
            obtain ⟨o0, o1, o2, f0, f1, f2, lr⟩ := x20
            clear b20 bl20
            go_wp2
            change bodyPost _ _ _ _ _ (put3 w20 w.heap.size _ _ _)
            have s0 := fun v0 v1 v2 => (put3_box X20.out v0 v1 v2).c0
            have s1 := fun v0 v1 v2 => (put3_box X20.out v0 v1 v2).c1
            have s2 := fun v0 v1 v2 => (put3_box X20.out v0 v1 v2).c2
            refine bodyPost_ret (v := .tuple #[vv ⟨rt, rn, rs⟩, .int .i64 0]) ?_ rfl ⟨rfl, BW20.out.trans (put3_below _ _ _ _ _)⟩
            simp [results, Tryd.results11, go_sem, s0, s1, s2]
      · have dre : ((re : Int) != 0) = true := by simpa using he
        have hRv : R = (v0, re) := by
          rw [HR.out]
          unfold doV
          rw [if_pos Hall.out, if_neg (by rw [← Hre.out]; exact he), ← Hre.out]
        subst hRv
        have x5 := X1.out.below B5.out (by omega)
        have X5 := Lib.hid x5
        obtain ⟨o0, o1, o2, f0, f1, f2, lr⟩ := x5
        have bw5 := B1.out.trans (B5.out.mono (by omega))
        clear he
        go_wp2
        change bodyPost _ _ _ _ _ (put3 w5 w.heap.size _ _ _)
        have s0 := fun v0 v1 v2 => (put3_box X5.out v0 v1 v2).c0
        have s1 := fun v0 v1 v2 => (put3_box X5.out v0 v1 v2).c1
        have s2 := fun v0 v1 v2 => (put3_box X5.out v0 v1 v2).c2
        refine bodyPost_ret (v := .tuple #[vv v0, .int .i64 (re : Int)]) ?_ rfl ⟨rfl, bw5.trans (put3_below _ _ _ _ _)⟩
        simp [results, Tryd.results11, go_sem, s0, s1, s2, v0]
end Go.Proofs.YtkkjgiejnblopaaDoor
