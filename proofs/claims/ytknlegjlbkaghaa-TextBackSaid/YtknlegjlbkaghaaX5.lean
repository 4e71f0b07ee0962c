/-
  The document's Read; Pieces (are rows alike?); text's Write, the document's Write: what each call returns and leaves.
-/
import Derived.Test.YtknlegjlbkaghaaX4
namespace Go.Proofs.Ytknlegjlbkaghaa
open Go.RowKit Go.Maps

theorem PLS.pl {w : World} {base : Nat} {A : Option Addr} {n c : Nat} {l : List (Nat × List (List (List UInt8)))} (h : PLS w (Fr base w) A n c l) : PL w w.heap.size A n c l := h.keep (stays_weak fr_lt)
theorem RLS.rl' {w : World} {base : Nat} {A : Option Addr} {n c : Nat} {l : List (List (List UInt8))} (h : RLS w (Fr base w) A n c l) : RL w w.heap.size A n c l := RLS.keep h (stays_weak fr_lt)
def RetR2 (w : World) (L : List (List (List UInt8))) (e : Ending) (w' : World) : Prop :=
  ∃ A c, e = .returned (.tuple #[.slice A L.length c, .int .i64 0]) ∧ RL w' w'.heap.size A L.length c L ∧ Below w.heap.size w w'

set_option maxHeartbeats 1000000 in
set_option maxRecDepth 100000 in
/-- the document's Read -/
theorem rread_ok (A : Option Addr) (n c : Nat) (l : List UInt8) (f t : Nat) (w : World) (hr : Rb w w.heap.size A n c l) (hn : n ≤ 1000000) (hft : f ≤ t) (htn : t ≤ n) :
    Calls Try.prog 16 #[.slice A n c, .int .i64 (f : Int), .int .i64 (t : Int)] w (RetR2 w ((Tm.rd l f t).map Tm.rc)) := by
  have hls : (Tm.ls l).length ≤ n := by have := Tm.ls_len l; have := hr.len; omega
  have Hr := Lib.hid hr; clear hr
  have d1 : decide ((f : Int) < 0) = false := by simp
  have d2 : decide (t < f) = false := by simp; omega
  have d3 : decide (n < t) = false := by simp; omega
  go_enter Try.func16, Try.ntmps16
  go_wp2_with fail
  refine (rscan_c A n c l _ Hr.out hn).mono ?_
  rintro e w1 ⟨A1, c1, rfl, hp1, hb1⟩
  have hp1' := hp1.pl
  have HP := Lib.hid hp1'; clear hp1 hp1'
  go_wp2_with fail
  refine (rof_c A1 (Tm.ls l).length c1 _ f t _ HP.out (by omega) (by rw [Tm.all_pc, List.length_map]; omega)).mono ?_
  rw [Tm.btw_pc]
  rintro e w2 ⟨A2, c2, rfl, hp2, hb2⟩
  have b2 := hb1.trans (hb2.mono hb1.size)
  have HP2 := Lib.hid hp2; clear hp2
  go_wp2
  go_ret2
  exact ⟨A2, c2, by rw [List.length_map]; rfl, HP2.out, b2⟩
set_option maxRecDepth 100000 in
theorem rread_err (A : Option Addr) (n c : Nat) (f t : Int) (w : World) (h : f < 0 ∨ t < f ∨ (n : Int) < t) :
    Calls Try.prog 16 #[.slice A n c, .int .i64 f, .int .i64 t] w fun e w' => e = .returned (.tuple #[.slice none 0 0, .int .i64 1]) ∧ w = w' := by
  rcases bad_cases h with d1 | ⟨d1, d2⟩ | ⟨d1, d2, d3⟩ <;> clear h
  all_goals
    go_enter Try.func16, Try.ntmps16
    go_wp2
    go_ret2
    exact ⟨rfl, rfl⟩

def PieceRel (l : List (Nat × List (List (List UInt8)))) (A A' : Option Addr) (n c c' : Nat) (w : World) (t : Value) (wr : World) : Prop :=
  ∃ k : Nat, t = .int .i64 (k : Int) ∧ k ≤ n ∧ PL wr wr.heap.size A n c l ∧ PL wr wr.heap.size A' n c' l ∧ ∃ q, wr = w.drewN q
theorem RL.drewN {w : World} {B : Nat} {A : Option Addr} {n c : Nat} {l : List (List (List UInt8))} (h : RL w B A n c l) (k : Nat) : RL (w.drewN k) B A n c l := h

set_option maxRecDepth 100000 in
set_option maxHeartbeats 2000000 in
/-- Pieces: rows of the same pieces are alike. -/
theorem pieces_c (A A' : Option Addr) (n c c' : Nat) (l : List (Nat × List (List (List UInt8)))) (w : World) (h1 : PL w w.heap.size A n c l) (h2 : PL w w.heap.size A' n c' l) (hn : n ≤ 1000000) (hz : ∀ p ∈ l, p.2.length ≤ 1000000 ∧ ∀ r ∈ p.2, r.length ≤ 1000000) :
    Calls Try.prog 12 #[.slice A n c, .slice A' n c'] w (RetQ w (.bool true)) := by
  have H1 := Lib.hid h1; have H2 := Lib.hid h2; have Hz := Lib.hid hz; clear h1 h2 hz
  go_enter Try.func12, Try.ntmps12
  go_wp2
  go_loopw [5] (fun t wr => PieceRel l A A' n c c' w t wr) (fun t _ => n - (intOf t).toNat)
  case atStart => exact ⟨0, rfl, Nat.zero_le _, H1.out, H2.out, 0, rfl⟩
  case round =>
    obtain ⟨k, rfl, hk, g1, g2, hq⟩ := hrel
    have Hq := Lib.hid hq; clear hq
    by_cases hlt : k < n
    · obtain ⟨b1, o1, p, D1, m1, d1, rfl, hb1, hc1, hc1', hx1, hr1⟩ := g1.at_ hlt
      obtain ⟨b2, o2, p2, D2, m2, d2, rfl, hb2, hc2, hc2', hx2, hr2⟩ := g2.at_ hlt
      rw [hx1] at hx2
      injection hx2 with hx2
      subst hx2
      have e1 := hr1.len
      have e2 := hr2.len
      obtain ⟨hzp, hzr⟩ := Hz.out p (List.mem_of_getElem? hx1)
      obtain ⟨P1, P2⟩ := p
      dsimp only at e1 e2 hr1 hr2 hc1 hc2 hzp hzr
      subst e1
      obtain rfl : P2.length = m2 := e2
      have hnb : ((P1 : Int) != (P1 : Int)) = false := by simp
      have G1 := Lib.hid g1; have G2 := Lib.hid g2; have R1 := Lib.hid hr1.rl; have R2 := Lib.hid hr2.rl; have Hzr := Lib.hid hzr; clear hx1 g1 g2 hr1 hr2 hzr
      go_wp2_with fail
      go_quiet ((go_at_call 17; exact Calls.quiet_of (recs_c D1 D2 P2.length d1 d2 P2 _ (R1.out.drewN _) (R2.out.drewN _) hzp Hzr.out)))
      go_wp2
      go_roundw
      case rel => exact ⟨k + 1, by go_num, by omega, G1.out, G2.out, by obtain ⟨q, hq⟩ := Hq.out; exact ⟨_, by rw [hq, World.drewN_drewN]⟩⟩
      case measure => simp [intOf]; omega
    · clear g1 g2
      go_wp2
      go_ret
      exact ⟨rfl, Hq.out⟩

/-- An append of a string whose outcome has a name. -/
theorem U8.wpAppStrTo {P : Program} {t e s : TypeId} (u : U8 P t e s) {w : World} {ops : Array Oper} {rest : List Oper} {o : Oper} {a : Act} {Q : Exit → Act → World → Prop} (hgd : o.guard = none) (x y : Operand)
    (ho : o.op = .call { callee := .builtin .append, args := #[x, y], argTypes := #[t, s] })
    {base c : Nat} {A : Option Addr} {l r N : List UInt8} (hx : a.eval x = .slice A l.length c) (hy : a.eval y = .string ⟨r.toArray⟩) (hown : Own w e base A c l) (hN : l ++ r = N)
    (hsm : N.length ≤ 140737488355328) (hbase : base ≤ w.heap.size)
    (h : ∀ A' c' w', Own w' e base A' c' N → Below base w w' → wpList P ops Q rest (a.put o.dst (.slice A' N.length c')) w') : wpList P ops Q (o :: rest) a w := by
  subst hN
  refine u.wpAppStr hgd x y ho hx hy hown ?_ hbase fun A' c' w' h1 h2 => ?_
  · rw [List.length_append] at hsm
    exact hsm
  · have := h A' c' w' (by simpa using h1) h2
    simpa using this

def RetW (w : World) (t : List UInt8 × Nat) (e : Ending) (w' : World) : Prop :=
  ∃ A c, e = .returned (.tuple #[.slice A t.1.length c, .int .i64 (t.2 : Int)]) ∧ Own w' 5 w.heap.size A c t.1 ∧ Below w.heap.size w w'
def WriteRel (base n : Nat) (w : World) (l : List (List (List UInt8))) (o i : Value) (wr : World) : Prop :=
  ∃ A c M, ∃ k : Nat, o = .slice A M.length c ∧ i = .int .i64 (k : Int) ∧ k ≤ n ∧ Own wr 5 base A c M ∧ M = Tm.wr (l.take k) ∧ (l.take k).all Tm.ok = true ∧ Below base w wr

set_option maxRecDepth 100000 in
set_option maxHeartbeats 2000000 in
/-- Write -/
theorem write_c (A : Option Addr) (n c : Nat) (l : List (List (List UInt8))) (w : World) (hr : RL w w.heap.size A n c l) (hn : n ≤ 1000000) (hz : (Tm.wr l).length ≤ 1000000) :
    Calls Try.prog 19 #[.slice A n c] w (RetW w (Tm.wrS l)) := by
  have hl := hr.len
  have Hr := Lib.hid hr; have Hl := Lib.hid hl; clear hr hl
  go_enter Try.func19, Try.ntmps19
  go_wp2
  go_loopw [4, 9] (fun o i wr => WriteRel w.heap.size n w l o i wr) (fun _ i _ => n - (intOf i).toNat)
  case atStart => exact ⟨none, 0, [], 0, rfl, rfl, Nat.zero_le _, Own.nil _ _ _, rfl, rfl, Below.refl _ _⟩
  case round =>
    obtain ⟨A3, c3, M, k, rfl, rfl, hk, hown, hM, hok, hbel⟩ := hrel
    have z3 := hbel.size
    rename World => wr
    by_cases hlt : k < n
    · obtain ⟨b, off, D, m, d, r, rfl, hb, hcell, hx, _, hrec⟩ := (Hr.out.below hbel).at_ hlt
      have hml : M.length ≤ 1000000 := by rw [hM]; exact Nat.le_trans (Tm.wr_take l k) hz
      cases hokr : Tm.ok r with
      | false =>
        have Hf := Lib.hid (Tm.wrS_err (Tm.oks_not l k r hx hokr))
        have Hk := Lib.hid hokr.symm; have Hrec := Lib.hid hrec; clear hown hM hok hx hokr hrec
        go_wp2_with fail
        refine (isLine_c D m d _ r _ Hrec.out false Hk.out).mono ?_
        rintro e w' ⟨rfl, rfl⟩
        go_wp2
        go_ret2
        rw [Hf.out]
        exact ⟨none, 0, rfl, Own.nil _ _ _, hbel⟩
      | true =>
        obtain ⟨s, rfl, hs1, _⟩ := Tm.ok_inv hokr
        have hm : m = 1 := by have := lvs_num hrec; simpa using this.symm
        subst hm
        obtain ⟨b2, off2, x, rfl, hb2, hc2, hx2, _⟩ := lvs_at hrec (k := 0) (by omega)
        obtain rfl : s = x := by simpa using hx2
        rw [Nat.add_zero] at hc2
        obtain ⟨M2, hM2⟩ : ∃ M2, M ++ s = M2 := ⟨_, rfl⟩
        obtain ⟨M3, hM3⟩ : ∃ M3, M2 ++ [10] = M3 := ⟨_, rfl⟩
        have hfin : M3 = Tm.wr (l.take (k + 1)) := by rw [Tm.wr_next l k s hx, ← hM, hM2, hM3]
        have q2 : M2.length ≤ 1001000 := by rw [← hM2, List.length_append]; omega
        have q3 : M3.length ≤ 1001001 := by rw [← hM3, List.length_append]; simp; omega
        have Hok2 := Lib.hid (Tm.oks_next l k [s] hx hokr hok)
        have Hfin := Lib.hid hfin; have H2 := Lib.hid hM2; have H3 := Lib.hid hM3; have Hk := Lib.hid hokr.symm; have Hrec := Lib.hid hrec; have Hown := Lib.hid hown
        clear hown hM hok hx hokr hrec hx2 hM2 hM3 hfin
        go_wp2_with fail
        refine (isLine_c _ 1 d _ [s] _ Hrec.out true Hk.out).mono ?_
        rintro e w' ⟨rfl, rfl⟩
        go_wp2_with (at_builtin; go_must (refine bty.wpAppStrTo rfl (.tmp 16) (.tmp 19) rfl (l := M) (r := s) (N := M2) rfl rfl Hown.out H2.out ?hs1 ?hs2 ?_))
        case hs1 => omega
        case hs2 => omega
        intro A5 c5 w5 hown5 hb5
        have z5 := hb5.size
        have Hown5 := Lib.hid hown5; clear hown5
        go_wp2_with (at_builtin; go_must (refine bty.wpAppTo rfl (.tmp 21) (.tmp 22) rfl (l := M2) (r := [10]) (N := M3) rfl rfl (Hown5.out.alloc _) (Rb.oneI _ _ _ 10 rfl) H3.out ?hs3 ?hs4 ?_))
        case hs3 => omega
        case hs4 => simp; omega
        intro A6 c6 w6 hown6 hg6
        have hg6' : Grows w5 w6 A5 A6 := Grows.pre ((Below.refl _ _).alloc (Nat.le_refl _) _) hg6
        have b6 := (hbel.trans hb5).trans (hg6'.below Hown5.out (by omega))
        have Hown6 := Lib.hid hown6; clear hown6 hg6 hg6'
        go_wp2
        go_roundw
        case rel => exact ⟨A6, c6, M3, k + 1, rfl, by go_num, hlt, Hown6.out, Hfin.out, Hok2.out, b6⟩
        case measure => simp [intOf]; omega
    · have e : l.take k = l := List.take_of_length_le (by have := Hl.out; omega)
      rw [e] at hM hok
      have Hf := Lib.hid (Tm.wrS_ok hok)
      subst hM
      have Hown := Lib.hid hown; clear hown hok e
      go_wp2
      go_ret2
      rw [Hf.out]
      exact ⟨A3, c3, rfl, Hown.out, hbel⟩

theorem cell_ten {x : UInt8} (h : x ≠ 10) : decide ((x.toNat : Int) = 10) = false := by
  have := ten_ne h
  simpa using this
def NoTen (s : List UInt8) (n : Nat) (t : Value) : Prop := ∃ k : Nat, t = .int .i64 (k : Int) ∧ k ≤ n ∧ ∀ x ∈ s.take k, x ≠ 10

set_option maxRecDepth 100000 in
set_option maxHeartbeats 4000000 in
/-- the document's Write -/
theorem rwrite_c (A : Option Addr) (n c : Nat) (l : List (List (List UInt8))) (w : World) (hr : RL w w.heap.size A n c l) (hn : n ≤ 1000000) (hz : (Tm.wr l).length ≤ 1000000) :
    Calls Try.prog 20 #[.slice A n c] w (RetW w (Tm.wrS l)) := by
  have hl := hr.len
  have Hr := Lib.hid hr; have Hl := Lib.hid hl; clear hr hl
  go_enter Try.func20, Try.ntmps20
  go_wp2
  go_loopw [4, 5] (fun o i wr => WriteRel w.heap.size n w l o i wr) (fun _ i _ => n - (intOf i).toNat)
  case atStart => exact ⟨some ⟨w.heap.size, 0, none⟩, 0, [], 0, rfl, rfl, Nat.zero_le _, Own.made0 _ _, rfl, rfl, (Below.refl _ _).alloc (Nat.le_refl _) _⟩
  case round =>
    obtain ⟨A3, c3, M, k, rfl, rfl, hk, hown, hM, hok, hbel⟩ := hrel
    have z3 := hbel.size
    rename World => wr
    by_cases hlt : k < n
    · obtain ⟨b, off, D, m, d, r, rfl, hb, hcell, hx, _, hrec⟩ := (Hr.out.below hbel).at_ hlt
      have hml : M.length ≤ 1000000 := by rw [hM]; exact Nat.le_trans (Tm.wr_take l k) hz
      have hrl := lvs_num hrec
      by_cases hm1 : m = 1
      · subst hm1
        obtain ⟨b2, off2, s, rfl, hb2, hc2, hx2, _⟩ := lvs_at hrec (k := 0) (by omega)
        rw [Nat.add_zero] at hc2
        obtain rfl : r = [s] := by
          match r, hrl, hx2 with
          | [y], _, hx2 => simp at hx2; rw [hx2]
        by_cases hbig : 1000 < s.length
        · have Hf := Lib.hid (Tm.wrS_err (Tm.oks_not l k [s] hx (by rw [Tm.ok_one, decide_eq_false (by omega)]; rfl)))
          have dg : decide ((1000 : Int) < (s.length : Int)) = true := by simp; omega
          clear hown hM hok hx hrec hx2 hrl
          go_wp2
          go_ret2
          rw [Hf.out]
          exact ⟨none, 0, rfl, Own.nil _ _ _, hbel⟩
        · have dg : decide ((1000 : Int) < (s.length : Int)) = false := by simp; omega
          obtain ⟨X, hX⟩ : ∃ X : ByteArray, X = ⟨s.toArray⟩ := ⟨_, rfl⟩
          have hXs : X.size = s.length := by rw [hX]; rfl
          have hXl : X.data.toList = s := by rw [hX]
          rw [← hX] at hc2
          have dg2 : decide ((1000 : Int) < (X.size : Int)) = false := by rw [hXs]; exact dg
          have hX1 : X.size ≤ 1000 := by omega
          have Hown := Lib.hid hown; have HM := Lib.hid hM; have Hok := Lib.hid hok; have Hx := Lib.hid hx; have HX := Lib.hid hX; have HXl := Lib.hid hXl; have HXs := Lib.hid hXs
          clear hown hM hok hx hX hXl hXs hrec hx2 hrl dg
          go_wp2
          go_loop [7] (fun t => NoTen s X.size t) (fun t => X.size - (intOf t).toNat)
          case atStart => exact ⟨0, rfl, Nat.zero_le _, by simp⟩
          case round =>
            obtain ⟨j, rfl, hj, hno⟩ := hrel
            have Hno := Lib.hid hno; clear hno
            by_cases hjt : j < X.size
            · have hsj : s[j]? = some X[j] := by
                rw [← HXl.out, Array.getElem?_toList]
                exact Array.getElem?_eq_getElem hjt
              by_cases h10 : X[j] = 10
              · have Hf := Lib.hid (Tm.wrS_err (Tm.oks_not l k [s] Hx.out (by
                  rw [Tm.ok_one]
                  have : s.contains 10 = true := by rw [List.contains_iff_mem]; exact List.mem_of_getElem? (h10 ▸ hsj)
                  rw [this]; simp)))
                have hb10 : ((X[j].toNat : Int) == 10) = true := by rw [h10]; rfl
                clear h10 hsj
                go_wp2
                go_ret2
                rw [Hf.out]
                exact ⟨none, 0, rfl, Own.nil _ _ _, hbel⟩
              · have hb10 := ten_ne h10
                have hno2 : ∀ x ∈ s.take (j + 1), x ≠ 10 := fun x hx => by
                  rw [List.take_add_one, hsj, List.mem_append] at hx
                  rcases hx with hx | hx
                  · exact Hno.out x hx
                  · simp at hx; rw [hx]; exact h10
                have Hno2 := Lib.hid hno2; clear hno2 h10 hsj
                go_wp2
                go_round
                case rel => exact ⟨j + 1, by go_num, hjt, Hno2.out⟩
                case measure => simp [intOf]; omega
            · have hno : ∀ x ∈ s, x ≠ 10 := by
                have := Hno.out
                rwa [List.take_of_length_le (by have := HXs.out; omega)] at this
              have hokr : Tm.ok [s] = true := by
                rw [Tm.ok_one]
                simp
                exact ⟨by have := HXs.out; omega, fun h => hno 10 h rfl⟩
              obtain ⟨M2, hM2⟩ : ∃ M2, M ++ s = M2 := ⟨_, rfl⟩
              obtain ⟨M3, hM3⟩ : ∃ M3, M2 ++ [10] = M3 := ⟨_, rfl⟩
              have hfin : M3 = Tm.wr (l.take (k + 1)) := by rw [Tm.wr_next l k s Hx.out, ← HM.out, hM2, hM3]
              have hs1000 : s.length ≤ 1000 := by have := HXs.out; omega
              have q2 : M2.length ≤ 1001000 := by rw [← hM2, List.length_append]; omega
              have q3 : M3.length ≤ 1001001 := by rw [← hM3, List.length_append]; simp; omega
              have Hok2 := Lib.hid (Tm.oks_next l k [s] Hx.out hokr Hok.out)
              have Hfin := Lib.hid hfin; have H2 := Lib.hid hM2; have H3 := Lib.hid hM3
              clear hM2 hM3 hfin hokr hno
              go_wp2_with (at_builtin; go_must (refine bty.wpAppStrTo rfl (.tmp 47) (.tmp 48) rfl (l := M) (r := s) (N := M2) rfl (congrArg Value.string HX.out) Hown.out H2.out ?hs1 z3 ?_))
              case hs1 => omega
              intro A5 c5 w5 hown5 hb5
              have z5 := hb5.size
              have Hown5 := Lib.hid hown5; clear hown5
              go_wp2_with (at_builtin; go_must (refine bty.wpAppTo rfl (.tmp 50) (.tmp 51) rfl (l := M2) (r := [10]) (N := M3) rfl rfl (Hown5.out.alloc _) (Rb.oneI _ _ _ 10 rfl) H3.out ?hs3 ?hs4 ?_))
              case hs3 => omega
              case hs4 => simp; omega
              intro A6 c6 w6 hown6 hg6
              have hg6' : Grows w5 w6 A5 A6 := Grows.pre ((Below.refl _ _).alloc (Nat.le_refl _) _) hg6
              have b6 := (hbel.trans hb5).trans (hg6'.below Hown5.out (by omega))
              have Hown6 := Lib.hid hown6; clear hown6 hg6 hg6'
              go_wp2
              go_roundw
              case rel => exact ⟨A6, c6, M3, k + 1, rfl, by go_num, hlt, Hown6.out, Hfin.out, Hok2.out, b6⟩
              case measure => simp [intOf]; omega
      · have Hf := Lib.hid (Tm.wrS_err (Tm.oks_not l k r hx (Tm.ok_len (by omega))))
        have dm : ((m : Int) != 1) = true := by simp; omega
        clear hown hM hok hx hrec hrl
        go_wp2
        go_ret2
        rw [Hf.out]
        exact ⟨none, 0, rfl, Own.nil _ _ _, hbel⟩
    · have e : l.take k = l := List.take_of_length_le (by have := Hl.out; omega)
      rw [e] at hM hok
      have Hf := Lib.hid (Tm.wrS_ok hok)
      subst hM
      have Hown := Lib.hid hown; clear hown hok e
      go_wp2
      go_ret2
      rw [Hf.out]
      exact ⟨A3, c3, rfl, Hown.out, hbel⟩
end Go.Proofs.Ytknlegjlbkaghaa
