/-
  The live question of threshinglaw09; contracts over any width, any widths; Pieces (are rows alike?).
-/
import Derived.Test.YtjdmpnonjlffaaaY5
import Derived.Test.YtjdmpnonjlffaaaY9
import Derived.Test.YtjdmpnonjlffaaaYa
import Derived.Lib.SlBytesConst
namespace Go.Proofs.Ytjdmpnonjlffaaa
open Go.RowKit Go.Maps

/-- A constant's row of bytes. -/
theorem Rb.lit (w : World) (e : TypeId) (fz : Nat × Nat) (cs : Array Value) (l : List UInt8) (n : Nat) (h : cs.toList = bvs l) (hn : l.length = n) (hl : n ≤ 1000000) : Rb (w.alloc (.cells cs e fz)) (w.heap.size + 1) (some ⟨w.heap.size, 0, none⟩) n n l := by
  refine ⟨hn, Nat.le_refl _, by simp only [maxLen]; omega, fun _ => ⟨_, _, rfl, by omega, fun j x hx => ?_⟩⟩
  rw [cell_of_row (w.alloc (.cells cs e fz)) w.heap.size (0 + j) cs e fz (by show (w.heap.push _)[w.heap.size]? = _; simp), Nat.zero_add, ← Array.getElem?_toList, h]
  simp [bvs, hx]

theorem cells_c (l : List UInt8) (A : Option Addr) (m c : Nat) (ws : List Int) (w : World) (hr : Rc 1 w w.heap.size A m c (ivs ws)) :
    Calls Try.prog 21 #[.string ⟨l.toArray⟩, .slice A m c] w (RetC w (Fx.ceS ws l)) := by
  have hl : ws.length = m := by have := hr.len1; rw [ivs_length] at this; exact this
  have hsz : (ByteArray.mk l.toArray).size = l.length := rfl
  cases hw : Fx.wok ws with
  | false =>
    rw [Fx.ceS_arg hw]
    exact (cells_arg _ A m c _ ws hw w hr).mono fun e w' ⟨he, hw⟩ => ⟨none, 0, he, Rc.nil 1 _ _, hw ▸ Below.refl _ _⟩
  | true =>
    rcases Nat.lt_trichotomy l.length (Fx.pre ws m) with h1 | h1 | h1
    · rw [Fx.ceS_short hw (by rw [hl]; exact h1)]
      exact (cells_short _ A m c _ ws hw (by rw [hsz]; exact h1) w hr).mono fun e w' ⟨he, hw⟩ => ⟨none, 0, he, Rc.nil 1 _ _, hw ▸ Below.refl _ _⟩
    · rw [Fx.ceS_ok hw (by rw [hl]; exact h1.symm), hl]
      exact cells_ok l A m c ws hw h1.symm w hr
    · rw [Fx.ceS_large hw (by rw [hl]; exact h1)]
      exact (cells_large _ A m c _ ws hw (by rw [hsz]; exact h1) w hr).mono fun e w' ⟨he, hw⟩ => ⟨none, 0, he, Rc.nil 1 _ _, hw ▸ Below.refl _ _⟩
theorem rcells_any (l : List UInt8) (A : Option Addr) (m c : Nat) (ws : List Int) (w : World) (hr : Rc 1 w w.heap.size A m c (ivs ws)) :
    Calls Try.prog 22 #[.string ⟨l.toArray⟩, .slice A m c] w (RetC w (Fx.ceS ws l)) := by
  cases hw : Fx.wok ws with
  | false =>
    rw [Fx.ceS_arg hw]
    exact (rcells_arg _ A m c _ ws hw w hr).mono fun e w' ⟨he, hw⟩ => ⟨none, 0, he, Rc.nil 1 _ _, hw ▸ Below.refl _ _⟩
  | true => exact rcells_c l A m c ws hw w hr

/-- Whatever width: the pieces, the number of bytes, what is told. -/
structure ScanAny (l : List UInt8) (k : Int) (P : List (Nat × List UInt8)) (V E : Nat) : Prop where
  len : P.length ≤ l.length
  scan : ∀ W A n c, Rb W W.heap.size A n c l → n ≤ 1000000 → Calls Try.prog 11 #[.slice A n c, .int .i64 k] W fun e w' => ∃ A c, e = .returned (.tuple #[.slice A P.length c, .int .i64 (V : Int), .int .i64 (E : Int)]) ∧ PL w' w'.heap.size A P.length c (P.map Tm.pc) ∧ Below W.heap.size W w'
  rscan : ∀ W A n c, Rb W W.heap.size A n c l → n ≤ 1000000 → Calls Try.prog 12 #[.slice A n c, .int .i64 k] W fun e w' => ∃ A c, e = .returned (.tuple #[.slice A P.length c, .int .i64 (V : Int), .int .i64 (E : Int)]) ∧ PL w' w'.heap.size A P.length c (P.map Tm.pc) ∧ Below W.heap.size W w'
  canon : ∀ W A n c B o, Rb W B A n c l → n ≤ 1000000 → o = ((E : Int) == 0) → Calls Try.prog 14 #[.slice A n c, .int .i64 k] W fun e w' => e = .returned (.bool o) ∧ W = w'
theorem scE_zero (n k : Nat) : ((scE n k : Nat) : Int) == 0 ↔ n / k * k = n := by
  have := Fx.vs_le n k
  unfold scE
  split
  · simp; omega
  · simp; omega
theorem isw_nat {k : Int} (h : isw k = true) : ∃ K : Nat, k = (K : Int) ∧ 1 ≤ K ∧ K ≤ 1000 := by
  unfold isw at h
  simp at h
  exact ⟨k.toNat, by omega, by omega, by omega⟩
theorem scan_any (l : List UInt8) (k : Int) : ∃ P V E, ScanAny l k P V E ∧ (∀ K : Nat, isw k = true → k = (K : Int) → P = Fx.ch l K ∧ V = l.length / K * K ∧ E = scE l.length K) ∧ (isw k = false → P = [] ∧ E = 1) := by
  cases hk : isw k with
  | false =>
    refine ⟨[], 0, 1, ⟨Nat.zero_le _, fun W A n c _ _ => ?_, fun W A n c _ _ => ?_, fun W A n c B o _ _ ho => ?_⟩, fun K h => (by cases h), fun _ => ⟨rfl, rfl⟩⟩
    · exact (scan_arg A n c k hk W).mono fun e w' ⟨he, hw⟩ => ⟨none, 0, he, PLS.nil, hw ▸ Below.refl _ _⟩
    · exact (rscan_arg A n c k hk W).mono fun e w' ⟨he, hw⟩ => ⟨none, 0, he, PLS.nil, hw ▸ Below.refl _ _⟩
    · obtain rfl : o = false := by rw [ho]; rfl
      exact canon_no A n c k hk W
  | true =>
    obtain ⟨K, rfl, h1, h2⟩ := isw_nat hk
    refine ⟨Fx.ch l K, l.length / K * K, scE l.length K, ⟨Fx.ch_le l K, fun W A n c hr hn => ?_, fun W A n c hr hn => ?_, fun W A n c B o hr hn ho => ?_⟩, fun K' _ e => ?_, fun h => (by cases h)⟩
    · exact (scan_c A n c K l W hr hn h1 h2).mono fun e w' ⟨A, c, he, hp, hb⟩ => ⟨A, c, he, hp.pl, hb⟩
    · exact (rscan_c A n c K l W hr hn h1 h2).mono fun e w' ⟨A, c, he, hp, hb⟩ => ⟨A, c, he, hp.pl, hb⟩
    · refine canon_c A n c K o ?_ W hn h1 h2
      rw [ho, hr.len]
      by_cases h : n / K * K = n
      · rw [decide_eq_true h]; exact (scE_zero n K).2 h
      · rw [decide_eq_false h]
        cases e : (((scE n K : Nat) : Int) == 0) with
        | false => rfl
        | true => exact absurd ((scE_zero n K).1 e) h
    · obtain rfl : K' = K := by omega
      exact ⟨rfl, rfl, rfl⟩

/-- Whatever split: what it has, what is told. -/
structure ReadAny (l : List UInt8) (f t k : Int) (L : List (List (List UInt8))) (E : Nat) : Prop where
  len : L.length ≤ l.length
  small : ∀ r ∈ L, r.length ≤ 1000000
  read : ∀ W A c, Rb W W.heap.size A l.length c l → Calls Try.prog 15 #[.slice A l.length c, .int .i64 f, .int .i64 t, .int .i64 k] W (RetR2 W L E)
  rread : ∀ W A c, Rb W W.heap.size A l.length c l → Calls Try.prog 16 #[.slice A l.length c, .int .i64 f, .int .i64 t, .int .i64 k] W (RetR2 W L E)
theorem rc_small (l : List (Nat × List UInt8)) : ∀ r ∈ l.map Tm.rc, r.length ≤ 1000000 := fun r hr => by
  obtain ⟨q, hq, rfl⟩ := List.mem_map.1 hr
  simp [Tm.rc]
theorem read_any (l : List UInt8) (f t k : Int) (hn : l.length ≤ 1000000) : ∃ L E, ReadAny l f t k L E := by
  by_cases h : isw k = false ∨ f < 0 ∨ t < f ∨ (l.length : Int) < t
  · refine ⟨[], 1, Nat.zero_le _, fun r hr => (by cases hr), fun W A c _ => ?_, fun W A c _ => ?_⟩
    · exact (read_arg A _ c f t k W h).mono fun e w' ⟨he, hw⟩ => ⟨none, 0, he, RLS.nil, hw ▸ Below.refl _ _⟩
    · exact (rread_arg A _ c f t k W h).mono fun e w' ⟨he, hw⟩ => ⟨none, 0, he, RLS.nil, hw ▸ Below.refl _ _⟩
  · have hk : isw k = true := by
      cases e : isw k with
      | true => rfl
      | false => exact absurd (.inl e) h
    obtain ⟨K, rfl, h1, h2⟩ := isw_nat hk
    obtain ⟨F, rfl⟩ : ∃ F : Nat, f = (F : Int) := ⟨f.toNat, by omega⟩
    obtain ⟨T, rfl⟩ : ∃ T : Nat, t = (T : Int) := ⟨t.toNat, by omega⟩
    refine ⟨(Fx.rd l K F T).map Tm.rc, rdE l.length K T, by rw [List.length_map]; exact Fx.rd_le l K F T, rc_small _, fun W A c hr => ?_, fun W A c hr => ?_⟩
    · exact (read_ok A _ c K l F T W hr hn h1 h2 (by omega) (by omega)).mono fun e w' ⟨A, c, he, hp, hb⟩ => ⟨A, c, he, hp.rl', hb⟩
    · exact rread_ok A _ c K l F T W hr hn h1 h2 (by omega) (by omega)

/-- Whatever width: what is written. -/
structure WriteAny (l : List (List (List UInt8))) (k : Int) (X : List UInt8) (E : Nat) : Prop where
  write : ∀ W A n c, RL W W.heap.size A n c l → n ≤ 1000000 → Calls Try.prog 19 #[.slice A n c, .int .i64 k] W (RetW W (X, E))
  rwrite : ∀ W A n c, RL W W.heap.size A n c l → n ≤ 1000000 → Calls Try.prog 20 #[.slice A n c, .int .i64 k] W (RetW W (X, E))
theorem write_any (l : List (List (List UInt8))) (k : Int) (hz : (Fx.wr l).length ≤ 1000000) : ∃ X E, WriteAny l k X E ∧ (∀ K : Nat, isw k = true → k = (K : Int) → (X, E) = Fx.wrS K l) ∧ (isw k = false → X = [] ∧ E = 1) := by
  cases hk : isw k with
  | false =>
    refine ⟨[], 1, ⟨fun W A n c _ _ => ?_, fun W A n c _ _ => ?_⟩, fun K h => (by cases h), fun _ => ⟨rfl, rfl⟩⟩
    · exact (write_arg A n c k hk W).mono fun e w' ⟨he, hw⟩ => ⟨none, 0, he, Own.nil _ _ _, hw ▸ Below.refl _ _⟩
    · exact (rwrite_arg A n c k hk W).mono fun e w' ⟨he, hw⟩ => ⟨none, 0, he, Own.nil _ _ _, hw ▸ Below.refl _ _⟩
  | true =>
    obtain ⟨K, rfl, h1, h2⟩ := isw_nat hk
    refine ⟨(Fx.wrS K l).1, (Fx.wrS K l).2, ⟨fun W A n c hr hn => write_c A n c K l W hr hn hz h1 h2, fun W A n c hr hn => rwrite_c A n c K l W hr hn hz h1 h2⟩, fun K' _ e => ?_, fun h => (by cases h)⟩
    obtain rfl : K' = K := by omega
    rfl

def PieceRel (l : List (Nat × List (List (List UInt8)))) (A A' : Option Addr) (n c c' : Nat) (w : World) (t : Value) (wr : World) : Prop :=
  ∃ k : Nat, t = .int .i64 (k : Int) ∧ k ≤ n ∧ PL wr wr.heap.size A n c l ∧ PL wr wr.heap.size A' n c' l ∧ ∃ q, wr = w.drewN q
theorem RL.drewN {w : World} {B : Nat} {A : Option Addr} {n c : Nat} {l : List (List (List UInt8))} (h : RL w B A n c l) (k : Nat) : RL (w.drewN k) B A n c l := h
set_option maxRecDepth 100000 in
set_option maxHeartbeats 2000000 in
/-- Pieces: rows of the same pieces are alike. -/
theorem pieces_c (A A' : Option Addr) (n c c' : Nat) (l : List (Nat × List (List (List UInt8)))) (w : World) (h1 : PL w w.heap.size A n c l) (h2 : PL w w.heap.size A' n c' l) (hn : n ≤ 1000000) (hz : ∀ p ∈ l, p.2.length ≤ 1000000 ∧ ∀ r ∈ p.2, r.length ≤ 1000000) :
    Calls Try.prog 13 #[.slice A n c, .slice A' n c'] w (RetQ w (.bool true)) := by
  have H1 := Lib.hid h1; have H2 := Lib.hid h2; have Hz := Lib.hid hz; clear h1 h2 hz
  go_enter Try.func13, Try.ntmps13
  go_wp2
  go_loopw [5] (fun t wr => PieceRel l A A' n c c' w t wr) (fun t _ => n - (intOf t).toNat)
  case atStart => exact ⟨0, rfl, Nat.zero_le _, H1.out, H2.out, 0, rfl⟩
  case round =>
    obtain ⟨k, rfl, hk, g1, g2, hq⟩ := hrel
    have Hq := Lib.hid hq; clear hq
    by_cases hlt : k < n
    · obtain ⟨b1, o1, p, D1, m1, d1, rfl, hb1, hc1, hc1', hx1, hr1⟩ := g1.at_ hlt
      obtain ⟨b2, o2, p2, D2, m2, d2, rfl, hb2, hc2, hc2', hx2, hr2⟩ := g2.at_ hlt
      rw [hx1] at hx2
      injection hx2 with hx2
      subst hx2
      have e1 := hr1.len
      have e2 := hr2.len
      obtain ⟨hzp, hzr⟩ := Hz.out p (List.mem_of_getElem? hx1)
      obtain ⟨P1, P2⟩ := p
      dsimp only at e1 e2 hr1 hr2 hc1 hc2 hzp hzr
      subst e1
      obtain rfl : P2.length = m2 := e2
      have hnb : ((P1 : Int) != (P1 : Int)) = false := by simp
      have G1 := Lib.hid g1; have G2 := Lib.hid g2; have R1 := Lib.hid hr1.rl; have R2 := Lib.hid hr2.rl; have Hzr := Lib.hid hzr; clear hx1 g1 g2 hr1 hr2 hzr
      go_wp2_with fail
      go_quiet ((go_at_call 17; exact Calls.quiet_of (recs_c D1 D2 P2.length d1 d2 P2 _ (R1.out.drewN _) (R2.out.drewN _) hzp Hzr.out)))
      go_wp2
      go_roundw
      case rel => exact ⟨k + 1, by go_num, by omega, G1.out, G2.out, by obtain ⟨q, hq⟩ := Hq.out; exact ⟨_, by rw [hq, World.drewN_drewN]⟩⟩
      case measure => simp [intOf]; omega
    · clear g1 g2
      go_wp2
      go_ret
      exact ⟨rfl, Hq.out⟩
theorem pc_small (l : List (Nat × List UInt8)) : ∀ p ∈ l.map Tm.pc, p.2.length ≤ 1000000 ∧ ∀ r ∈ p.2, r.length ≤ 1000000 := fun p hp => by
  obtain ⟨q, hq, rfl⟩ := List.mem_map.1 hp
  simp [Tm.pc]

set_option maxRecDepth 100000 in
set_option maxHeartbeats 2000000 in
theorem alive_c (w : World) : Calls Try.prog 10 #[] w fun e w' => e = .returned (.bool true) ∧ Below w.heap.size w w' := by
  have hsc : ∀ W A n c, Rb W W.heap.size A n c [97, 98, 99, 100, 101, 102, 103] → n ≤ 1000000 → Calls Try.prog 11 #[.slice A n c, .int .i64 3] W fun e w' => ∃ A c, e = .returned (.tuple #[.slice A 2 c, .int .i64 6, .int .i64 2]) ∧ Below W.heap.size W w' := fun W A n c h hn => (scan_c A n c 3 _ W h hn (by omega) (by omega)).mono fun e w' hp => by
    obtain ⟨A1, c1, he, hp, hb⟩ := hp
    exact ⟨A1, c1, he, hb⟩
  have hwr : ∀ W, Calls Try.prog 19 #[.slice none 0 0, .int .i64 0] W fun e w' => e = .returned (.tuple #[.slice none 0 0, .int .i64 1]) ∧ W = w' := fun W => write_arg none 0 0 0 (by decide) W
  have hce : ∀ W A, Rc 1 W W.heap.size A 2 2 (ivs [1, 2]) → Calls Try.prog 21 #[.string ⟨#[97, 98, 99]⟩, .slice A 2 2] W fun e w' => ∃ A c b off, e = .returned (.tuple #[.slice A 2 c, .int .i64 0]) ∧ A = some ⟨b, off, none⟩ ∧ b < w'.heap.size ∧ w'.cell? ⟨b, off + 1, none⟩ = some (.string ⟨#[98, 99]⟩) ∧ Below W.heap.size W w' := fun W A h => (cells_c [97, 98, 99] A 2 2 [1, 2] W h).mono fun e w' hp => by
    obtain ⟨A1, c1, he, hp, hb⟩ := hp
    rw [show Fx.ceS [1, 2] [97, 98, 99] = ([[97], [98, 99]], 0) by decide] at he hp
    obtain ⟨b, off, x, hA, hb1, hc, hx, _⟩ := lvs_at hp (k := 1) (by decide)
    obtain rfl : [98, 99] = x := by simpa using hx
    exact ⟨A1, c1, b, off, he, hA, hb1, hc, hb⟩
  have Hsc := Lib.hid hsc; have Hwr := Lib.hid hwr; have Hce := Lib.hid hce; clear hsc hwr hce
  have hcv := Lib.run_convert_bytes_const (P := Try.prog) w 22 5 #[.int .u8 97, .int .u8 98, .int .u8 99, .int .u8 100, .int .u8 101, .int .u8 102, .int .u8 103] 7 7 Try.underlying22 Try.underlying5
  go_enter Try.func10, Try.ntmps10
  go_wp2_with fail
  refine (Hsc.out _ _ _ _ ((Rb.lit w _ _ _ [97, 98, 99, 100, 101, 102, 103] 7 rfl rfl (by omega)).more (by simp)) (by omega)).mono ?_
  rintro e w1 ⟨A1, c1, rfl, hb1⟩
  have z1 := hb1.size
  go_wp2_with fail
  refine (Hwr.out _).mono ?_
  rintro e w2 ⟨rfl, rfl⟩
  obtain ⟨w5, h5⟩ : ∃ w5, w5 = w1.alloc (.cells #[.int .i64 1, .int .i64 2] 3) := ⟨_, rfl⟩
  have hlit : Rc 1 w5 w5.heap.size (some ⟨w1.heap.size, 0, none⟩) 2 2 (ivs [1, 2]) := by rw [h5]; exact (Rc.lit (z := 1) w1 _ #[.int .i64 1, .int .i64 2] 2 rfl (by simp [maxLen])).more (by simp)
  have b5 : Below w1.heap.size w1 w5 := by rw [h5]; exact (Below.refl _ _).alloc (Nat.le_refl _) _
  have z5 := b5.size
  have H5 := Lib.hid h5; have Hlit := Lib.hid hlit; clear h5 hlit
  go_wp2_with fail
  rw [← H5.out]
  refine (Hce.out _ _ Hlit.out).mono ?_
  rintro e w7 ⟨A7, c7, b, off, rfl, rfl, hb, hc, hb7⟩
  have bz : Below w.heap.size w w7 := (((Below.refl _ _).alloc (Nat.le_refl _) _).trans (hb1.mono (by simp))).trans ((b5.trans (hb7.mono z5)).mono (by simp at z1; omega))
  go_wp2
  go_ret
  exact ⟨rfl, bz⟩
end Go.Proofs.Ytjdmpnonjlffaaa
