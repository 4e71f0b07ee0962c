/-
  The walk of the law TextScan.
-/
import Derived.Test.YtknlegjlbkaghaaX6
namespace Go.Proofs.Ytknlegjlbkaghaa
open Go.RowKit Go.Maps

theorem pc_small (b : List UInt8) : ∀ p ∈ (Tm.ls b).map Tm.pc, p.2.length ≤ 1000000 ∧ ∀ r ∈ p.2, r.length ≤ 1000000 := fun p hp => by
  obtain ⟨q, hq, rfl⟩ := List.mem_map.1 hp
  refine ⟨by simp [Tm.pc], fun r hr => ?_⟩
  simp [Tm.pc] at hr
  subst hr
  simp
theorem canon_cases {w : World} {B : Nat} {A : Option Addr} {c : Nat} {l : List UInt8} (h : Rb w B A l.length c l) :
    (Tm.canon l = true ∧ l.length = 0) ∨ ∃ b off, ∃ x : UInt8, A = some ⟨b, off, none⟩ ∧ b < B ∧ w.cell? ⟨b, off + (l.length - 1), none⟩ = some (.int .u8 (x.toNat : Int)) ∧ 1 ≤ l.length ∧ Tm.canon l = (x == 10) := by
  by_cases h0 : l.length = 0
  · obtain rfl : l = [] := List.eq_nil_of_length_eq_zero h0
    exact .inl ⟨rfl, rfl⟩
  · obtain ⟨b, off, x, rfl, hb, hx, hg, _⟩ := h.at_ (k := l.length - 1) (by omega)
    refine .inr ⟨b, off, x, rfl, hb, hx, by omega, ?_⟩
    unfold Tm.canon
    have e1 : l.isEmpty = false := by cases l with
      | nil => simp at h0
      | cons y l => rfl
    rw [e1, Bool.false_or, List.getLast?_eq_getElem?, hg]
    rfl
def AnyRel (ps : List (Nat × List UInt8)) (a : Int) (n : Nat) (s i : Value) : Prop := ∃ k : Nat, i = .int .i64 (k : Int) ∧ k ≤ n ∧ s = .bool ((ps.take k).any fun p => (p.1 : Int) == a)

set_option maxRecDepth 100000 in
set_option maxHeartbeats 4000000 in
theorem textScan_walk (A : Option Addr) (n c : Nat) (l : List UInt8) (a : Int) (w : World) (hr : Rb w w.heap.size A n c l) (ha : I64 a) :
    Calls Try.prog 3 #[.slice A n c, .int .i64 a] w fun e w' => e = .returned (.bool true) ∧ Below w.heap.size w w' := by
  obtain rfl := hr.len
  have hmax : l.length ≤ 9223372036854775807 := by have h2 := hr.2.1; have h3 := hr.2.2.1; unfold maxLen at h3; omega
  by_cases hbig : 2000 < l.length
  · clear hr
    go_enter Try.func3, Try.ntmps3
    go_wp2_with fail
    refine (alive_c _).mono ?_
    rintro e w2 ⟨rfl, hb2⟩
    go_wp2
    go_ret
    exact ⟨rfl, hb2⟩
  · have hn : l.length ≤ 2000 := by omega
    have hls := Tm.ls_len l
    have Hr := Lib.hid hr; clear hr
    obtain ⟨P, hP⟩ : ∃ P, P = Tm.ls l := ⟨_, rfl⟩
    have hsc : ∀ W A n c, Rb W W.heap.size A n c l → n ≤ 1000000 → Calls Try.prog 10 #[.slice A n c] W fun e w' => ∃ A c, e = .returned (.tuple #[.slice A P.length c, .int .i64 (l.length : Int), .int .i64 0]) ∧ PL w' w'.heap.size A P.length c (P.map Tm.pc) ∧ Below W.heap.size W w' := fun W A n c h hn => (scan_c A n c _ W h hn).mono fun e w' hp => by
      obtain ⟨A1, c1, he, hp, hb⟩ := hp
      rw [← hP] at he hp
      exact ⟨A1, c1, he, hp.pl, hb⟩
    have hsr : ∀ W A n c, Rb W W.heap.size A n c l → n ≤ 1000000 → Calls Try.prog 11 #[.slice A n c] W fun e w' => ∃ A c, e = .returned (.tuple #[.slice A P.length c, .int .i64 (l.length : Int), .int .i64 0]) ∧ PL w' w'.heap.size A P.length c (P.map Tm.pc) ∧ Below W.heap.size W w' := fun W A n c h hn => (rscan_c A n c _ W h hn).mono fun e w' hp => by
      obtain ⟨A1, c1, he, hp, hb⟩ := hp
      rw [← hP] at he hp
      exact ⟨A1, c1, he, hp.pl, hb⟩
    have hsm := pc_small l
    rw [← hP] at hsm hls
    have Hsc := Lib.hid hsc; have Hsr := Lib.hid hsr; have Hsm := Lib.hid hsm; have HP := Lib.hid hP
    clear hsc hsr hsm hP
    go_enter Try.func3, Try.ntmps3
    go_wp2_with (at_builtin; go_must (refine bty.wpAppTo rfl (.tmp 19) (.tmp 20) rfl (l := []) (r := l) (N := l) rfl rfl (Own.made0 _ _) (Hr.out.alloc (Nat.le_refl _) _) rfl ?hs1 ?hs2 ?_))
    case hs1 => omega
    case hs2 => simp
    intro A1 c1 w1 hown1 hg1
    have b1 : Below w.heap.size w w1 := ((Below.refl _ _).alloc (Nat.le_refl _) _).trans (hg1.below (Own.made0 _ _) (by simp))
    have z1 := b1.size
    have Hown1 := Lib.hid hown1; clear hown1 hg1
    go_wp2_with fail
    refine (Hsc.out _ _ _ _ Hown1.out.rb (by omega)).mono ?_
    rintro e w2 ⟨A2, c2, rfl, hp2, hb2⟩
    have z2 := hb2.size
    have HP2 := Lib.hid hp2; clear hp2
    have hr2 := (Hr.out.below (b1.trans (hb2.mono z1))).more (show w.heap.size ≤ w2.heap.size by omega)
    have Hr2 := Lib.hid hr2; clear hr2
    go_wp2_with fail
    refine (Hsr.out _ _ _ _ Hr2.out (by omega)).mono ?_
    rintro e w3 ⟨A3, c3, rfl, hp3, hb3⟩
    have z3 := hb3.size
    have HP3 := Lib.hid hp3; clear hp3
    have hP2' := HP2.out.below hb3
    have HP2' := Lib.hid hP2'; clear hP2'
    go_wp2
    go_loop [12, 13] (fun s i => AnyRel P a P.length s i) (fun _ i => P.length - (intOf i).toNat)
    case atStart => exact ⟨0, rfl, Nat.zero_le _, rfl⟩
    case round =>
      obtain ⟨k, rfl, hk, rfl⟩ := hrel
      by_cases hlt : k < P.length
      · obtain ⟨b, off, p, D, m, d, rfl, hb, hc1, hc2, hx, _⟩ := HP3.out.at_ hlt
        rw [List.getElem?_map, Option.map_eq_some_iff] at hx
        obtain ⟨p, hx, rfl⟩ := hx
        have hsn : (P.take (k + 1)).any (fun p => (p.1 : Int) == a) = (((P.take k).any fun p => (p.1 : Int) == a) || ((p.1 : Int) == a)) := by
          rw [List.take_add_one, hx, List.any_append]
          simp
        obtain ⟨s, hs⟩ : ∃ s, s = (P.take k).any fun p => (p.1 : Int) == a := ⟨_, rfl⟩
        replace hc1 : w3.cell? ⟨b, off + k * 2, none⟩ = some (.int .i64 (p.1 : Int)) := hc1
        rw [← hs] at hsn ⊢
        obtain ⟨q, hq⟩ : ∃ q, q = ((p.1 : Int) == a) := ⟨_, rfl⟩
        rw [← hq] at hsn
        have Hsn := Lib.hid hsn; clear hsn hs hx
        cases s with
        | true =>
          clear hq hc1 hc2
          go_wp2
          go_round
          case rel => exact ⟨k + 1, by go_num, hlt, by rw [Hsn.out]; rfl⟩
          case measure => simp [intOf]; omega
        | false =>
          cases q with
          | true =>
            have hq2 := hq.symm; clear hq
            go_wp2
            go_round
            case rel => exact ⟨k + 1, by go_num, hlt, by rw [Hsn.out]; rfl⟩
            case measure => simp [intOf]; omega
          | false =>
            have hq2 := hq.symm; clear hq
            go_wp2
            go_round
            case rel => exact ⟨k + 1, by go_num, hlt, by rw [Hsn.out]; rfl⟩
            case measure => simp [intOf]; omega
      · have hst : ((P.take k).any fun p => (p.1 : Int) == a) = Tm.starts l a := by
          rw [List.take_of_length_le (by omega), HP.out]; rfl
        rw [hst]
        obtain ⟨S, hS⟩ : ∃ S, S = Tm.starts l a := ⟨_, rfl⟩
        rw [← hS]
        have HS := Lib.hid hS; clear hS hst
        have hr3 := Hr2.out.below hb3
        have hcan := canon_cases hr3
        have Hr3 := Lib.hid hr3; clear hr3
        have h10 : ∀ x : UInt8, (x == 10) = ((x.toNat : Int) == 10) := fun x => by
          by_cases h : x = 10
          · subst h; rfl
          · rw [ten_ne h]; simpa using h
        rcases hcan with ⟨hc, h0⟩ | ⟨b, off, x, rfl, hb, hcell, h1, hc⟩
        · have hz1 : ((l.length : Int) == 0) = true := by rw [h0]; rfl
          have hz2 : decide (l.length = 0) = true := by simpa using h0
          have HC := Lib.hid hc.symm; clear hc h0 h10
          go_wp2_with fail
          refine (alive_c _).mono ?_
          rintro e w4 ⟨rfl, hb4⟩
          have z4 := hb4.size
          have g2 := (HP2'.out.more (show w2.heap.size ≤ w3.heap.size by omega)).below hb4 |>.more z4
          have g3 := (HP3.out.below hb4).more z4
          have b34 : Below w1.heap.size w1 w4 := (hb2.trans (hb3.mono z2)).trans (hb4.mono (by omega))
          have go1 := Hown1.out.rb.below b34
          have gb1 := ((Hr3.out.more (show w2.heap.size ≤ w3.heap.size by omega)).below hb4).more z4
          have G2 := Lib.hid g2; have G3 := Lib.hid g3; have Go1 := Lib.hid go1; have Gb1 := Lib.hid gb1; clear g2 g3 go1 gb1
          go_wp2_with fail
          refine (pieces_c A2 A3 P.length c2 c3 (P.map Tm.pc) _ G2.out G3.out (by omega) Hsm.out).mono ?_
          rintro e w5 ⟨rfl, q, rfl⟩
          go_wp2_with fail
          refine (canon_c A1 l.length c1 _ l _ (Go1.out.drewN q) (by omega) true HC.out).mono ?_
          rintro e w6 ⟨rfl, rfl⟩
          go_wp2_with fail
          refine (starts_c A1 l.length c1 _ l a _ (Go1.out.drewN q) (by omega) ha S HS.out).mono ?_
          rintro e w7 ⟨rfl, rfl⟩
          have cv1 := bty.conv (Go1.out.drewN q)
          have cv2 := bty.conv (Gb1.out.drewN q)
          have bz : Below w.heap.size w w4 := b1.trans (b34.mono z1)
          go_wp2
          go_ret
          exact ⟨rfl, below_drewN bz q⟩
        · have hz1 : ((l.length : Int) == 0) = false := by rw [beq_eq_false_iff_ne]; omega
          have hz2 : decide (l.length = 0) = false := decide_eq_false (by omega)
          have hz3 : ¬ l = [] := fun e => by rw [e] at h1; simp at h1
          have hnk : ((l.length : Int) - 1).toNat = l.length - 1 := by omega
          rw [h10] at hc
          cases hx : ((x.toNat : Int) == 10) with
          | true =>
            rw [hx] at hc
            have HC := Lib.hid hc.symm; clear hc h10
            go_wp2_with fail
            refine (alive_c _).mono ?_
            rintro e w4 ⟨rfl, hb4⟩
            have z4 := hb4.size
            have g2 := (HP2'.out.more (show w2.heap.size ≤ w3.heap.size by omega)).below hb4 |>.more z4
            have g3 := (HP3.out.below hb4).more z4
            have b34 : Below w1.heap.size w1 w4 := (hb2.trans (hb3.mono z2)).trans (hb4.mono (by omega))
            have go1 := Hown1.out.rb.below b34
            have gb1 := ((Hr3.out.more (show w2.heap.size ≤ w3.heap.size by omega)).below hb4).more z4
            have G2 := Lib.hid g2; have G3 := Lib.hid g3; have Go1 := Lib.hid go1; have Gb1 := Lib.hid gb1; clear g2 g3 go1 gb1
            go_wp2_with fail
            refine (pieces_c A2 A3 P.length c2 c3 (P.map Tm.pc) _ G2.out G3.out (by omega) Hsm.out).mono ?_
            rintro e w5 ⟨rfl, q, rfl⟩
            go_wp2_with fail
            refine (canon_c A1 l.length c1 _ l _ (Go1.out.drewN q) (by omega) true HC.out).mono ?_
            rintro e w6 ⟨rfl, rfl⟩
            go_wp2_with fail
            refine (starts_c A1 l.length c1 _ l a _ (Go1.out.drewN q) (by omega) ha S HS.out).mono ?_
            rintro e w7 ⟨rfl, rfl⟩
            have cv1 := bty.conv (Go1.out.drewN q)
            have cv2 := bty.conv (Gb1.out.drewN q)
            have bz : Below w.heap.size w w4 := b1.trans (b34.mono z1)
            go_wp2
            go_ret
            exact ⟨rfl, below_drewN bz q⟩
          | false =>
            rw [hx] at hc
            have HC := Lib.hid hc.symm; clear hc h10
            go_wp2_with fail
            refine (alive_c _).mono ?_
            rintro e w4 ⟨rfl, hb4⟩
            have z4 := hb4.size
            have g2 := (HP2'.out.more (show w2.heap.size ≤ w3.heap.size by omega)).below hb4 |>.more z4
            have g3 := (HP3.out.below hb4).more z4
            have b34 : Below w1.heap.size w1 w4 := (hb2.trans (hb3.mono z2)).trans (hb4.mono (by omega))
            have go1 := Hown1.out.rb.below b34
            have gb1 := ((Hr3.out.more (show w2.heap.size ≤ w3.heap.size by omega)).below hb4).more z4
            have G2 := Lib.hid g2; have G3 := Lib.hid g3; have Go1 := Lib.hid go1; have Gb1 := Lib.hid gb1; clear g2 g3 go1 gb1
            go_wp2_with fail
            refine (pieces_c A2 A3 P.length c2 c3 (P.map Tm.pc) _ G2.out G3.out (by omega) Hsm.out).mono ?_
            rintro e w5 ⟨rfl, q, rfl⟩
            go_wp2_with fail
            refine (canon_c A1 l.length c1 _ l _ (Go1.out.drewN q) (by omega) false HC.out).mono ?_
            rintro e w6 ⟨rfl, rfl⟩
            go_wp2_with fail
            refine (starts_c A1 l.length c1 _ l a _ (Go1.out.drewN q) (by omega) ha S HS.out).mono ?_
            rintro e w7 ⟨rfl, rfl⟩
            have cv1 := bty.conv (Go1.out.drewN q)
            have cv2 := bty.conv (Gb1.out.drewN q)
            have bz : Below w.heap.size w w4 := b1.trans (b34.mono z1)
            go_wp2
            go_ret
            exact ⟨rfl, below_drewN bz q⟩
end Go.Proofs.Ytknlegjlbkaghaa
