/-
  The walk of the law TextPieces.
-/
import Derived.Test.YtknlegjlbkaghaaX6
namespace Go.Proofs.Ytknlegjlbkaghaa
open Go.RowKit Go.Maps

def PiRel (base : Nat) (w : World) (P : List (Nat × List UInt8)) (o i : Value) (wr : World) : Prop :=
  ∃ A c M, ∃ k : Nat, o = .slice A M.length c ∧ i = .int .i64 (k : Int) ∧ k ≤ P.length ∧ Own wr 5 base A c M ∧ M = Tm.wr ((P.take k).map Tm.rc) ∧ Below base w wr
theorem str_add (cur x : List UInt8) : (⟨cur.toArray⟩ ++ ⟨x.toArray⟩ : ByteArray) = ⟨(cur ++ x).toArray⟩ := by
  apply str_eq
  simp

set_option maxRecDepth 100000 in
set_option maxHeartbeats 4000000 in
theorem textPieces_walk (A : Option Addr) (n c : Nat) (l : List UInt8) (w : World) (hr : Rb w w.heap.size A n c l) :
    Calls Try.prog 8 #[.slice A n c] w fun e w' => e = .returned (.bool true) ∧ Below w.heap.size w w' := by
  obtain rfl := hr.len
  have hmax : l.length ≤ 9223372036854775807 := by have h2 := hr.2.1; have h3 := hr.2.2.1; unfold maxLen at h3; omega
  by_cases hbig : 2000 < l.length
  · clear hr
    go_enter Try.func8, Try.ntmps8
    go_wp2_with fail
    refine (alive_c _).mono ?_
    rintro e w2 ⟨rfl, hb2⟩
    go_wp2
    go_ret
    exact ⟨rfl, hb2⟩
  · have hn : l.length ≤ 2000 := by omega
    have hls := Tm.ls_len l
    have Hr := Lib.hid hr; clear hr
    obtain ⟨P, hP⟩ : ∃ P, P = Tm.ls l := ⟨_, rfl⟩
    have hsc : ∀ W A n c, Rb W W.heap.size A n c l → n ≤ 1000000 → Calls Try.prog 10 #[.slice A n c] W fun e w' => ∃ A c, e = .returned (.tuple #[.slice A P.length c, .int .i64 (l.length : Int), .int .i64 0]) ∧ PL w' w'.heap.size A P.length c (P.map Tm.pc) ∧ Below W.heap.size W w' := fun W A n c h hn => (scan_c A n c _ W h hn).mono fun e w' hp => by
      obtain ⟨A1, c1, he, hp, hb⟩ := hp
      rw [← hP] at he hp
      exact ⟨A1, c1, he, hp.pl, hb⟩
    have hwrl : Tm.wr (P.map Tm.rc) = if Tm.canon l then l else l ++ [10] := by rw [hP]; exact Tm.wr_ls l
    have hput : ∀ (i : Nat) (p : Nat × List UInt8), P[i]? = some p → p.1 = (Tm.wr ((P.take i).map Tm.rc)).length := by rw [hP]; exact fun i p h => Tm.ls_put h
    have hlen : ∀ k, (Tm.wr ((P.take k).map Tm.rc)).length ≤ 2001 := fun k => by
      have h1 := Tm.wr_take (P.map Tm.rc) k
      have e1 : (P.map Tm.rc).take k = (P.take k).map Tm.rc := List.map_take.symm
      rw [e1, hwrl] at h1
      split at h1
      · omega
      · rw [List.length_append] at h1
        simp only [List.length_cons, List.length_nil] at h1
        omega
    rw [← hP] at hls
    have Hsc := Lib.hid hsc; have Hwr := Lib.hid hwrl; have Hput := Lib.hid hput; have Hlen := Lib.hid hlen
    clear hsc hP hwrl hput hlen
    go_enter Try.func8, Try.ntmps8
    go_wp2_with fail
    refine (Hsc.out _ _ _ _ Hr.out (by omega)).mono ?_
    rintro e w2 ⟨A2, c2, rfl, hp2, hb2⟩
    have z2 := hb2.size
    have HP2 := Lib.hid hp2; clear hp2
    go_wp2
    go_loopw [6, 7] (fun o i wr => PiRel w2.heap.size w2 P o i wr) (fun _ i _ => P.length - (intOf i).toNat)
    case atStart => exact ⟨some ⟨w2.heap.size, 0, none⟩, 0, [], 0, rfl, rfl, Nat.zero_le _, Own.made0 _ _, rfl, (Below.refl _ _).alloc (Nat.le_refl _) _⟩
    case round =>
      obtain ⟨A3, c3, M, k, rfl, rfl, hk, hown, hM, hbel⟩ := hrel
      have z3 := hbel.size
      rename World => wr
      have hMl : M.length ≤ 2001 := by rw [hM]; exact Hlen.out k
      by_cases hlt : k < P.length
      · obtain ⟨b, off, p, D, m, d, rfl, hb, hc1, hc2, hx, hrl⟩ := (HP2.out.below hbel).at_ hlt
        rw [List.getElem?_map, Option.map_eq_some_iff] at hx
        obtain ⟨p, hx, rfl⟩ := hx
        have hm : 1 = m := hrl.len
        subst hm
        obtain ⟨b2, off2, D2, m2, d2, r, rfl, hb3, hc3, hx3, _, hrec⟩ := hrl.rl.at_ (k := 0) (by omega)
        obtain rfl : r = [p.2] := by simpa [Tm.pc] using hx3.symm
        have hm2 : 1 = m2 := by have := lvs_num hrec; simpa using this
        subst hm2
        obtain ⟨b4, off4, x, rfl, hb4, hc4, hx4, _⟩ := lvs_at hrec (k := 0) (by omega)
        obtain rfl : x = p.2 := by simpa using hx4.symm
        rw [Nat.add_zero] at hc3 hc4
        replace hc1 : wr.cell? ⟨b, off + k * 2, none⟩ = some (.int .i64 (M.length : Int)) := by rw [hM, ← Hput.out k p hx]; exact hc1
        obtain ⟨s, hs⟩ : ∃ s, s = p.2 := ⟨_, rfl⟩
        rw [← hs] at hc4
        obtain ⟨M2, hM2⟩ : ∃ M2, M ++ s = M2 := ⟨_, rfl⟩
        obtain ⟨M3, hM3⟩ : ∃ M3, M2 ++ [10] = M3 := ⟨_, rfl⟩
        have hfin : M3 = Tm.wr ((P.take (k + 1)).map Tm.rc) := by
          have h := Tm.wr_next (P.map Tm.rc) k p.2 (by rw [List.getElem?_map, hx]; rfl)
          rw [List.map_take, h, ← List.map_take, ← hM, ← hs, hM2, hM3]
        have q3 : M3.length ≤ 2001 := by rw [hfin]; exact Hlen.out (k + 1)
        have q2 : M2.length ≤ 2001 := by rw [← hM3, List.length_append] at q3; omega
        have hne : ((M.length : Int) != (M.length : Int)) = false := by simp
        have Hfin := Lib.hid hfin; have H2 := Lib.hid hM2; have H3 := Lib.hid hM3; have Hown := Lib.hid hown
        clear hM hx hx3 hx4 hs hM2 hM3 hfin hown hrl hrec
        go_wp2_with (at_builtin; go_must (refine bty.wpAppStrTo rfl (.tmp 53) (.tmp 62) rfl (l := M) (r := s) (N := M2) rfl rfl Hown.out H2.out ?hs1 z3 ?_))
        case hs1 => omega
        intro A5 c5 w5 hown5 hb5
        have z5 := hb5.size
        have Hown5 := Lib.hid hown5; clear hown5
        go_wp2_with (at_builtin; go_must (refine bty.wpAppTo rfl (.tmp 64) (.tmp 65) rfl (l := M2) (r := [10]) (N := M3) rfl rfl (Hown5.out.alloc _) (Rb.oneI _ _ _ 10 rfl) H3.out ?hs3 ?hs4 ?_))
        case hs3 => omega
        case hs4 => simp; omega
        intro A6 c6 w6 hown6 hg6
        have hg6' : Grows w5 w6 A5 A6 := Grows.pre ((Below.refl _ _).alloc (Nat.le_refl _) _) hg6
        have b6 := (hbel.trans hb5).trans (hg6'.below Hown5.out (by omega))
        have Hown6 := Lib.hid hown6; clear hown6 hg6 hg6'
        go_wp2
        go_roundw
        case rel => exact ⟨A6, c6, M3, k + 1, rfl, by go_num, hlt, Hown6.out, Hfin.out, b6⟩
        case measure => simp [intOf]; omega
      · have e : P.take k = P := List.take_of_length_le (by omega)
        rw [e, Hwr.out] at hM
        have b2r : Below w.heap.size w wr := hb2.trans (hbel.mono z2)
        have hrr := (Hr.out.below b2r).more (show w.heap.size ≤ wr.heap.size by omega)
        have Hrr := Lib.hid hrr; have Hown := Lib.hid hown; clear hrr hown e
        cases hc : Tm.canon l with
        | true =>
          rw [hc, if_pos rfl] at hM
          have HC := Lib.hid hc.symm; have HM := Lib.hid hM; clear hc hM
          go_wp2_with fail
          refine (canon_c A l.length c _ l _ Hrr.out (by omega) true HC.out).mono ?_
          rintro e w4 ⟨rfl, rfl⟩
          go_wp2_with fail
          refine (alive_c _).mono ?_
          rintro e w5 ⟨rfl, hb5⟩
          have cv1 : (convert 22 9 (.slice A3 M.length c3)).run Try.prog w5 = .ok (.string ⟨l.toArray⟩) w5 := by rw [← HM.out]; exact bty.conv (Hown.out.rb.below hb5)
          have cv2 := bty.conv (Hrr.out.below hb5)
          have bz : Below w.heap.size w w5 := b2r.trans (hb5.mono (by omega))
          go_wp2
          go_ret
          exact ⟨rfl, bz⟩
        | false =>
          rw [hc, if_neg (by simp)] at hM
          have HC := Lib.hid hc.symm; have HM := Lib.hid hM; clear hc hM
          go_wp2_with fail
          refine (canon_c A l.length c _ l _ Hrr.out (by omega) false HC.out).mono ?_
          rintro e w4 ⟨rfl, rfl⟩
          go_wp2_with fail
          refine (alive_c _).mono ?_
          rintro e w5 ⟨rfl, hb5⟩
          have cv1 : (convert 22 9 (.slice A3 M.length c3)).run Try.prog w5 = .ok (.string ⟨(l ++ [10]).toArray⟩) w5 := by rw [← HM.out]; exact bty.conv (Hown.out.rb.below hb5)
          have cv2 := bty.conv (Hrr.out.below hb5)
          have bz : Below w.heap.size w w5 := b2r.trans (hb5.mono (by omega))
          have hadd : (⟨l.toArray⟩ ++ ⟨#[10]⟩ : ByteArray) = ⟨(l ++ [10]).toArray⟩ := str_add l [10]
          go_wp2
          go_ret
          exact ⟨rfl, bz⟩
end Go.Proofs.Ytknlegjlbkaghaa
