/-
  text's Read; the document's All, Of, Read; Pieces (are rows alike?): what each call returns and leaves.
-/
import Derived.Test.YtknlegjlbkaghaaX3
namespace Go.Proofs.Ytknlegjlbkaghaa
open Go.RowKit Go.Maps

def RetR (w : World) (L : List (List (List UInt8))) (e : Ending) (w' : World) : Prop :=
  ∃ A c, e = .returned (.tuple #[.slice A L.length c, .int .i64 0]) ∧ RLS w' (Fr w.heap.size w') A L.length c L ∧ Below w.heap.size w w'
def ReadRel (base : Nat) (w : World) (l : List UInt8) (f t : Nat) (o p : Value) (wr : World) : Prop :=
  ∃ A c vs done, ∃ a : Nat, o = .slice A done.length c ∧ p = .int .i64 (a : Int) ∧ Oc 1 wr 48 base A done.length c vs ∧ RrsS wr (Sf base wr A) vs (done.map Tm.rc) ∧ done ++ Tm.rl l a t = Tm.rd l f t ∧ Below base w wr

set_option maxHeartbeats 2000000 in
set_option maxRecDepth 100000 in
/-- Read -/
theorem read_ok (A : Option Addr) (n c : Nat) (l : List UInt8) (f t : Nat) (w : World) (hr : Rb w w.heap.size A n c l) (hn : n ≤ 1000000) (hft : f ≤ t) (htn : t ≤ n) :
    Calls Try.prog 15 #[.slice A n c, .int .i64 (f : Int), .int .i64 (t : Int)] w (RetR w ((Tm.rd l f t).map Tm.rc)) := by
  have hl := hr.len
  have Hr := Lib.hid hr; have Hl := Lib.hid hl; clear hr hl
  have d1 : decide ((f : Int) < 0) = false := by simp
  have d2 : decide (t < f) = false := by simp; omega
  have d3 : decide (n < t) = false := by simp; omega
  go_enter Try.func15, Try.ntmps15
  go_wp2_with fail
  refine (first_c A n c _ l f t _ Hr.out hft htn hn).mono ?_
  rintro e w2 ⟨F, rfl, hF, rfl⟩
  have HF := Lib.hid hF; clear hF
  go_wp2
  go_loopw [8, 9] (fun o p wr => ReadRel w.heap.size w l f t o p wr) (fun _ p _ => t - (intOf p).toNat)
  case atStart => exact ⟨none, 0, [], [], F, rfl, rfl, Oc.nil _ _ _ _, RrsS.nil, HF.out.symm, Below.refl _ _⟩
  case round =>
    obtain ⟨A3, c3, vs, done, a, rfl, rfl, hown, hps, hst, hbel⟩ := hrel
    have z3 := hbel.size
    have hlen : done.length ≤ n := by
      have h1 := Tm.rd_len l f t
      have h2 := congrArg List.length hst
      rw [List.length_append] at h2
      have := Hl.out
      omega
    clear d1 d2 d3
    rename World => wr
    by_cases hlt : a < t
    · have Hst := Lib.hid hst; have Hown := Lib.hid hown; have Hps := Lib.hid hps; clear hst hown hps
      have hr3 := Hr.out.below hbel
      have Hr3 := Lib.hid hr3; clear hr3
      go_wp2_with fail
      refine (line_c A n c _ l a _ Hr3.out (by omega) hn).mono ?_
      rintro e w4 ⟨k, m, rfl, ⟨hln, hm1, hm2, hk⟩, rfl⟩
      have hst2 : (done ++ [(a, k)]) ++ Tm.rl l m t = Tm.rd l f t := by
        rw [← Hst.out, Tm.rl_step l k a t m hlt hln]; simp
      have Hst2 := Lib.hid hst2; clear hln hst2 hm2 hk
      obtain ⟨w5, h5⟩ : ∃ w5, w5 = wr.alloc (.cells #[.string ⟨k.toArray⟩] 9) := ⟨_, rfl⟩
      obtain ⟨w6, h6⟩ : ∃ w6, w6 = w5.alloc (.cells #[.slice (some ⟨wr.heap.size, 0, none⟩) 1 1] 48) := ⟨_, rfl⟩
      obtain ⟨z6, b6, hlit, hpr⟩ := rec_lit wr k A3 w.heap.size _ _ z3 (oc_lt Hown.out) w5 w6 h5 h6
      have hown6 := Hown.out.keep b6
      have hps6 := (Hps.out.keep (sf_below b6)).snoc hpr
      have bw6 := hbel.trans (b6.mono z3)
      have H5 := Lib.hid h5; have H6 := Lib.hid h6; have Hlit := Lib.hid hlit; have Hown6 := Lib.hid hown6; have Hps6 := Lib.hid hps6; have Z6 := Lib.hid z6; clear h5 h6 hlit hpr hown6 hps6 z6 b6
      go_wp2_with (at_builtin; rw [← H5.out, ← H6.out]; go_must (refine Sl.wpAppAt rty rfl (.tmp 38) (.tmp 41) rfl (n := done.length) (m := 1) (N := done.length + 1) (ws := vs ++ [.slice (some ⟨wr.heap.size, 0, none⟩) 1 1]) rfl rfl Hown6.out Hlit.out ?hs1 rfl rfl ?hs4 ?hs5 ?hs6 ?_))
      case hs1 => simp [Value.oneCell']
      case hs4 => omega
      case hs5 => omega
      case hs6 => have := Z6.out; omega
      intro A8 c8 w8 hown8 hg8
      have bw8 := bw6.trans (hg8.belowC Hown6.out (by have := Z6.out; omega))
      have hps8 := Hps6.out.keep (sf_grow hg8)
      have Hown8 := Lib.hid hown8; have Hps8 := Lib.hid hps8; clear hown8 hps8 hg8
      go_wp2
      go_roundw
      case rel => exact ⟨A8, c8, vs ++ [.slice (some ⟨wr.heap.size, 0, none⟩) 1 1], done ++ [(a, k)], m, by simp, rfl, by rw [List.length_append]; exact Hown8.out, by rw [List.map_append]; exact Hps8.out, Hst2.out, bw8⟩
      case measure => simp [intOf]; omega
    · have hd : done = Tm.rd l f t := by
        rw [Tm.rl_end l a t (by omega), List.append_nil] at hst
        exact hst
      have hfin : RLS wr (Fr w.heap.size wr) A3 done.length c3 (done.map Tm.rc) := ⟨vs, hown.rcS, hps.keep (stays_weak sf_fr)⟩
      have Hd := Lib.hid hd; have Hfin := Lib.hid hfin; clear hst hown hps hd hfin
      go_wp2
      go_ret2
      refine ⟨A3, c3, ?_, ?_, hbel⟩
      · rw [← Hd.out, List.length_map]; rfl
      · rw [← Hd.out, List.length_map]; exact Hfin.out

theorem bad_cases {n : Nat} {f t : Int} (h : f < 0 ∨ t < f ∨ (n : Int) < t) : decide (f < 0) = true ∨ decide (f < 0) = false ∧ decide (t < f) = true ∨ decide (f < 0) = false ∧ decide (t < f) = false ∧ decide ((n : Int) < t) = true := by
  simp; omega
set_option maxRecDepth 100000 in
theorem read_err (A : Option Addr) (n c : Nat) (f t : Int) (w : World) (h : f < 0 ∨ t < f ∨ (n : Int) < t) :
    Calls Try.prog 15 #[.slice A n c, .int .i64 f, .int .i64 t] w fun e w' => e = .returned (.tuple #[.slice none 0 0, .int .i64 1]) ∧ w = w' := by
  rcases bad_cases h with d1 | ⟨d1, d2⟩ | ⟨d1, d2, d3⟩ <;> clear h
  all_goals
    go_enter Try.func15, Try.ntmps15
    go_wp2
    go_ret2
    exact ⟨rfl, rfl⟩

theorem rrs_one {w : World} {S : Nat → Prop} {vs : List Value} {l : List (List (List UInt8))} (h : RrsS w S vs l) : ∀ v ∈ vs, v.oneCell' = true := fun v hv => by
  obtain ⟨j, hj, rfl⟩ := List.getElem_of_mem hv
  obtain ⟨A, n, c, e, _⟩ := h.2 j _ (l[j]'(by rw [← h.1]; exact hj)) (List.getElem?_eq_getElem hj) (List.getElem?_eq_getElem (by rw [← h.1]; exact hj))
  rw [e]; rfl
def RetA (w : World) (L : List (List (List UInt8))) (e : Ending) (w' : World) : Prop :=
  ∃ A c, e = .returned (.slice A L.length c) ∧ RL w' w'.heap.size A L.length c L ∧ Below w.heap.size w w'
def AllRel (base n : Nat) (w : World) (L : Nat → List (List (List UInt8))) (o i : Value) (wr : World) : Prop :=
  ∃ A c vs, ∃ k : Nat, o = .slice A (L k).length c ∧ i = .int .i64 (k : Int) ∧ k ≤ n ∧ Oc 1 wr 48 base A (L k).length c vs ∧ RrsS wr (· < base) vs (L k) ∧ Below base w wr

set_option maxHeartbeats 2000000 in
set_option maxRecDepth 100000 in
/-- the document's All -/
theorem rall_c (A : Option Addr) (n c : Nat) (ps : List (Nat × List (List (List UInt8)))) (w : World) (hr : PL w w.heap.size A n c ps) (hn : n ≤ 1000000) (hz : (Tm.all ps).length ≤ 1000000) :
    Calls Try.prog 22 #[.slice A n c] w (RetA w (Tm.all ps)) := by
  have hl := hr.len
  have Hr := Lib.hid hr; have Hl := Lib.hid hl; clear hr hl
  go_enter Try.func22, Try.ntmps22
  go_wp2
  go_loopw [3, 4] (fun o i wr => AllRel w.heap.size n w (fun k => Tm.all (ps.take k)) o i wr) (fun _ i _ => n - (intOf i).toNat)
  case atStart => exact ⟨some ⟨w.heap.size, 0, none⟩, 0, [], 0, rfl, rfl, Nat.zero_le _, Oc.made0 1 _ _, RrsS.nil, (Below.refl _ _).alloc (Nat.le_refl _) _⟩
  case round =>
    obtain ⟨A3, c3, vs, k, rfl, rfl, hk, hown, hps, hbel⟩ := hrel
    dsimp only at hown hps ⊢
    have z3 := hbel.size
    rename World => wr
    have hlen : (Tm.all (ps.take k)).length ≤ 1000000 := Nat.le_trans (Tm.all_take ps k) hz
    by_cases hlt : k < n
    · obtain ⟨b, off, p, D, m, d, rfl, hb, hc1, hc2, hp, us, hu1, hu2⟩ := (Hr.out.below hbel).at_ hlt
      have hm : p.2.length = m := RLS.len ⟨us, hu1, hu2⟩
      have hsn := Tm.all_snoc ps k p hp
      have hlen2 : (Tm.all (ps.take k)).length + m ≤ 1000000 := by
        have := Tm.all_take ps (k + 1)
        rw [hsn, List.length_append, hm] at this
        omega
      obtain ⟨L, hL⟩ : ∃ L, L = Tm.all (ps.take k) := ⟨_, rfl⟩
      rw [← hL] at hown hps hsn hlen hlen2 ⊢
      have hps2 := hps.append hu2
      have h1 := rrs_one hu2
      have Hs := Lib.hid hsn; have Hm := Lib.hid hm; have Hown := Lib.hid hown; have Hps2 := Lib.hid hps2; have H1 := Lib.hid h1; have Hu := Lib.hid hu1.rc; clear hsn hm hown hps hps2 h1 hu1 hu2 hp hL
      go_wp2_with (at_builtin; go_must (refine Sl.wpAppAt rty rfl (.tmp 12) (.tmp 17) rfl (n := L.length) (m := m) (N := L.length + m) (ws := vs ++ us) rfl rfl Hown.out Hu.out H1.out rfl rfl ?hs4 ?hs5 ?hs6 ?_))
      case hs4 => omega
      case hs5 => omega
      case hs6 => omega
      intro A8 c8 w8 hown8 hg8
      have b8 := hg8.belowC Hown.out z3
      have bw8 := hbel.trans b8
      have hps8 := Hps2.out.keep (stays_below b8 (Nat.le_refl _))
      have Hown8 := Lib.hid hown8; have Hps8 := Lib.hid hps8; clear hown8 hps8 hg8
      go_wp2
      go_roundw
      case rel => exact ⟨A8, c8, vs ++ us, k + 1, by dsimp only; rw [Hs.out, List.length_append, Hm.out], by go_num, hlt, by dsimp only; rw [Hs.out, List.length_append, Hm.out]; exact Hown8.out, by dsimp only; rw [Hs.out]; exact Hps8.out, bw8⟩
      case measure => simp [intOf]; omega
    · have e : ps.take k = ps := List.take_of_length_le (by have := Hl.out; omega)
      rw [e] at hown hps ⊢
      have hfin : RL wr wr.heap.size A3 (Tm.all ps).length c3 (Tm.all ps) := ⟨vs, hown.rc, hps.keep (stays_below (Below.refl _ _) z3)⟩
      have Hfin := Lib.hid hfin; clear hown hps hfin e hlen
      go_wp2
      go_ret
      exact ⟨A3, c3, rfl, Hfin.out, hbel⟩

set_option maxHeartbeats 2000000 in
set_option maxRecDepth 100000 in
/-- the document's Of -/
theorem rof_c (A : Option Addr) (n c : Nat) (ps : List (Nat × List (List (List UInt8)))) (f t : Nat) (w : World) (hr : PL w w.heap.size A n c ps) (hn : n ≤ 1000000) (hz : (Tm.all ps).length ≤ 1000000) :
    Calls Try.prog 25 #[.slice A n c, .int .i64 (f : Int), .int .i64 (t : Int)] w (RetA w (Tm.all (Tm.btw f t ps))) := by
  have hl := hr.len
  have Hr := Lib.hid hr; have Hl := Lib.hid hl; clear hr hl
  go_enter Try.func25, Try.ntmps25
  go_wp2
  go_loopw [7, 8] (fun o i wr => AllRel w.heap.size n w (fun k => Tm.all (Tm.btw f t (ps.take k))) o i wr) (fun _ i _ => n - (intOf i).toNat)
  case atStart => exact ⟨some ⟨w.heap.size, 0, none⟩, 0, [], 0, rfl, rfl, Nat.zero_le _, Oc.made0 1 _ _, RrsS.nil, (Below.refl _ _).alloc (Nat.le_refl _) _⟩
  case round =>
    obtain ⟨A3, c3, vs, k, rfl, rfl, hk, hown, hps, hbel⟩ := hrel
    dsimp only at hown hps ⊢
    have z3 := hbel.size
    rename World => wr
    by_cases hlt : k < n
    · obtain ⟨b, off, p, D, m, d, rfl, hb, hc1, hc2, hp, us, hu1, hu2⟩ := (Hr.out.below hbel).at_ hlt
      have hm : p.2.length = m := RLS.len ⟨us, hu1, hu2⟩
      have hsn := Tm.btw_snoc f t ps k p hp
      have hlen2 : (Tm.all (Tm.btw f t (ps.take k))).length + m ≤ 2000000 := by
        have h1 := Nat.le_trans (Tm.btw_len f t (ps.take k)) (Tm.all_take ps k)
        have h2 := Tm.all_take ps (k + 1)
        rw [Tm.all_snoc ps k p hp, List.length_append, hm] at h2
        omega
      obtain ⟨L, hL⟩ : ∃ L, L = Tm.all (Tm.btw f t (ps.take k)) := ⟨_, rfl⟩
      rw [← hL] at hown hps hsn hlen2 ⊢
      by_cases hin : f ≤ p.1
      · by_cases hin2 : p.1 < t
        · have d1 : decide (f ≤ p.1) = true := by simpa using hin
          have d2 : decide (p.1 < t) = true := by simpa using hin2
          rw [d1, d2, Bool.true_and, if_pos rfl] at hsn
          have hps2 := hps.append hu2
          have h1 := rrs_one hu2
          have Hs := Lib.hid hsn; have Hm := Lib.hid hm; have Hown := Lib.hid hown; have Hps2 := Lib.hid hps2; have H1 := Lib.hid h1; have Hu := Lib.hid hu1.rc; clear hsn hm hown hps hps2 h1 hu1 hu2 hp hL
          go_wp2_with (at_builtin; go_must (refine Sl.wpAppAt rty rfl (.tmp 32) (.tmp 37) rfl (n := L.length) (m := m) (N := L.length + m) (ws := vs ++ us) rfl rfl Hown.out Hu.out H1.out rfl rfl ?hs4 ?hs5 ?hs6 ?_))
          case hs4 => omega
          case hs5 => omega
          case hs6 => omega
          intro A8 c8 w8 hown8 hg8
          have b8 := hg8.belowC Hown.out z3
          have bw8 := hbel.trans b8
          have hps8 := Hps2.out.keep (stays_below b8 (Nat.le_refl _))
          have Hown8 := Lib.hid hown8; have Hps8 := Lib.hid hps8; clear hown8 hps8 hg8
          go_wp2
          go_roundw
          case rel => exact ⟨A8, c8, vs ++ us, k + 1, by dsimp only; rw [Hs.out, List.length_append, Hm.out], by go_num, hlt, by dsimp only; rw [Hs.out, List.length_append, Hm.out]; exact Hown8.out, by dsimp only; rw [Hs.out]; exact Hps8.out, bw8⟩
          case measure => simp [intOf]; omega
        · have d1 : decide (f ≤ p.1) = true := by simpa using hin
          have d2 : decide (p.1 < t) = false := by simpa using hin2
          rw [d1, d2, Bool.true_and, if_neg (by simp)] at hsn
          have Hs := Lib.hid hsn; have Hown := Lib.hid hown; have Hps := Lib.hid hps; clear hsn hm hown hps hu1 hu2 hp hL
          go_wp2
          go_roundw
          case rel => exact ⟨A3, c3, vs, k + 1, by dsimp only; rw [Hs.out], by go_num, hlt, by dsimp only; rw [Hs.out]; exact Hown.out, by dsimp only; rw [Hs.out]; exact Hps.out, hbel⟩
          case measure => simp [intOf]; omega
      · have d1 : decide (f ≤ p.1) = false := by simpa using hin
        rw [d1, Bool.false_and, if_neg (by simp)] at hsn
        have Hs := Lib.hid hsn; have Hown := Lib.hid hown; have Hps := Lib.hid hps; clear hsn hm hown hps hu1 hu2 hp hL
        go_wp2
        go_roundw
        case rel => exact ⟨A3, c3, vs, k + 1, by dsimp only; rw [Hs.out], by go_num, hlt, by dsimp only; rw [Hs.out]; exact Hown.out, by dsimp only; rw [Hs.out]; exact Hps.out, hbel⟩
        case measure => simp [intOf]; omega
    · have e : ps.take k = ps := List.take_of_length_le (by have := Hl.out; omega)
      rw [e] at hown hps ⊢
      have hfin : RL wr wr.heap.size A3 (Tm.all (Tm.btw f t ps)).length c3 (Tm.all (Tm.btw f t ps)) := ⟨vs, hown.rc, hps.keep (stays_below (Below.refl _ _) z3)⟩
      have Hfin := Lib.hid hfin; clear hown hps hfin e
      go_wp2
      go_ret
      exact ⟨A3, c3, rfl, Hfin.out, hbel⟩
end Go.Proofs.Ytknlegjlbkaghaa
