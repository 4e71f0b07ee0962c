/-
  The document's Scan: what the call returns and leaves.
-/
import Derived.Test.YtknlegjlbkaghaaX2
namespace Go.Proofs.Ytknlegjlbkaghaa
open Go.RowKit Go.Maps

def seg (l : List UInt8) (f i : Nat) : List UInt8 := (l.take i).drop f
theorem seg_len (l : List UInt8) (f i : Nat) (h : i ≤ l.length) : (seg l f i).length = i - f := by unfold seg; rw [List.length_drop, List.length_take]; omega
theorem seg_nil (l : List UInt8) (i : Nat) : seg l i i = [] := by unfold seg; rw [List.drop_eq_nil_iff, List.length_take]; omega
theorem seg_snoc (l : List UInt8) (f i : Nat) (x : UInt8) (h : l[i]? = some x) (hf : f ≤ i) : seg l f (i + 1) = seg l f i ++ [x] := by
  have hi : i < l.length := (List.getElem?_eq_some_iff.1 h).1
  unfold seg
  rw [List.take_add_one, h, List.drop_append_of_le_length (by rw [List.length_take]; omega)]
  rfl
theorem seg_all (l : List UInt8) (f : Nat) : seg l f l.length = l.drop f := by unfold seg; rw [List.take_length]
def DScanRel (base n : Nat) (w : World) (l : List UInt8) (o f t : Value) (wr : World) : Prop :=
  ∃ A c vs done, ∃ k i : Nat, o = .slice A done.length c ∧ f = .int .i64 (k : Int) ∧ t = .int .i64 (i : Int) ∧ k ≤ i ∧ i ≤ n ∧ Oc 2 wr 30 base A done.length c vs ∧ PsS wr (Sf base wr A) vs (done.map Tm.pc) ∧
    done ++ Tm.lns k (seg l k i) (l.drop i) = Tm.ls l ∧ Below base w wr

set_option maxHeartbeats 4000000 in
set_option maxRecDepth 100000 in
/-- the document's Scan -/
theorem rscan_c (A : Option Addr) (n c : Nat) (l : List UInt8) (w : World) (hr : Rb w w.heap.size A n c l) (hn : n ≤ 1000000) :
    Calls Try.prog 11 #[.slice A n c] w (RetP w l) := by
  have hl := hr.len
  have Hr := Lib.hid hr; have Hl := Lib.hid hl; clear hr hl
  go_enter Try.func11, Try.ntmps11
  go_wp2
  go_loopw [5, 6, 7] (fun o f t wr => DScanRel w.heap.size n w l o f t wr) (fun _ _ t _ => n - (intOf t).toNat)
  case atStart => exact ⟨some ⟨w.heap.size, 0, none⟩, 0, [], [], 0, 0, rfl, rfl, rfl, Nat.le_refl _, Nat.zero_le _, Oc.made0 2 _ _, PsS.nil, rfl, (Below.refl _ _).alloc (Nat.le_refl _) _⟩
  case round =>
    obtain ⟨A3, c3, vs, done, f, i, rfl, rfl, rfl, hfi, hi, hown, hps, hst, hbel⟩ := hrel
    have z3 := hbel.size
    have hlen : done.length ≤ n := by
      have h1 := Tm.ls_len l
      have h2 := congrArg List.length hst
      rw [List.length_append] at h2
      have := Hl.out
      omega
    have hr3 := Hr.out.below hbel
    rename World => wr
    by_cases hlt : i < n
    · obtain ⟨b1, o1, x, rfl, hb1, hcell, hx, hdr⟩ := hr3.at_ hlt
      by_cases hx10 : x = 10
      · subst hx10
        have hst2 : (done ++ [(f, seg l f i)]) ++ Tm.lns (i + 1) (seg l (i + 1) (i + 1)) (l.drop (i + 1)) = Tm.ls l := by
          rw [hdr, Tm.lns_ten, seg_len l f i (by have := Hl.out; omega), show f + (i - f) + 1 = i + 1 by omega] at hst
          rw [← hst, seg_nil]; simp
        obtain ⟨E, hE, hrE⟩ := bty.mid_ hr3 (i := f) (k := i) hfi (by omega) (f : Int) (i : Int) rfl rfl (i - f) rfl
        have hcvE : (convert 22 9 (.slice E (i - f) (c - f))).run Try.prog wr = .ok (.string ⟨(seg l f i).toArray⟩) wr := bty.conv hrE
        obtain ⟨K, hK⟩ : ∃ K, K = seg l f i := ⟨_, rfl⟩
        rw [← hK] at hcvE hst2
        obtain ⟨w5, h5⟩ : ∃ w5, w5 = wr.alloc (.cells #[.string ⟨K.toArray⟩] 9) := ⟨_, rfl⟩
        obtain ⟨w6, h6⟩ : ∃ w6, w6 = w5.alloc (.cells #[.slice (some ⟨wr.heap.size, 0, none⟩) 1 1] 48) := ⟨_, rfl⟩
        obtain ⟨w7, h7⟩ : ∃ w7, w7 = w6.alloc (.cells #[.int .i64 (f : Int), .slice (some ⟨wr.heap.size + 1, 0, none⟩) 1 1] 30) := ⟨_, rfl⟩
        obtain ⟨z7, b7, hlit, hpr⟩ := piece_lit wr K f A3 w.heap.size _ _ _ z3 (oc_lt hown) w5 w6 w7 h5 h6 h7
        have hown7 := hown.keep b7
        have hps7 := (hps.keep (sf_below b7)).snoc hpr
        have bw7 := hbel.trans (b7.mono z3)
        have H5 := Lib.hid h5; have H6 := Lib.hid h6; have H7 := Lib.hid h7; have Hlit := Lib.hid hlit; have Hown7 := Lib.hid hown7; have Hps7 := Lib.hid hps7; have Z7 := Lib.hid z7; have Hst2 := Lib.hid hst2
        clear h5 h6 h7 hlit hpr hown7 hps7 z7 b7 hst hst2 hK hrE hr3 hdr hx hown hps
        go_wp2_with (at_builtin; rw [← H5.out, ← H6.out, ← H7.out]; go_must (refine Sl.wpAppAt pty rfl (.tmp 20) (.tmp 30) rfl (n := done.length) (m := 1) (N := done.length + 1) (ws := vs ++ [.int .i64 (f : Int), .slice (some ⟨wr.heap.size + 1, 0, none⟩) 1 1]) rfl rfl Hown7.out Hlit.out ?hs1 rfl rfl ?hs4 ?hs5 ?hs6 ?_))
        case hs1 => simp [Value.oneCell']
        case hs4 => omega
        case hs5 => omega
        case hs6 => have := Z7.out; omega
        intro A8 c8 w8 hown8 hg8
        have bw8 := bw7.trans (hg8.belowC Hown7.out (by have := Z7.out; omega))
        have hps8 := Hps7.out.keep (sf_grow hg8)
        have Hown8 := Lib.hid hown8; have Hps8 := Lib.hid hps8; clear hown8 hps8 hg8
        go_wp2
        go_roundw
        case rel => exact ⟨A8, c8, vs ++ [.int .i64 (f : Int), .slice (some ⟨wr.heap.size + 1, 0, none⟩) 1 1], done ++ [(f, K)], i + 1, i + 1, by simp, by go_num, by go_num, Nat.le_refl _, hlt, by rw [List.length_append]; exact Hown8.out, by rw [List.map_append]; exact Hps8.out, Hst2.out, bw8⟩
        case measure => simp [intOf]; omega
      · have hst2 : done ++ Tm.lns f (seg l f (i + 1)) (l.drop (i + 1)) = Tm.ls l := by
          rw [hdr, Tm.lns_go _ _ _ x hx10] at hst
          rw [← hst, seg_snoc l f i x hx hfi]
        have hxb := ten_ne hx10
        have Hst2 := Lib.hid hst2; have Hown := Lib.hid hown; have Hps := Lib.hid hps
        clear hst hst2 hr3 hdr hx hown hps hx10
        go_wp2
        go_roundw
        case rel => exact ⟨A3, c3, vs, done, f, i + 1, rfl, rfl, by go_num, by omega, hlt, Hown.out, Hps.out, Hst2.out, hbel⟩
        case measure => simp [intOf]; omega
    · have e : i = n := by omega
      subst e
      have hln : l.length = i := Hl.out
      have hsg : seg l f i = l.drop f := by rw [← hln]; exact seg_all l f
      by_cases hfn : f < i
      · have hst2 : done ++ [(f, l.drop f)] = Tm.ls l := by
          rw [hsg, ← hln, List.drop_length, Tm.lns_end, if_neg (by rw [List.isEmpty_iff, ← List.length_eq_zero_iff, List.length_drop]; omega)] at hst
          exact hst
        obtain ⟨E, hE, hrE⟩ := bty.from_ hr3 (k := f) hfi (f : Int) rfl
        have hcvE := bty.conv hrE
        obtain ⟨K, hK⟩ : ∃ K, K = l.drop f := ⟨_, rfl⟩
        rw [← hK] at hcvE hst2
        obtain ⟨w5, h5⟩ : ∃ w5, w5 = wr.alloc (.cells #[.string ⟨K.toArray⟩] 9) := ⟨_, rfl⟩
        obtain ⟨w6, h6⟩ : ∃ w6, w6 = w5.alloc (.cells #[.slice (some ⟨wr.heap.size, 0, none⟩) 1 1] 48) := ⟨_, rfl⟩
        obtain ⟨w7, h7⟩ : ∃ w7, w7 = w6.alloc (.cells #[.int .i64 (f : Int), .slice (some ⟨wr.heap.size + 1, 0, none⟩) 1 1] 30) := ⟨_, rfl⟩
        obtain ⟨z7, b7, hlit, hpr⟩ := piece_lit wr K f A3 w.heap.size _ _ _ z3 (oc_lt hown) w5 w6 w7 h5 h6 h7
        have hown7 := hown.keep b7
        have hps7 := (hps.keep (sf_below b7)).snoc hpr
        have bw7 := hbel.trans (b7.mono z3)
        have H5 := Lib.hid h5; have H6 := Lib.hid h6; have H7 := Lib.hid h7; have Hlit := Lib.hid hlit; have Hown7 := Lib.hid hown7; have Hps7 := Lib.hid hps7; have Z7 := Lib.hid z7; have Hst2 := Lib.hid hst2; have Hln := Lib.hid hln
        clear h5 h6 h7 hlit hpr hown7 hps7 z7 b7 hst hst2 hK hrE hr3 hown hps hsg hln
        go_wp2_with (at_builtin; rw [← H5.out, ← H6.out, ← H7.out]; go_must (refine Sl.wpAppAt pty rfl (.tmp 38) (.tmp 47) rfl (n := done.length) (m := 1) (N := done.length + 1) (ws := vs ++ [.int .i64 (f : Int), .slice (some ⟨wr.heap.size + 1, 0, none⟩) 1 1]) rfl rfl Hown7.out Hlit.out ?hs1 rfl rfl ?hs4 ?hs5 ?hs6 ?_))
        case hs1 => simp [Value.oneCell']
        case hs4 => omega
        case hs5 => omega
        case hs6 => have := Z7.out; omega
        intro A8 c8 w8 hown8 hg8
        have bw8 := bw7.trans (hg8.belowC Hown7.out (by have := Z7.out; omega))
        have hps8 := Hps7.out.keep (sf_grow hg8)
        have hfin : PLS w8 (Fr w.heap.size w8) A8 (done.length + 1) c8 ((done ++ [(f, K)]).map Tm.pc) := ⟨_, hown8.rcS, by rw [List.map_append]; exact hps8.keep (stays_weak sf_fr)⟩
        have Hfin := Lib.hid hfin; clear hown8 hps8 hg8 hfin
        go_wp2
        go_ret3
        refine ⟨A8, c8, ?_, ?_, bw8⟩
        · rw [← Hst2.out, Hln.out, List.length_append]; rfl
        · rw [← Hst2.out, List.length_append]; exact Hfin.out
      · have hd : done = Tm.ls l := by
          rw [hsg, ← hln, List.drop_length, Tm.lns_end, if_pos (by rw [List.isEmpty_iff, ← List.length_eq_zero_iff, List.length_drop]; omega)] at hst
          rw [← hst, List.append_nil]
        have hfin : PLS wr (Fr w.heap.size wr) A3 done.length c3 (done.map Tm.pc) := ⟨vs, hown.rcS, hps.keep (stays_weak sf_fr)⟩
        have Hd := Lib.hid hd; have Hfin := Lib.hid hfin; have Hln := Lib.hid hln; clear hst hown hps hd hfin hr3 hsg hln
        go_wp2
        go_ret3
        refine ⟨A3, c3, ?_, ?_, hbel⟩
        · rw [← Hd.out, Hln.out]; rfl
        · rw [← Hd.out]; exact Hfin.out
end Go.Proofs.Ytknlegjlbkaghaa
