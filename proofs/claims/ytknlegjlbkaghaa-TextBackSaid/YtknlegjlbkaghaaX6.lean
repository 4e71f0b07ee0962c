/-
  The document's Cuts; the live question of threshinglaw05.
-/
import Derived.Test.YtknlegjlbkaghaaX5
import Derived.Lib.SlBytesConst
namespace Go.Proofs.Ytknlegjlbkaghaa
open Go.RowKit Go.Maps

/-- A constant's row of bytes. -/
theorem Rb.lit (w : World) (e : TypeId) (fz : Nat × Nat) (cs : Array Value) (l : List UInt8) (n : Nat) (h : cs.toList = bvs l) (hn : l.length = n) (hl : n ≤ 1000000) : Rb (w.alloc (.cells cs e fz)) (w.heap.size + 1) (some ⟨w.heap.size, 0, none⟩) n n l := by
  refine ⟨hn, Nat.le_refl _, by simp only [maxLen]; omega, fun _ => ⟨_, _, rfl, by omega, fun j x hx => ?_⟩⟩
  rw [cell_of_row (w.alloc (.cells cs e fz)) w.heap.size (0 + j) cs e fz (by show (w.heap.push _)[w.heap.size]? = _; simp), Nat.zero_add, ← Array.getElem?_toList, h]
  simp [bvs, hx]

theorem Rc.litAt {z : Nat} (w : World) (e : TypeId) (cs : Array Value) (n g : Nat) (hg : g = w.heap.size) (h : cs.size = n * z) (hn : n ≤ maxLen) : Rc z (w.alloc (.cells cs e)) (g + 1) (some ⟨g, 0, none⟩) n n cs.toList := by
  subst hg
  exact Rc.lit w e cs n h hn

set_option maxRecDepth 100000 in
set_option maxHeartbeats 2000000 in
theorem alive_c (w : World) : Calls Try.prog 9 #[] w fun e w' => e = .returned (.bool true) ∧ Below w.heap.size w w' := by
  have hls : Tm.ls [97, 10, 98] = [(0, [97]), (2, [98])] := by decide
  have hsc : ∀ W A n c, Rb W W.heap.size A n c [97, 10, 98] → n ≤ 1000000 → Calls Try.prog 10 #[.slice A n c] W fun e w' => ∃ A c b off, e = .returned (.tuple #[.slice A 2 c, .int .i64 3, .int .i64 0]) ∧ A = some ⟨b, off, none⟩ ∧ b < w'.heap.size ∧ w'.cell? ⟨b, off + 2, none⟩ = some (.int .i64 2) ∧ Below W.heap.size W w' := fun W A n c h hn => (scan_c A n c _ W h hn).mono fun e w' hp => by
    obtain ⟨A1, c1, he, hp, hb⟩ := hp
    rw [hls] at he hp
    obtain ⟨b, off, p, D, m, d, hA, hS, hc1, _, hx, _⟩ := hp.at_ (k := 1) (by decide)
    obtain rfl : p = (2, [[[98]]]) := by simpa [Tm.pc] using hx.symm
    exact ⟨A1, c1, b, off, he, hA, hS.2, hc1, hb⟩
  have hwr : Tm.wrS [[[97, 10]]] = ([], 10) := by decide
  have Hsc := Lib.hid hsc; clear hsc hls
  have hcv := Lib.run_convert_bytes_const (P := Try.prog) w 22 5 #[.int .u8 97, .int .u8 10, .int .u8 98] 3 3 Try.underlying22 Try.underlying5
  go_enter Try.func9, Try.ntmps9
  go_wp2_with fail
  refine (Hsc.out _ _ _ _ ((Rb.lit w _ _ _ [97, 10, 98] 3 rfl rfl (by omega)).more (by simp)) (by omega)).mono ?_
  rintro e w1 ⟨A1, c1, b, off, rfl, rfl, hb, hc, hb1⟩
  have z1 := hb1.size
  have Hc := Lib.hid hc; clear hc
  obtain ⟨w5, h5⟩ : ∃ w5, w5 = w1.alloc (.cells #[.string ⟨#[97, 10]⟩] 9) := ⟨_, rfl⟩
  obtain ⟨w6, h6⟩ : ∃ w6, w6 = w5.alloc (.cells #[.slice (some ⟨w1.heap.size, 0, none⟩) 1 1] 48) := ⟨_, rfl⟩
  obtain ⟨z6, b6, hlit, hpr⟩ := rec_lit w1 [97, 10] none 0 _ _ (Nat.zero_le _) (fun g hg => by cases hg) w5 w6 h5 h6
  have hrl : RL w6 w6.heap.size (some ⟨w1.heap.size + 1, 0, none⟩) 1 1 [[[97, 10]]] := ⟨_, hlit, RrsS.snoc RrsS.nil (hpr.keep (stays_weak fun b h => h.2.1))⟩
  have H5 := Lib.hid h5; have H6 := Lib.hid h6; have Hrl := Lib.hid hrl; have Z6 := Lib.hid z6; have Hwr := Lib.hid hwr; clear h5 h6 hlit hpr hrl z6 hwr
  go_wp2_with fail
  rw [← H5.out, ← H6.out]
  refine (write_c _ 1 1 [[[97, 10]]] _ Hrl.out (by omega) (by decide)).mono ?_
  rw [Hwr.out]
  rintro e w7 ⟨A7, c7, rfl, hown7, hb7⟩
  have b17 : Below w1.heap.size w1 w7 := b6.trans (hb7.mono (by have := Z6.out; omega))
  have hc7 := (b17.cell (p := ⟨b, off + 2, none⟩) hb).trans Hc.out
  have bz : Below w.heap.size w w7 := (((Below.refl _ _).alloc (Nat.le_refl _) _).trans (hb1.mono (by simp))).trans (b17.mono (by simp at z1; omega))
  clear hown7
  go_wp2
  go_ret
  exact ⟨rfl, bz⟩

/-- The cells of numbers. -/
def ivs (l : List Int) : List Value := l.map fun x => .int .i64 x
theorem ivs_get (l : List Int) (j : Nat) (x : Int) (h : l[j]? = some x) : (ivs l)[j]? = some (.int .i64 x) := by simp [ivs, h]
theorem ivs_length (l : List Int) : (ivs l).length = l.length := by simp [ivs]
theorem Rc.int {w : World} {B : Nat} {A : Option Addr} {n c k : Nat} {l : List Int} (h : Rc 1 w B A n c (ivs l)) (hk : k < n) :
    ∃ b off x, A = some ⟨b, off, none⟩ ∧ b < B ∧ w.cell? ⟨b, off + k, none⟩ = some (.int .i64 x) ∧ l[k]? = some x := by
  have hl : l.length = n := by have := h.len1; rw [ivs_length] at this; exact this
  obtain ⟨b, off, v, e, hb, hc, hv⟩ := h.at_ hk
  have hkl : k < l.length := by omega
  rw [ivs_get l k l[k] (List.getElem?_eq_getElem hkl)] at hv
  injection hv with hv
  subst hv
  exact ⟨b, off, l[k], e, hb, hc, List.getElem?_eq_getElem hkl⟩
theorem ity : Sl Try.prog 42 3 (.int .i64 0) 1 8 := ⟨Try.underlying42, by kernel_rfl, rfl, by omega⟩
def CutRel (base n : Nat) (w : World) (l : List Int) (o i : Value) (wr : World) : Prop :=
  ∃ A c, ∃ k : Nat, o = .slice A (Tm.cut l k).length c ∧ i = .int .i64 ((k + 1 : Nat) : Int) ∧ (k + 1 ≤ n ∨ k = 0) ∧ Oc 1 wr 3 base A (Tm.cut l k).length c (ivs (Tm.cut l k)) ∧ Below base w wr
def RetI (w : World) (L : List Int) (e : Ending) (w' : World) : Prop :=
  ∃ A c, e = .returned (.slice A L.length c) ∧ Oc 1 w' 3 w.heap.size A L.length c (ivs L) ∧ Below w.heap.size w w'
def CutIn (A : Option Addr) (L : List Int) (c : Nat) (l : List Int) (K : Int) (m : Nat) (o t : Value) : Prop := o = .slice A L.length c ∧ ∃ j : Nat, t = .int .i64 (j : Int) ∧ j ≤ m ∧ K ∉ l.take j

set_option maxRecDepth 100000 in
set_option maxHeartbeats 4000000 in
/-- the document's Cuts -/
theorem cuts_c (A : Option Addr) (n m c B : Nat) (l : List Int) (w : World) (hr : Rc 1 w B A m c (ivs l)) (hB : B ≤ w.heap.size) (hn : n ≤ 1000000) :
    Calls Try.prog 21 #[.int .i64 (n : Int), .slice A m c] w (RetI w (Tm.cuts n l)) := by
  have hl : l.length = m := by have := hr.len1; rw [ivs_length] at this; exact this
  have hm : m ≤ 9223372036854775807 := by have h2 := hr.2.1; have h3 := hr.2.2.1; unfold maxLen at h3; omega
  have Hr := Lib.hid hr; have Hl := Lib.hid hl; clear hr hl
  go_enter Try.func21, Try.ntmps21
  go_wp2
  go_loopw [5, 6] (fun o i wr => CutRel w.heap.size n w l o i wr) (fun _ i _ => n - (intOf i).toNat)
  case atStart => exact ⟨some ⟨w.heap.size, 0, none⟩, 1, 0, rfl, rfl, .inr rfl, Oc.lit (z := 1) w 3 #[.int .i64 0] 1 rfl (by simp [maxLen]), (Below.refl _ _).alloc (Nat.le_refl _) _⟩
  case round =>
    obtain ⟨A3, c3, k, rfl, rfl, hk, hown, hbel⟩ := hrel
    have z3 := hbel.size
    rename World => wr
    obtain ⟨K, hK⟩ : ∃ K, K = k + 1 := ⟨_, rfl⟩
    have hcl := Tm.cut_len l k
    by_cases hlt : K < n
    · have hr3 := (Hr.out.below (hbel.mono hB))
      have Hr3 := Lib.hid hr3; have Hown := Lib.hid hown; have HK := Lib.hid hK; clear hr3 hown
      rw [← hK] at hk ⊢
      have hK1 : 1 ≤ K := by omega
      have hcl2 : (Tm.cut l k).length ≤ 1000001 := by omega
      clear hK
      obtain ⟨L, hL⟩ : ∃ L, L = Tm.cut l k := ⟨_, rfl⟩
      have HL := Lib.hid hL
      rw [← hL] at hcl hcl2 ⊢
      clear hL
      go_wp2
      go_loop [5, 7] (fun o t => CutIn A3 L c3 l (K : Int) m o t) (fun _ t => m - (intOf t).toNat)
      case atStart => exact ⟨rfl, 0, rfl, Nat.zero_le _, by simp⟩
      case round =>
        obtain ⟨rfl, j, rfl, hj, hno⟩ := hrel
        have Hno := Lib.hid hno; clear hno
        by_cases hjt : j < m
        · obtain ⟨b, off, x, rfl, hb, hcell, hx⟩ := Hr3.out.int hjt
          by_cases hxk : x = (K : Int)
          · subst hxk
            have hc2 := Tm.cut_yes l k (by rw [← HK.out]; exact List.mem_of_getElem? hx)
            rw [← HK.out] at hc2
            have Hc2 := Lib.hid hc2; clear hx hc2
            obtain ⟨w5, h5⟩ : ∃ w5, w5 = wr.alloc (.cells #[.int .i64 (K : Int)] 3) := ⟨_, rfl⟩
            have b5 : Below wr.heap.size wr w5 := by rw [h5]; exact (Below.refl _ _).alloc (Nat.le_refl _) _
            have hlit : Rc 1 w5 (wr.heap.size + 1) (some ⟨wr.heap.size, 0, none⟩) 1 1 [.int .i64 (K : Int)] := by rw [h5]; exact Rc.lit (z := 1) wr _ #[.int .i64 (K : Int)] 1 rfl (by simp [maxLen])
            have hown5 := Hown.out.keep b5
            rw [← HL.out] at hown5
            have bw5 := hbel.trans (b5.mono z3)
            have z5 := b5.size
            have H5 := Lib.hid h5; have Hlit := Lib.hid hlit; have Hown5 := Lib.hid hown5; clear h5 hlit hown5 b5
            go_wp2_with (at_builtin; rw [← H5.out]; go_must (refine Sl.wpAppAt ity rfl (.tmp 26) (.tmp 28) rfl (n := L.length) (m := 1) (N := L.length + 1) (ws := ivs L ++ [.int .i64 (K : Int)]) rfl rfl Hown5.out Hlit.out ?hs1 rfl rfl ?hs4 ?hs5 ?hs6 ?_))
            case hs1 => simp [Value.oneCell']
            case hs4 => omega
            case hs5 => omega
            case hs6 => omega
            intro A8 c8 w8 hown8 hg8
            have bw8 := bw5.trans (hg8.belowC Hown5.out (by omega))
            have hown8' : Oc 1 w8 3 w.heap.size A8 (Tm.cut l K).length c8 (ivs (Tm.cut l K)) := by
              rw [Hc2.out, ← HL.out, List.length_append]
              have e : ivs (L ++ [(K : Int)]) = ivs L ++ [.int .i64 (K : Int)] := by simp [ivs]
              rw [e]
              exact hown8
            have Hown8 := Lib.hid hown8'; clear hown8 hown8' hg8
            go_wp2
            go_roundw
            case rel => exact ⟨A8, c8, K, by rw [Hc2.out, ← HL.out, List.length_append]; rfl, by go_num, .inl hlt, Hown8.out, bw8⟩
            case measure => simp [intOf]; omega
          · have dx : (x == (K : Int)) = false := by rw [beq_eq_false_iff_ne]; exact hxk
            have hno2 : (K : Int) ∉ l.take (j + 1) := by
              rw [List.take_add_one, hx, List.mem_append]
              intro h
              rcases h with h | h
              · exact Hno.out h
              · simp at h; exact hxk h.symm
            have Hno2 := Lib.hid hno2; clear hno2 hx hxk
            go_wp2
            go_round
            case rel => exact ⟨rfl, j + 1, by go_num, hjt, Hno2.out⟩
            case measure => simp [intOf]; omega
        · have hc2 : Tm.cut l K = Tm.cut l k := by
            have h := Hno.out
            rw [List.take_of_length_le (by rw [Hl.out]; omega)] at h
            rw [HK.out] at h ⊢
            exact Tm.cut_no l k h
          have Hc2 := Lib.hid hc2; clear hc2
          go_wp2
          go_roundw
          case rel => exact ⟨A3, c3, K, by rw [Hc2.out, ← HL.out], by go_num, .inl hlt, by rw [Hc2.out]; exact Hown.out, hbel⟩
          case measure => simp [intOf]; omega
    · rw [← hK]
      have Hown := Lib.hid hown; clear hown
      by_cases hn0 : 0 < n
      · have hk2 : k + 1 = n := by omega
        have hfin := Tm.cuts_pos n l hn0
        rw [show n - 1 = k by omega] at hfin
        have Hfin := Lib.hid hfin; clear hfin
        obtain ⟨L, hL⟩ : ∃ L, L = Tm.cut l k := ⟨_, rfl⟩
        have HL := Lib.hid hL
        rw [← hL] at hcl ⊢
        have hLn : L.length ≤ 1000001 := by omega
        clear hL hK hk2 hk
        obtain ⟨w5, h5⟩ : ∃ w5, w5 = wr.alloc (.cells #[.int .i64 (n : Int)] 3) := ⟨_, rfl⟩
        have b5 : Below wr.heap.size wr w5 := by rw [h5]; exact (Below.refl _ _).alloc (Nat.le_refl _) _
        have hlit : Rc 1 w5 (wr.heap.size + 1) (some ⟨wr.heap.size, 0, none⟩) 1 1 [.int .i64 (n : Int)] := by rw [h5]; exact Rc.lit (z := 1) wr _ #[.int .i64 (n : Int)] 1 rfl (by simp [maxLen])
        have hown5 := Hown.out.keep b5
        rw [← HL.out] at hown5
        have bw5 := hbel.trans (b5.mono z3)
        have z5 := b5.size
        have H5 := Lib.hid h5; have Hlit := Lib.hid hlit; have Hown5 := Lib.hid hown5; clear h5 hlit hown5 b5
        go_wp2_with (at_builtin; rw [← H5.out]; go_must (refine Sl.wpAppAt ity rfl (.tmp 32) (.tmp 34) rfl (n := L.length) (m := 1) (N := L.length + 1) (ws := ivs L ++ [.int .i64 (n : Int)]) rfl rfl Hown5.out Hlit.out ?hs1 rfl rfl ?hs4 ?hs5 ?hs6 ?_))
        case hs1 => simp [Value.oneCell']
        case hs4 => omega
        case hs5 => omega
        case hs6 => omega
        intro A8 c8 w8 hown8 hg8
        have bw8 := bw5.trans (hg8.belowC Hown5.out (by omega))
        have hown8' : Oc 1 w8 3 w.heap.size A8 (Tm.cuts n l).length c8 (ivs (Tm.cuts n l)) := by
          rw [Hfin.out, ← HL.out, List.length_append]
          have e : ivs (L ++ [(n : Int)]) = ivs L ++ [.int .i64 (n : Int)] := by simp [ivs]
          rw [e]
          exact hown8
        have Hown8 := Lib.hid hown8'; clear hown8 hown8' hg8
        go_wp2
        go_ret
        exact ⟨A8, c8, by rw [Hfin.out, ← HL.out, List.length_append]; rfl, Hown8.out, bw8⟩
      · obtain rfl : n = 0 := by omega
        obtain rfl : k = 0 := by omega
        have hfin : Tm.cut l 0 = Tm.cuts 0 l := rfl
        rw [hfin] at Hown ⊢
        clear hK
        go_wp2
        go_ret
        exact ⟨A3, c3, rfl, Hown.out, hbel⟩
end Go.Proofs.Ytknlegjlbkaghaa
