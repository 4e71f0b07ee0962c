/-
  Joined: Va Vc.
-/
import Derived.Test.YtkekmokdlgocaaaGreatDoorJW2
import Derived.Test.YtkekmokdlgocaaaGreatDoorJW6
set_option maxRecDepth 100000
set_option maxHeartbeats 4000000
namespace Go.Proofs.YtkekmokdlgocaaaGreatDoor
open Go.RowKit
theorem rrs_one' {w : World} {S : Nat → Prop} {vs : List Value} {l : List (List (List UInt8))} (h : RrsS w S vs l) : ∀ v ∈ vs, v.oneCell' = true := fun v hv => by
 obtain ⟨j, hj, rfl⟩ := List.getElem_of_mem hv
 obtain ⟨A, n, c, e, _⟩ := h.2 j _ (l[j]'(by rw [← h.1]; exact hj)) (List.getElem?_eq_getElem hj) (List.getElem?_eq_getElem (by rw [← h.1]; exact hj))
 rw [e]; rfl
theorem recs_big (A A' : Option Addr) (n c c' : Nat) (l : List (List (List UInt8))) (w : World) (h1 : RL w w.heap.size A n c l) (h2 : RL w w.heap.size A' n c' l) (hn : n ≤ 100000000) (hz : ∀ r ∈ l, r.length ≤ 1000000) :
  Calls Tryz.prog 15 #[.slice A n c, .slice A' n c'] w (RetQ w (.bool true)) := by
 have H1 := ek h1; have H2 := ek h2; have Hz := ek hz; clear h1 h2 hz
 go_enter Tryz.func15, Tryz.ntmps15
 go_wp2
 go_loopw [5] (fun t wr => RecRel l A A' n c c' w t wr) (fun t _ => n - (intOf t).toNat)
 case atStart => exact ⟨0, rfl, Nat.zero_le _, H1.out, H2.out, 0, rfl⟩
 case round =>
  obtain ⟨k, rfl, hk, g1, g2, hq⟩ := hrel
  have Hq := ek hq; clear hq
  by_cases hlt : k < n
  ·obtain ⟨b1, o1, D1, m1, d1, r, rfl, hb1, hc1, hx1, _, hr1⟩ := g1.at_ hlt
   obtain ⟨b2, o2, D2, m2, d2, r2, rfl, hb2, hc2, hx2, _, hr2⟩ := g2.at_ hlt
   rw [hx1] at hx2
   injection hx2 with hx2
   subst hx2
   have e1 := lvs_num hr1
   have e2 := lvs_num hr2
   have hm : m1 ≤ 1000000 := by have := Hz.out r (List.mem_of_getElem? hx1); omega
   subst e1
   obtain rfl : r.length = m2 := e2
   have G1 := ek g1; have G2 := ek g2; have R1 := ek hr1; have R2 := ek hr2; clear hx1 g1 g2 hr1 hr2
   go_wp2_with fail
   go_quiet ((go_at_call 35; exact Calls.quiet_of (strings_c D1 D2 r.length d1 d2 _ _ r _ (R1.out.drewN _) (R2.out.drewN _) hm)))
   go_wp2
   go_roundw
   case rel => exact ⟨k + 1, by go_num, by omega, G1.out, G2.out, by obtain ⟨q, hq⟩ := Hq.out; exact ⟨_, by rw [hq, World.drewN_drewN]⟩⟩
   case measure => simp [intOf]; omega
  ·clear g1 g2
   go_wp2
   go_ret
   exact ⟨rfl, Hq.out⟩
def ivs (l : List Int) : List Value := l.map fun x => .int .i64 x
theorem ivs_get (l : List Int) (j : Nat) (x : Int) (h : l[j]? = some x) : (ivs l)[j]? = some (.int .i64 x) := by simp [ivs, h]
theorem ivs_length (l : List Int) : (ivs l).length = l.length := by simp [ivs]
theorem Rc.int {w : World} {B : Nat} {A : Option Addr} {n c k : Nat} {l : List Int} (h : Rc 1 w B A n c (ivs l)) (hk : k < n) :
  ∃ b off x, A = some ⟨b, off, none⟩ ∧ b < B ∧ w.cell? ⟨b, off + k, none⟩ = some (.int .i64 x) ∧ l[k]? = some x := by
 have hl : l.length = n := by have := h.len1; rw [ivs_length] at this; exact this
 obtain ⟨b, off, v, e, hb, hc, hv⟩ := h.at_ hk
 have hkl : k < l.length := by omega
 rw [ivs_get l k l[k] (List.getElem?_eq_getElem hkl)] at hv
 injection hv with hv
 subst hv
 exact ⟨b, off, l[k], e, hb, hc, List.getElem?_eq_getElem hkl⟩
theorem ity : Sl Tryz.prog 25 3 (.int .i64 0) 1 8 := ⟨Tryz.underlying25, by kernel_rfl, rfl, by omega⟩
def CutRel (base n : Nat) (w : World) (l : List Int) (o i : Value) (wr : World) : Prop :=
 ∃ A c, ∃ k : Nat, o = .slice A (Tm.cut l k).length c ∧ i = .int .i64 ((k + 1 : Nat) : Int) ∧ (k + 1 ≤ n ∨ k = 0) ∧ Oc 1 wr 3 base A (Tm.cut l k).length c (ivs (Tm.cut l k)) ∧ Below base w wr
def RetI (w : World) (L : List Int) (e : Ending) (w' : World) : Prop :=
 ∃ A c, e = .returned (.slice A L.length c) ∧ Oc 1 w' 3 w.heap.size A L.length c (ivs L) ∧ Below w.heap.size w w'
def CutIn (A : Option Addr) (L : List Int) (c : Nat) (l : List Int) (K : Int) (m : Nat) (o t : Value) : Prop := o = .slice A L.length c ∧ ∃ j : Nat, t = .int .i64 (j : Int) ∧ j ≤ m ∧ K ∉ l.take j
theorem cuts_c (A : Option Addr) (n m c B : Nat) (l : List Int) (w : World) (hr : Rc 1 w B A m c (ivs l)) (hB : B ≤ w.heap.size) (hn : n ≤ 1000000) :
  Calls Tryz.prog 21 #[.int .i64 (n : Int), .slice A m c] w (RetI w (Tm.cuts n l)) := by
 have hl : l.length = m := by have := hr.len1; rw [ivs_length] at this; exact this
 have hm : m ≤ 9223372036854775807 := by have h2 := hr.2.1; have h3 := hr.2.2.1; unfold maxLen at h3; omega
 have Hr := ek hr; have Hl := ek hl; clear hr hl
 go_enter Tryz.func21, Tryz.ntmps21
 go_wp2
 go_loopw [5, 6] (fun o i wr => CutRel w.heap.size n w l o i wr) (fun _ i _ => n - (intOf i).toNat)
 case atStart => exact ⟨some ⟨w.heap.size, 0, none⟩, 1, 0, rfl, rfl, .inr rfl, Oc.lit (z := 1) w 3 #[.int .i64 0] 1 rfl (by simp [maxLen]), ej _ _⟩
 case round =>
  obtain ⟨A3, c3, k, rfl, rfl, hk, hown, hbel⟩ := hrel
  have z3 := hbel.size
  rename World => wr
  obtain ⟨K, hK⟩ : ∃ K, K = k + 1 := ⟨_, rfl⟩
  have hcl := Tm.cut_len l k
  by_cases hlt : K < n
  ·have hr3 := (Hr.out.below (hbel.mono hB))
   have Hr3 := ek hr3; have Hown := ek hown; have HK := ek hK; clear hr3 hown
   rw [← hK] at hk ⊢
   have hK1 : 1 ≤ K := by omega
   have hcl2 : (Tm.cut l k).length ≤ 1000001 := by omega
   clear hK
   obtain ⟨L, hL⟩ : ∃ L, L = Tm.cut l k := ⟨_, rfl⟩
   have HL := ek hL
   rw [← hL] at hcl hcl2 ⊢
   clear hL
   go_wp2
   go_loop [5, 7] (fun o t => CutIn A3 L c3 l (K : Int) m o t) (fun _ t => m - (intOf t).toNat)
   case atStart => exact ⟨rfl, 0, rfl, Nat.zero_le _, by simp⟩
   case round =>
    obtain ⟨rfl, j, rfl, hj, hno⟩ := hrel
    have Hno := ek hno; clear hno
    by_cases hjt : j < m
    ·obtain ⟨b, off, x, rfl, hb, hcell, hx⟩ := Hr3.out.int hjt
     by_cases hxk : x = (K : Int)
     ·subst hxk
      have hc2 := Tm.cut_yes l k (by rw [← HK.out]; exact List.mem_of_getElem? hx)
      rw [← HK.out] at hc2
      have Hc2 := ek hc2; clear hx hc2
      obtain ⟨w5, h5⟩ : ∃ w5, w5 = wr.alloc (.cells #[.int .i64 (K : Int)] 3) := ⟨_, rfl⟩
      have b5 : Below wr.heap.size wr w5 := by rw [h5]; exact ej _ _
      have hlit : Rc 1 w5 (wr.heap.size + 1) (some ⟨wr.heap.size, 0, none⟩) 1 1 [.int .i64 (K : Int)] := by rw [h5]; exact Rc.lit (z := 1) wr _ #[.int .i64 (K : Int)] 1 rfl (by simp [maxLen])
      have hown5 := Hown.out.keep b5
      rw [← HL.out] at hown5
      have bw5 := hbel.trans (b5.mono z3)
      have z5 := b5.size
      have H5 := ek h5; have Hlit := ek hlit; have Hown5 := ek hown5; clear h5 hlit hown5 b5
      go_wp2_with (at_builtin; rw [← H5.out]; go_must (refine Sl.wpAppAt ity rfl (.tmp 26) (.tmp 28) rfl (n := L.length) (m := 1) (N := L.length + 1) (ws := ivs L ++ [.int .i64 (K : Int)]) rfl rfl Hown5.out Hlit.out ?hs1 rfl rfl ?hs4 ?hs5 ?hs6 ?_))
      case hs1 => simp [Value.oneCell']
      case hs4 => omega
      case hs5 => omega
      case hs6 => omega
      intro A8 c8 w8 hown8 hg8
      have bw8 := bw5.trans (hg8.belowC Hown5.out (by omega))
      have hown8' : Oc 1 w8 3 w.heap.size A8 (Tm.cut l K).length c8 (ivs (Tm.cut l K)) := by
       rw [Hc2.out, ← HL.out, List.length_append]
       have e : ivs (L ++ [(K : Int)]) = ivs L ++ [.int .i64 (K : Int)] := by simp [ivs]
       rw [e]
       exact hown8
      have Hown8 := ek hown8'; clear hown8 hown8' hg8
      go_wp2
      go_roundw
      case rel => exact ⟨A8, c8, K, by rw [Hc2.out, ← HL.out, List.length_append]; rfl, by go_num, .inl hlt, Hown8.out, bw8⟩
      case measure => simp [intOf]; omega
     ·have dx : (x == (K : Int)) = false := by rw [beq_eq_false_iff_ne]; exact hxk
      have hno2 : (K : Int) ∉ l.take (j + 1) := by
       rw [List.take_add_one, hx, List.mem_append]
       intro h
       rcases h with h | h
       ·exact Hno.out h
       ·simp at h; exact hxk h.symm
      have Hno2 := ek hno2; clear hno2 hx hxk
      go_wp2
      go_round
      case rel => exact ⟨rfl, j + 1, by go_num, hjt, Hno2.out⟩
      case measure => simp [intOf]; omega
    ·have hc2 : Tm.cut l K = Tm.cut l k := by
      have h := Hno.out
      rw [List.take_of_length_le (by rw [Hl.out]; omega)] at h
      rw [HK.out] at h ⊢
      exact Tm.cut_no l k h
     have Hc2 := ek hc2; clear hc2
     go_wp2
     go_roundw
     case rel => exact ⟨A3, c3, K, by rw [Hc2.out, ← HL.out], by go_num, .inl hlt, by rw [Hc2.out]; exact Hown.out, hbel⟩
     case measure => simp [intOf]; omega
  ·rw [← hK]
   have Hown := ek hown; clear hown
   by_cases hn0 : 0 < n
   ·have hk2 : k + 1 = n := by omega
    have hfin := Tm.cuts_pos n l hn0
    rw [show n - 1 = k by omega] at hfin
    have Hfin := ek hfin; clear hfin
    obtain ⟨L, hL⟩ : ∃ L, L = Tm.cut l k := ⟨_, rfl⟩
    have HL := ek hL
    rw [← hL] at hcl ⊢
    have hLn : L.length ≤ 1000001 := by omega
    clear hL hK hk2 hk
    obtain ⟨w5, h5⟩ : ∃ w5, w5 = wr.alloc (.cells #[.int .i64 (n : Int)] 3) := ⟨_, rfl⟩
    have b5 : Below wr.heap.size wr w5 := by rw [h5]; exact ej _ _
    have hlit : Rc 1 w5 (wr.heap.size + 1) (some ⟨wr.heap.size, 0, none⟩) 1 1 [.int .i64 (n : Int)] := by rw [h5]; exact Rc.lit (z := 1) wr _ #[.int .i64 (n : Int)] 1 rfl (by simp [maxLen])
    have hown5 := Hown.out.keep b5
    rw [← HL.out] at hown5
    have bw5 := hbel.trans (b5.mono z3)
    have z5 := b5.size
    have H5 := ek h5; have Hlit := ek hlit; have Hown5 := ek hown5; clear h5 hlit hown5 b5
    go_wp2_with (at_builtin; rw [← H5.out]; go_must (refine Sl.wpAppAt ity rfl (.tmp 32) (.tmp 34) rfl (n := L.length) (m := 1) (N := L.length + 1) (ws := ivs L ++ [.int .i64 (n : Int)]) rfl rfl Hown5.out Hlit.out ?hs1 rfl rfl ?hs4 ?hs5 ?hs6 ?_))
    case hs1 => simp [Value.oneCell']
    case hs4 => omega
    case hs5 => omega
    case hs6 => omega
    intro A8 c8 w8 hown8 hg8
    have bw8 := bw5.trans (hg8.belowC Hown5.out (by omega))
    have hown8' : Oc 1 w8 3 w.heap.size A8 (Tm.cuts n l).length c8 (ivs (Tm.cuts n l)) := by
     rw [Hfin.out, ← HL.out, List.length_append]
     have e : ivs (L ++ [(n : Int)]) = ivs L ++ [.int .i64 (n : Int)] := by simp [ivs]
     rw [e]
     exact hown8
    have Hown8 := ek hown8'; clear hown8 hown8' hg8
    go_wp2
    go_ret
    exact ⟨A8, c8, by rw [Hfin.out, ← HL.out, List.length_append]; rfl, Hown8.out, bw8⟩
   ·obtain rfl : n = 0 := by omega
    obtain rfl : k = 0 := by omega
    have hfin : Tm.cut l 0 = Tm.cuts 0 l := rfl
    rw [hfin] at Hown ⊢
    clear hK
    go_wp2
    go_ret
    exact ⟨A3, c3, rfl, Hown.out, hbel⟩
end Go.Proofs.YtkekmokdlgocaaaGreatDoor
