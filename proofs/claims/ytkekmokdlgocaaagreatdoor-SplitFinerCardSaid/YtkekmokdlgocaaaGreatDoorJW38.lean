/-
  Joined: N6.
-/
import Derived.Test.YtkekmokdlgocaaaGreatDoorJW14
import Derived.Test.YtkekmokdlgocaaaGreatDoorJW37
import Derived.Test.YtkekmokdlgocaaaGreatDoorJW13
import Derived.Lib.OwnBridge
set_option maxRecDepth 100000
set_option maxHeartbeats 4000000
namespace Go.Proofs.YtkekmokdlgocaaaGreatDoor.Pl
open Go.RowKit
theorem cpt_snoc (l : List Nat) (h : l ≠ []) (x : Nat) : cpt (l ++ [x]) = psh (cpt l) x := by
 obtain ⟨a, t, rfl⟩ := List.exists_cons_of_ne_nil h
 rw [List.cons_append, cpt_psh, cpt_psh, List.foldl_append]
 rfl
theorem ic_at (l : List Nat) (m x : Nat) (h : l[m]? = some x) : (ic l).toArray[m]! = (x : Int) := by
 have h1 := ic_get h
 have h2 : (ic l).toArray[m]? = some (x : Int) := by rw [List.getElem?_toArray]; exact h1
 rw [getElem!_def, h2]
theorem compact_upTo (l : List Nat) : ∀ m, m ≤ l.length → Lib.compactUpTo (ic l).toArray m = ic (cpt (l.take m))
 | 0, _ => by simp [Lib.compactUpTo, ic, cpt]
 | m + 1, h => by
  obtain ⟨x, hx⟩ : ∃ x, l[m]? = some x := ⟨l[m], List.getElem?_eq_getElem (by omega)⟩
  rw [Lib.compactUpTo_succ, compact_upTo l m (by omega), List.take_add_one, hx, ic_at l m x hx]
  rcases Nat.eq_zero_or_pos m with h0 | h0
  ·subst h0
   simp [Lib.keeps, ic, cpt]
  ·obtain ⟨y, hy⟩ : ∃ y, l[m - 1]? = some y := ⟨l[m - 1], List.getElem?_eq_getElem (by omega)⟩
   have hlast : (l.take m).getLast? = some y := by
    rw [List.getLast?_eq_getElem?, List.length_take, Nat.min_eq_left (by omega), List.getElem?_take, if_pos (by omega)]
    exact hy
   have hne : l.take m ≠ [] := fun e => by rw [e] at hlast; cases hlast
   show _ = ic (cpt (l.take m ++ [x]))
   rw [cpt_snoc _ hne, psh, cpt_last, hlast]
   have hk : Lib.keeps (ic l).toArray m = decide (x ≠ y) := by
    unfold Lib.keeps
    rw [ic_at l m x hx, ic_at l (m - 1) y hy]
    apply decide_eq_decide.2
    constructor
    ·rintro (e | e)
     ·omega
     ·exact fun q => e (by rw [q])
    ·exact fun e => .inr fun q => e (by omega)
   rw [hk]
   by_cases hxy : x = y
   ·subst hxy
    simp
   ·have hyx : ¬ y = x := fun e => hxy e.symm
    simp [hxy, hyx, ic]
theorem compact_cpt (l : List Nat) : Lib.compact (ic l) = ic (cpt l) := by
 unfold Lib.compact
 rw [ic_len, compact_upTo l _ (Nat.le_refl _), List.take_length]
theorem compactIn_c (A : Option Addr) (m c base : Nat) (l : List Nat) (w : World) (h : Oc 1 w 3 base A m c (ivs (ic l))) :
  Calls Tryz.prog 44 #[.slice A m c] w fun e w' => ∃ A' c', e = .returned (.slice A' (cpt l).length c') ∧ Oc 1 w' 3 base A' (cpt l).length c' (ivs (ic (cpt l))) ∧ Below base w w' := by
 have hl : l.length = m := by have := h.rc.len1; rw [ivs_length, ic_len] at this; exact this
 by_cases h0 : m = 0
 ·subst h0
  obtain rfl : l = [] := List.eq_nil_of_length_eq_zero hl
  exact (Tryz.slices_Compact_int_empty A c w).mono fun e w' ⟨h1, h2⟩ => ⟨A, c, h1, by rw [h2]; exact h, by rw [h2]; exact Below.refl _ _⟩
 ·have h' : w.ownsRow base 3 1 (.slice A m c) m ((ic l).map (Value.int .i64)) := h
  obtain ⟨g, cap, hv, hg, hlt, hmc, hcm, hzl, hH⟩ := Lib.holds_of_ownsRow h' (fun e => by injection e with e1 e2 e3; omega)
  injection hv with hv1 hv2 hv3
  subst hv1 hv3
  have hml : c ≤ 9223372036854775807 := by unfold maxLen at hcm; omega
  have hc := Tryz.slices_Compact_int g 0 c (ic l) w hH (by omega) (by omega)
  rw [hzl, compact_cpt, ic_len] at hc
  have hcl := cpt_len l
  refine hc.mono ?_
  rintro e w' ⟨h1, q, h2⟩
  refine ⟨_, c, h1, ?_, ?_⟩
  ·rw [h2]
   have := Lib.ownsRow_putRow (q := q) (k := (cpt l).length) (ys := ic (cpt l) ++ List.replicate (m - (cpt l).length) 0) h' (by simp [ic_len]; omega) (by omega)
   rw [List.take_append_of_le_length (by rw [ic_len]; exact Nat.le_refl _), List.take_of_length_le (by rw [ic_len]; exact Nat.le_refl _)] at this
   exact this
  ·rw [h2]
   exact Lib.below_putRow (Below.refl _ _) hg
theorem clone_c (A : Option Addr) (m c : Nat) (l : List Nat) (w : World) (h : Rc 1 w w.heap.size A m c (ivs (ic l))) (h1 : 1 ≤ m) (hm : m ≤ 1000000) :
  Calls Tryz.prog 45 #[.slice A m c] w fun e w' => ∃ A' c', e = .returned (.slice A' m c') ∧ Oc 1 w' 3 w.heap.size A' m c' (ivs (ic l)) ∧ Below w.heap.size w w' := by
 obtain ⟨b, off, x, rfl, hb, hcx, hx⟩ := h.int (k := 0) (by omega)
 obtain ⟨w5, h5⟩ : ∃ w5, w5 = w.alloc (.cells #[] 3) := ⟨_, rfl⟩
 have b5 : Below w.heap.size w w5 := by rw [h5]; exact ej _ _
 have hown : Oc 1 w5 3 w.heap.size (some ⟨w.heap.size, 0, none⟩) 0 0 [] := by rw [h5]; exact Oc.made0 1 _ _
 have hr5 := h.below b5
 have z5 : w5.heap.size = w.heap.size + 1 := by rw [h5]; simp
 have H5 := ek h5; have Hown := ek hown; have Hr := ek (hr5.more (show w.heap.size ≤ w5.heap.size by omega))
 clear h5 hown hr5 h hcx hx
 have q22 : ∀ (w : World) (a : Option Addr) (n c n' c' : Nat), (binOp .eql 25 (.slice a n c) (.slice none n' c')).run Tryz.prog w = .ok (.bool a.isNone) w := fun w a n c n' c' => Lib.run_eql_slice_nil w _ _ a n c n' c' Tryz.underlying25
 go_enter Tryz.func45, Tryz.ntmps45
 go_wp2_with (at_builtin; rw [← H5.out]; go_must (refine Sl.wpAppAt ity rfl (.tmp 5) (.tmp 6) rfl (n := 0) (m := m) (N := m) (ws := ivs (ic l)) rfl rfl Hown.out Hr.out ?hs1 ?hs2 rfl ?hs4 ?hs5 ?hs6 ?_))
 case hs1 => intro u hu; obtain ⟨q, _, rfl⟩ := List.mem_map.1 hu; rfl
 case hs2 => omega
 case hs4 => omega
 case hs5 => omega
 case hs6 => omega
 intro A8 c8 w8 hown8 hg8
 have bw8 := b5.trans (hg8.belowC Hown.out (by omega))
 have Hown8 := ek hown8
 clear hown8 hg8
 go_wp2
 go_ret
 exact ⟨A8, c8, rfl, Hown8.out, bw8⟩
end Go.Proofs.YtkekmokdlgocaaaGreatDoor.Pl
