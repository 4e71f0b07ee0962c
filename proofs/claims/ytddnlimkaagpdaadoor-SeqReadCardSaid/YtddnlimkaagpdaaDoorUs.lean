/-
  One other byte in what was written: plain mathematics.
-/
import Derived.Test.YtddnlimkaagpdaaDoorUp
namespace Go.Proofs.YtddnlimkaagpdaaDoor.Sm

/-- A byte of what is escaped, not the escape itself. -/
theorem esc_at : ∀ (s : List UInt8) (i : Nat) (x : UInt8), (esc s)[i]? = some x → x ≠ 255 →
    (∃ u v, s = u ++ x :: v ∧ i = (esc u).length ∧ esc s = esc u ++ x :: esc v) ∨ ∃ u v, s = u ++ 255 :: v ∧ i = (esc u).length + 1 ∧ x = 0 ∧ esc s = esc u ++ 255 :: 0 :: esc v
  | [], i, x, h, hx => by simp [esc] at h
  | a :: s, i, x, h, hx => by
    by_cases ha : a = 255
    · subst ha
      rw [esc_ff] at h ⊢
      match i, h with
      | 0, h => simp at h; exact absurd h.symm hx
      | 1, h => simp at h; exact .inr ⟨[], s, rfl, rfl, h.symm, rfl⟩
      | i + 2, h =>
        simp only [List.getElem?_cons_succ] at h
        rcases esc_at s i x h hx with ⟨u, v, e1, e2, e3⟩ | ⟨u, v, e1, e2, e3, e4⟩
        · exact .inl ⟨255 :: u, v, by rw [e1]; rfl, by rw [esc_ff, e2]; rfl, by rw [esc_ff, e3]; rfl⟩
        · exact .inr ⟨255 :: u, v, by rw [e1]; rfl, by rw [esc_ff, e2]; rfl, e3, by rw [esc_ff, e4]; rfl⟩
    · rw [esc_no _ ha] at h ⊢
      match i, h with
      | 0, h =>
        simp at h
        subst h
        exact .inl ⟨[], s, rfl, rfl, rfl⟩
      | i + 1, h =>
        simp only [List.getElem?_cons_succ] at h
        rcases esc_at s i x h hx with ⟨u, v, e1, e2, e3⟩ | ⟨u, v, e1, e2, e3, e4⟩
        · exact .inl ⟨a :: u, v, by rw [e1]; rfl, by rw [esc_no _ ha, e2]; rfl, by rw [esc_no _ ha, e3]; rfl⟩
        · exact .inr ⟨a :: u, v, by rw [e1]; rfl, by rw [esc_no _ ha, e2]; rfl, e3, by rw [esc_no _ ha, e4]; rfl⟩

/-- The block that begins at a place, whatever its end. -/
theorem val_at (pre Z : List UInt8) : val (pre ++ Z) (pre.length, nxt (pre ++ Z) (pre.length + 1)) = blk (Z.take (1 + mark (Z.drop 1))) := by
  unfold val nxt
  dsimp only
  rw [← List.drop_drop, List.drop_left' rfl]
  congr 1
  rw [List.drop_take, List.drop_left' rfl]
  congr 1
  omega
theorem nxt_at_ (pre Z : List UInt8) : nxt (pre ++ Z) (pre.length + 1) = pre.length + (1 + mark (Z.drop 1)) := by
  unfold nxt
  rw [← List.drop_drop, List.drop_left' rfl]
  omega
theorem blk_at (s Y : List UInt8) (hY : Y = [] ∨ isM Y 0) : ((255 :: 83 :: esc s) ++ Y).take (1 + mark (((255 :: 83 :: esc s) ++ Y).drop 1)) = 255 :: 83 :: esc s := by
  have e : ((255 :: 83 :: esc s) ++ Y).drop 1 = 83 :: (esc s ++ Y) := rfl
  rw [e, mark_step (by simp), mark_esc s Y hY]
  exact List.take_left' (by rw [List.length_cons, List.length_cons]; omega)
/-- Opened, a block of what is not what was sealed. -/
theorem blk_esc (s : List UInt8) : blk (255 :: 83 :: esc s) = (opn s).bind cont := by rw [blk_mk, une_back, Option.bind_some]
/-- No escape: the escape byte, then one that is neither 0 nor the marker's. -/
theorem blk_bad (u T : List UInt8) (y : UInt8) (h0 : y ≠ 0) (h1 : y ≠ 83) (h2 : y ≠ 255) : blk (((255 :: 83 :: esc u) ++ 255 :: y :: T).take (1 + mark (((255 :: 83 :: esc u) ++ 255 :: y :: T).drop 1))) = none := by
  have e : ((255 :: 83 :: esc u) ++ 255 :: y :: T).drop 1 = 83 :: (esc u ++ 255 :: y :: T) := rfl
  have em : mark (83 :: (esc u ++ 255 :: y :: T)) = (esc u).length + (mark T + 1 + 1) + 1 := by
    rw [mark_step (by simp), mark_esc_add u _ (by intro z hz; injection hz with hz; subst hz; decide), mark_step (by simp [h1]), mark_step (by simp [h2])]
  have et : ((255 :: 83 :: esc u) ++ 255 :: y :: T).take (1 + mark (83 :: (esc u ++ 255 :: y :: T))) = 255 :: 83 :: (esc u ++ 255 :: y :: T.take (mark T)) := by
    rw [em, show 1 + ((esc u).length + (mark T + 1 + 1) + 1) = (255 :: 83 :: esc u).length + (mark T + 1 + 1) by rw [List.length_cons, List.length_cons]; omega, List.take_length_add_append]
    rfl
  rw [e, et, blk_mk, une_esc, une_bad _ h0]
  rfl
theorem blk_cut (y : UInt8) (T : List UInt8) (h1 : y ≠ 83) (m : Nat) : blk ((255 :: y :: T).take m) = none := by
  unfold blk
  rw [if_neg]
  rw [List.take_take]
  intro e
  match hm : min 2 m with
  | 0 => rw [hm] at e; simp at e
  | 1 => rw [hm] at e; simp at e
  | 2 => rw [hm] at e; simp at e; exact h1 e
  | k + 3 => omega
/-- Of sealed bytes one other byte is found. -/
theorem opn_set (c : List UInt8) (k : Nat) (y x : UInt8) (h : (sealed c)[k]? = some x) (hxy : x ≠ y) : opn ((sealed c).set k y) = none := by
  have hk : k < c.length + 4 := by
    obtain ⟨h1, _⟩ := List.getElem?_eq_some_iff.1 h
    simpa [sealed, Cm.four_len] using h1
  unfold opn
  have e := Cm.open_spoilt c k hk y (by unfold sealed at h; rw [h]; intro e; injection e with e; exact hxy e)
  unfold sealed
  rw [e]
  rfl
/-- More behind sealed contents. -/
theorem opn_more {c : List UInt8} {l : List R} (h : cont c = some l) (t : List UInt8) (ht : t ≠ []) : (opn (sealed c ++ t)).bind cont = none := by
  rcases ho : opn (sealed c ++ t) with _ | d
  · rfl
  · obtain ⟨h1, h2⟩ := opn_take ho
    have hl : (sealed c ++ t).length - 4 = c.length + t.length := by simp [sealed, Cm.four_len]; omega
    rw [hl, sealed, List.append_assoc, List.take_length_add_append] at h2
    rw [h2]
    have htl : 0 < t.length := List.length_pos_iff.2 ht
    refine cont_more h fun e => ?_
    have := congrArg List.length e
    rw [List.length_take, List.length_append, List.length_nil] at this
    omega
/-- Fewer than the sealed contents. -/
theorem opn_less {c : List UInt8} {l : List R} (h : cont c = some l) (u t : List UInt8) (hs : sealed c = u ++ t) (ht : t ≠ []) : (opn u).bind cont = none := by
  rcases ho : opn u with _ | d
  · rfl
  · obtain ⟨h1, h2⟩ := opn_take ho
    have htl : 0 < t.length := List.length_pos_iff.2 ht
    have hl : u.length + t.length = c.length + 4 := by
      have := congrArg List.length hs
      rw [List.length_append] at this
      simp [sealed, Cm.four_len] at this
      omega
    have hd : d = c.take (u.length - 4) := by
      have e1 : u = (sealed c).take u.length := by rw [hs, List.take_left' rfl]
      have e2 : d = ((sealed c).take u.length).take (u.length - 4) := by rw [← e1]; exact h2
      rw [e2, List.take_take, sealed, show min (u.length - 4) u.length = u.length - 4 by omega, List.take_append_of_le_length (by omega)]
    have hc : c = d ++ c.drop (u.length - 4) := by rw [hd, List.take_append_drop]
    rw [hc] at h
    exact cont_less h fun e => by
      have := congrArg List.length e
      rw [List.length_drop, List.length_nil] at this
      omega
/-- A byte within a block is another one: the block is none, whatever stands behind it. -/
theorem blk_spoilt (l : List R) (h : l.all okR = true) (h1 : 1 ≤ l.length) (h2 : l.length ≤ 100) (Y : List UInt8) (hY : Y = [] ∨ isM Y 0) (i : Nat) (x y : UInt8) (hi : (blkw l)[i]? = some x) (hx : x ≠ 255) (hy : y ≠ 255) (hxy : x ≠ y) :
    blk (((blkw l).set i y ++ Y).take (1 + mark (((blkw l).set i y ++ Y).drop 1))) = none := by
  have hc := cont_conts l h h1 h2
  obtain ⟨c, hcc⟩ : ∃ c, c = conts l := ⟨_, rfl⟩
  have hb : blkw l = 255 :: 83 :: esc (sealed c) := by rw [hcc]; rfl
  rw [← hcc] at hc
  rw [hb] at hi ⊢
  match i, hi with
  | 0, hi => simp at hi; exact absurd hi.symm hx
  | 1, hi =>
    simp at hi
    subst hi
    have e : (255 :: 83 :: esc (sealed c)).set 1 y ++ Y = 255 :: y :: (esc (sealed c) ++ Y) := rfl
    rw [e]
    exact blk_cut y _ (Ne.symm hxy) _
  | i + 2, hi =>
    simp only [List.getElem?_cons_succ] at hi
    have e : (255 :: 83 :: esc (sealed c)).set (i + 2) y = 255 :: 83 :: (esc (sealed c)).set i y := rfl
    rw [e]
    rcases esc_at _ i x hi hx with ⟨u, v, e1, e2, e3⟩ | ⟨u, v, e1, e2, e3, e4⟩
    · have e4 : (esc (sealed c)).set i y = esc ((sealed c).set u.length y) := by
        rw [e3, e2, List.set_append_right _ _ (Nat.le_refl _), Nat.sub_self, e1, List.set_append_right _ _ (Nat.le_refl _), Nat.sub_self, List.set_cons_zero, List.set_cons_zero, esc_app, esc_no _ hy]
      rw [e4, blk_at _ Y hY, blk_esc, opn_set c u.length y x (by rw [e1, List.getElem?_append_right (Nat.le_refl _), Nat.sub_self]; rfl) hxy]
      rfl
    · subst e3
      have e5 : (esc (sealed c)).set i y = esc u ++ 255 :: y :: esc v := by
        rw [e4, e2, List.set_append_right _ _ (by omega), show (esc u).length + 1 - (esc u).length = 1 by omega]
        rfl
      rw [e5]
      by_cases h83 : y = 83
      · subst h83
        have e6 : (255 :: 83 :: (esc u ++ 255 :: 83 :: esc v)) ++ Y = (255 :: 83 :: esc u) ++ (255 :: 83 :: (esc v ++ Y)) := by simp
        rw [e6, blk_at _ _ (.inr ⟨rfl, rfl⟩), blk_esc]
        exact opn_less hc u _ e1 (by simp)
      · have e6 : (255 :: 83 :: (esc u ++ 255 :: y :: esc v)) ++ Y = (255 :: 83 :: esc u) ++ (255 :: y :: (esc v ++ Y)) := by simp
        rw [e6]
        exact blk_bad u _ y (Ne.symm hxy) h83 hy
/-- The marker behind a block is none any more: the block goes on, and is none. -/
theorem blk_longer (l : List R) (h : l.all okR = true) (h1 : 1 ≤ l.length) (h2 : l.length ≤ 100) (s Y : List UInt8) (hY : Y = [] ∨ isM Y 0) (y : UInt8) (hy : y ≠ 255) (h83 : y ≠ 83) :
    blk ((blkw l ++ 255 :: y :: (esc s ++ Y)).take (1 + mark ((blkw l ++ 255 :: y :: (esc s ++ Y)).drop 1))) = none := by
  have hc := cont_conts l h h1 h2
  have hb : blkw l = 255 :: 83 :: esc (sealed (conts l)) := rfl
  rw [hb]
  by_cases h0 : y = 0
  · subst h0
    have e : (255 :: 83 :: esc (sealed (conts l))) ++ 255 :: 0 :: (esc s ++ Y) = (255 :: 83 :: esc (sealed (conts l) ++ 255 :: s)) ++ Y := by
      rw [esc_app, esc_ff]; simp
    rw [e, blk_at _ Y hY, blk_esc]
    exact opn_more hc _ (by simp)
  · exact blk_bad _ _ y h0 h83 hy
/-- Of what was written, one byte another one: the blocks ahead of it, then one that is none. -/
theorem wch_spoilt : ∀ (k : Nat) (pre : List UInt8) (l : List R) (i : Nat) (x y : UInt8), l.length ≤ k → l.all okR = true → (wch k l)[i]? = some x → x ≠ 255 → y ≠ 255 → x ≠ y →
    ∃ L g m, Ch (pre ++ (wch k l).set i y) pre.length g L ∧ g ≤ pre.length + i ∧ val (pre ++ (wch k l).set i y) (g, nxt (pre ++ (wch k l).set i y) (g + 1)) = none ∧ Tm.all (pcs (pre ++ (wch k l).set i y) L) = l.take m ∧ m ≤ l.length
  | 0, pre, l, i, x, y, hk, hok, hi, hx, hy, hxy => by simp [wch] at hi
  | k + 1, pre, l, i, x, y, hk, hok, hi, hx, hy, hxy => by
    by_cases hl : l = []
    · subst hl; rw [wch_nil] at hi; simp at hi
    · have hp : 0 < l.length := List.length_pos_iff.2 hl
      rw [wch_step hl] at hi ⊢
      obtain ⟨ok1, ok2⟩ := (all_take_drop 3).1 hok
      have hl1 : 1 ≤ (l.take 3).length := by rw [List.length_take]; omega
      have hl2 : (l.take 3).length ≤ 100 := by rw [List.length_take]; omega
      have hhd := wch_head k (l.drop 3)
      by_cases hib : i < (blkw (l.take 3)).length
      · rw [List.getElem?_append_left hib] at hi
        rw [List.set_append_left _ _ hib]
        refine ⟨[], pre.length, 0, rfl, Nat.le_add_right _ _, ?_, rfl, Nat.zero_le _⟩
        rw [val_at]
        exact blk_spoilt _ ok1 hl1 hl2 _ hhd i x y hi hx hy hxy
      · obtain ⟨j, rfl⟩ : ∃ j, i = (blkw (l.take 3)).length + j := ⟨i - (blkw (l.take 3)).length, by omega⟩
        rw [List.getElem?_append_right (by omega), Nat.add_sub_cancel_left] at hi
        rw [List.set_append_right _ _ (by omega), Nat.add_sub_cancel_left]
        obtain ⟨B, hB⟩ : ∃ B, B = blkw (l.take 3) := ⟨_, rfl⟩
        by_cases hd : l.drop 3 = []
        · rw [hd, wch_nil] at hi; simp at hi
        · obtain ⟨q, hq⟩ : ∃ q, k = q + 1 := by
            have : 0 < (l.drop 3).length := List.length_pos_iff.2 hd
            rw [List.length_drop] at this
            exact ⟨k - 1, by omega⟩
          subst hq
          have hw : wch (q + 1) (l.drop 3) = 255 :: 83 :: (esc (sealed (conts ((l.drop 3).take 3))) ++ wch q ((l.drop 3).drop 3)) := by rw [wch_step hd]; rfl
          match j, hi with
          | 0, hi => rw [hw] at hi; simp at hi; exact absurd hi.symm hx
          | 1, hi =>
            rw [hw] at hi ⊢
            simp at hi
            subst hi
            refine ⟨[], pre.length, 0, rfl, Nat.le_add_right _ _, ?_, rfl, Nat.zero_le _⟩
            rw [val_at]
            exact blk_longer _ ok1 hl1 hl2 _ _ (wch_head _ _) y hy (Ne.symm hxy)
          | j + 2, hi =>
            obtain ⟨L, g, m, h1, h2, h3, h4, h5⟩ := wch_spoilt (q + 1) (pre ++ blkw (l.take 3)) (l.drop 3) (j + 2) x y (by rw [List.length_drop]; omega) ok2 hi hx hy hxy
            rw [List.append_assoc] at h1 h3 h4
            have hM : (wch (q + 1) (l.drop 3)).set (j + 2) y = [] ∨ isM ((wch (q + 1) (l.drop 3)).set (j + 2) y) 0 := .inr (by rw [hw]; exact ⟨rfl, rfl⟩)
            obtain ⟨Z, hZ⟩ : ∃ Z, Z = (wch (q + 1) (l.drop 3)).set (j + 2) y := ⟨_, rfl⟩
            rw [← hZ] at h1 h3 h4 hM ⊢
            have hv : val (pre ++ (blkw (l.take 3) ++ Z)) (pre.length, pre.length + (blkw (l.take 3)).length) = some (l.take 3) := by
              rw [val_block]
              exact blk_blkw _ ok1 hl1 hl2
            refine ⟨(pre.length, pre.length + (blkw (l.take 3)).length) :: L, g, min 3 l.length + m, ⟨rfl, ?_, by rw [hv]; rfl, by simp [blkw], ?_⟩, ?_, h3, ?_, ?_⟩
            · exact (nxt_block pre (sealed (conts (l.take 3))) _ hM).symm
            · rw [List.length_append] at h1
              exact h1
            · rw [List.length_append] at h2; omega
            · have e : Tm.all (pcs (pre ++ (blkw (l.take 3) ++ Z)) ((pre.length, pre.length + (blkw (l.take 3)).length) :: L)) = ((val (pre ++ (blkw (l.take 3) ++ Z)) (pre.length, pre.length + (blkw (l.take 3)).length)).getD []) ++ Tm.all (pcs (pre ++ (blkw (l.take 3) ++ Z)) L) := rfl
              rw [e, hv, h4]
              dsimp only [Option.getD_some]
              have h3l : min 3 l.length = 3 := by
                have : 0 < (l.drop 3).length := List.length_pos_iff.2 hd
                rw [List.length_drop] at this
                omega
              rw [h3l, List.take_add]
            · rw [List.length_drop] at h5; omega
theorem ch_run {b : List UInt8} : ∀ {L : List (Nat × Nat)} {f g : Nat}, Ch b f g L → g < b.length → sg b f b.length = L ++ sg b g b.length
  | [], f, g, h, hg => by
    have e : f = g := h
    subst e; rfl
  | p :: L, f, g, h, hg => by
    obtain ⟨h1, h2, h3, h4, h5⟩ := h
    have hp : p = (f, nxt b (f + 1)) := Prod.ext h1 h2
    rw [sg_step h4, ← h2, ch_run h5 hg, hp]
    rfl
/-- What is read of it. -/
theorem ps_spoilt (l : List R) (hok : l.all okR = true) (i : Nat) (x y : UInt8) (hi : (wr l)[i]? = some x) (hx : x ≠ 255) (hy : y ≠ 255) (hxy : x ≠ y) :
    ∃ m, m ≤ l.length ∧ Tm.all (ps ((wr l).set i y)).1 = l.take m ∧ (ps ((wr l).set i y)).2 ≤ i ∧ er ((wr l).set i y) = 3 := by
  by_cases h4 : i < 4
  · have hne : ((wr l).set i y).take 4 ≠ hd := by
      rw [List.take_set]
      intro e
      have e2 : (((wr l).take 4).set i y)[i]? = hd[i]? := congrArg (fun z : List UInt8 => z[i]?) e
      have hwl : ((wr l).take 4)[i]? = some x := by rw [List.getElem?_take, if_pos h4, hi]
      rw [List.getElem?_set_self (by obtain ⟨q, _⟩ := List.getElem?_eq_some_iff.1 hwl; exact q)] at e2
      rw [wr_take] at hwl
      rw [hwl] at e2
      injection e2 with e2
      exact hxy e2.symm
    rw [ps_not hne, er_not hne]
    exact ⟨0, Nat.zero_le _, rfl, Nat.zero_le _, rfl⟩
  · obtain ⟨j, rfl⟩ : ∃ j, i = hd.length + j := ⟨i - 4, by simp [hd]; omega⟩
    unfold wr at hi ⊢
    rw [List.getElem?_append_right (by omega), Nat.add_sub_cancel_left] at hi
    rw [List.set_append_right _ _ (by omega), Nat.add_sub_cancel_left]
    obtain ⟨L, g, m, h1, h2, h3, h4', h5⟩ := wch_spoilt l.length hd l j x y (Nat.le_refl _) hok hi hx hy hxy
    have hlen : hd.length + j < (hd ++ (wch l.length l).set j y).length := by
      obtain ⟨q, _⟩ := List.getElem?_eq_some_iff.1 hi
      rw [List.length_append, List.length_set]; omega
    obtain ⟨X, hX⟩ : ∃ X, X = hd ++ (wch l.length l).set j y := ⟨_, rfl⟩
    have htk : X.take 4 = hd := by rw [hX]; exact List.take_left' rfl
    rw [← hX] at h1 h3 h4' hlen ⊢
    have hg : g < X.length := by omega
    have e1 : sg X 4 X.length = L ++ sg X g X.length := ch_run h1 hg
    have e2 : ps X = (pcs X L, g) := by
      rw [ps_head htk, e1, sg_step hg]
      exact run_stop X L _ (g, nxt X (g + 1)) (ch_some h1) h3
    refine ⟨m, h5, by rw [e2]; exact h4', by rw [e2]; exact h2, ?_⟩
    unfold er
    rw [if_neg]
    intro h
    rw [e2] at h
    have := h.2
    dsimp only at this
    omega
end Go.Proofs.YtddnlimkaagpdaaDoor.Sm
