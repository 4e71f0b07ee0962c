/-
  What was written is read. Plain mathematics.
-/
import Derived.Test.YtddnlimkaagpdaaDoorSp
namespace Go.Proofs.YtddnlimkaagpdaaDoor.Sm

theorem frameS_frl (s y : List UInt8) (h : s.length ≤ 1000) : frameS (frl s ++ y) 1000 = (s, (frl s).length, 0) := by
  have h1 : Vm.tk (frl s ++ y) = (s.length, (Vm.vb s.length).length, 0) := by
    unfold frl
    rw [List.append_assoc]
    exact Vm.tk_back s.length (s ++ y) (by omega)
  rw [frameS_mk h1 h (by unfold frl; simp)]
  have h2 : (frl s).length = (Vm.vb s.length).length + s.length := by unfold frl; rw [List.length_append]
  rw [← h2, List.take_left' rfl]
  unfold frl
  rw [List.drop_left' rfl]
theorem rec1_frs (r : R) (y : List UInt8) (h : okR r = true) : rec1 (frs r ++ y) = some (r, (frs r).length) := by
  obtain ⟨h2, hs⟩ := okR_iff.1 h
  match r, h2 with
  | [s, t], _ =>
    have hs1 := hs s (by simp)
    have ht1 := hs t (by simp)
    have e : frs [s, t] ++ y = frl s ++ (frl t ++ y) := by simp [frs]
    have e2 : (frs [s, t]).length = (frl s).length + (frl t).length := by simp [frs]
    unfold rec1
    rw [e, e2, ok3_some.2 (frameS_frl s _ hs1)]
    dsimp only [Option.bind_some]
    rw [List.drop_left' rfl, ok3_some.2 (frameS_frl t y ht1)]
    rfl
theorem recN_recsB : ∀ (l : List R) (x : List UInt8), l.all okR = true → recN l.length (recsB l ++ x) = some (l, x)
  | [], x, _ => rfl
  | r :: l, x, h => by
    rw [List.all_cons, Bool.and_eq_true] at h
    have ih := recN_recsB l x h.2
    have e : recsB (r :: l) ++ x = frs r ++ (recsB l ++ x) := by simp [recsB]
    rw [List.length_cons, recN, e, rec1_frs r _ h.1]
    dsimp only [Option.bind_some]
    rw [List.drop_left' rfl, ih]
    rfl
theorem cont_conts (l : List R) (h : l.all okR = true) (h1 : 1 ≤ l.length) (h2 : l.length ≤ 100) : cont (conts l) = some l := by
  have ht : Vm.tk (conts l) = (l.length, (Vm.vb l.length).length, 0) := Vm.tk_back l.length (recsB l) (by omega)
  refine cont_mk ht h1 h2 ?_
  unfold conts
  rw [List.drop_left' rfl]
  have := recN_recsB l [] h
  rwa [List.append_nil] at this
theorem opn_sealed (c : List UInt8) : opn (sealed c) = some c := by
  unfold opn sealed
  rw [Cm.open_seal Cm.tab Cm.tab_len]
  rfl
theorem blk_blkw (l : List R) (h : l.all okR = true) (h1 : 1 ≤ l.length) (h2 : l.length ≤ 100) : blk (blkw l) = some l := by
  unfold blkw
  rw [blk_mk, une_back]
  dsimp only [Option.bind_some]
  rw [opn_sealed]
  dsimp only [Option.bind_some]
  exact cont_conts l h h1 h2
theorem wch_head (k : Nat) (l : List R) : wch k l = [] ∨ isM (wch k l) 0 := by
  cases k with
  | zero => exact .inl rfl
  | succ k =>
    by_cases h : l = []
    · subst h; exact .inl (wch_nil _)
    · rw [wch_step h]; exact .inr ⟨rfl, rfl⟩
theorem nxt_block (pre s Y : List UInt8) (hY : Y = [] ∨ isM Y 0) : nxt (pre ++ ((255 :: 83 :: esc s) ++ Y)) (pre.length + 1) = pre.length + (255 :: 83 :: esc s).length := by
  have e : (pre ++ ((255 :: 83 :: esc s) ++ Y)).drop (pre.length + 1) = 83 :: (esc s ++ Y) := by
    rw [← List.drop_drop, List.drop_left' rfl]; rfl
  unfold nxt
  rw [e, mark_step (by simp), mark_esc s Y hY]
  simp; omega
theorem val_block (pre X Y : List UInt8) : val (pre ++ (X ++ Y)) (pre.length, pre.length + X.length) = blk X := by
  unfold val
  dsimp only
  congr 1
  rw [← List.append_assoc, List.take_left' (by rw [List.length_append]), List.drop_left' rfl]
/-- The chain of what was written. -/
theorem ch_wr : ∀ (k : Nat) (pre : List UInt8) (l : List R), l.length ≤ k → l.all okR = true →
    ∃ L, Ch (pre ++ wch k l) pre.length (pre ++ wch k l).length L ∧ Tm.all (pcs (pre ++ wch k l) L) = l ∧ L.length = (l.length + 2) / 3
  | 0, pre, l, h, hok => by
    obtain rfl : l = [] := List.eq_nil_of_length_eq_zero (by omega)
    exact ⟨[], by simp [wch, Ch], rfl, rfl⟩
  | k + 1, pre, l, h, hok => by
    by_cases hl : l = []
    · subst hl
      exact ⟨[], by rw [wch_nil, List.append_nil]; rfl, rfl, rfl⟩
    · have hp : 0 < l.length := List.length_pos_iff.2 hl
      rw [wch_step hl]
      obtain ⟨ok1, ok2⟩ := (all_take_drop 3).1 hok
      obtain ⟨L, h1, h2, h3⟩ := ch_wr k (pre ++ blkw (l.take 3)) (l.drop 3) (by rw [List.length_drop]; omega) ok2
      rw [List.append_assoc] at h1 h2
      have hv : val (pre ++ (blkw (l.take 3) ++ wch k (l.drop 3))) (pre.length, pre.length + (blkw (l.take 3)).length) = some (l.take 3) := by
        rw [val_block]
        exact blk_blkw _ ok1 (by rw [List.length_take]; omega) (by rw [List.length_take]; omega)
      refine ⟨(pre.length, pre.length + (blkw (l.take 3)).length) :: L, ⟨rfl, ?_, by rw [hv]; rfl, by simp [blkw], ?_⟩, ?_, ?_⟩
      · exact (nxt_block pre (sealed (conts (l.take 3))) _ (wch_head _ _)).symm
      · rw [List.length_append] at h1
        exact h1
      · have e : Tm.all (pcs (pre ++ (blkw (l.take 3) ++ wch k (l.drop 3))) ((pre.length, pre.length + (blkw (l.take 3)).length) :: L)) = ((val (pre ++ (blkw (l.take 3) ++ wch k (l.drop 3))) (pre.length, pre.length + (blkw (l.take 3)).length)).getD []) ++ Tm.all (pcs (pre ++ (blkw (l.take 3) ++ wch k (l.drop 3))) L) := rfl
        rw [e, hv, h2]
        exact List.take_append_drop 3 l
      · rw [List.length_cons, h3, List.length_drop]
        omega
theorem wr_take (l : List R) : (wr l).take 4 = hd := by unfold wr; exact List.take_left' rfl
/-- What was written is read. -/
theorem ps_wr (l : List R) (hok : l.all okR = true) : ∃ L, Ch (wr l) 4 (wr l).length L ∧ ps (wr l) = (pcs (wr l) L, (wr l).length) ∧ Tm.all (pcs (wr l) L) = l ∧ L.length = (l.length + 2) / 3 ∧ er (wr l) = 0 := by
  obtain ⟨L, h1, h2, h3⟩ := ch_wr l.length hd l (Nat.le_refl _) hok
  have h4 : Ch (wr l) 4 (wr l).length L := h1
  have h5 : ps (wr l) = (pcs (wr l) L, (wr l).length) := by
    rw [ps_head (wr_take l), ch_sg h4, run_all _ _ (ch_some h4)]
  exact ⟨L, h4, h5, h2, h3, by unfold er; rw [if_pos ⟨wr_take l, by rw [h5]⟩]⟩
theorem ps_one (r : R) (h : okR r = true) : (ps (wr [r])).1.length = 1 ∧ (∀ p, (ps (wr [r])).1[0]? = some p → p.1 = 4) ∧ (ps (wr [r])).2 = (wr [r]).length ∧ er (wr [r]) = 0 := by
  obtain ⟨L, h1, h2, h3, h4, h5⟩ := ps_wr [r] (by simp [h])
  rw [h2]
  rcases L with _ | ⟨p, _ | ⟨q, L⟩⟩
  · simp at h4
  · refine ⟨rfl, fun q hq => ?_, rfl, h5⟩
    have : p.1 = 4 := h1.1
    simp [pcs] at hq
    rw [← hq]
    exact this
  · simp at h4
end Go.Proofs.YtddnlimkaagpdaaDoor.Sm
