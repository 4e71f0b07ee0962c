/-
  Joined: Hb Vc Va.
-/
import Derived.Test.YtknmhdkomjjneaaGreatDoorJW1
import Derived.Test.YtknmhdkomjjneaaGreatDoorJW6
/-
  Files of compressed blocks: what is written, that it is read back, and what is read of it with one other byte. Plain mathematics.
-/

set_option maxRecDepth 100000
namespace Go.Proofs.YtknmhdkomjjneaaGreatDoor.Cht.Hm

def sealed (c : List UInt8) : List UInt8 := c ++ Cm.four (Cm.sum Cm.tab c)
theorem sealed_len (c : List UInt8) : (sealed c).length = c.length + 4 := by simp [sealed, Cm.four_len]
theorem opn_sealed (c : List UInt8) : opn (sealed c) = some c := opn_ok (Cm.open_seal Cm.tab Cm.tab_len c)
def blkw (c : List R) : List UInt8 := sealed (Pm.pressS (Fm.enc c))
def Fits (c : List R) : Prop := (∀ r ∈ c, Fm.May r) ∧ 1 ≤ c.length ∧ c.length ≤ 5000 ∧ (Fm.enc c).length ≤ 18000
theorem blkw_len {c : List R} (h : (Fm.enc c).length ≤ 18000) : 4 ≤ (blkw c).length ∧ (blkw c).length ≤ 20000 := by
  have h1 := Pm.press_len (Fm.enc c) (by omega)
  unfold blkw
  rw [sealed_len]
  omega
theorem blk_blkw {c : List R} (h : Fits c) : blk (blkw c) c.length = some c := by
  have h1 := Pm.press_back (Fm.enc c) (by have := h.2.2.2; omega) 20000 (by have := h.2.2.2; omega)
  unfold blk blkw
  rw [opn_sealed, Option.bind_some, h1]
  simp only [if_true]
  rw [Fm.dec_enc c h.1 h.2.2.1]
  simp
def ew (c : List R) : Nat × Nat := ((blkw c).length, c.length)
def body (C : List (List R)) : List UInt8 := C.flatMap blkw
theorem body_cons (c : List R) (C : List (List R)) : body (c :: C) = blkw c ++ body C := rfl
theorem body_snoc (C : List (List R)) (c : List R) : body (C ++ [c]) = body C ++ blkw c := by simp [body]
def ixe (x : Nat × Nat) : List UInt8 := Vm.vb x.1 ++ Vm.vb x.2
def ixc (L : List (Nat × Nat)) : List UInt8 := Vm.vb L.length ++ L.flatMap ixe
def tailw (L : List (Nat × Nat)) : List UInt8 := sealed (ixc L) ++ (Cm.four (sealed (ixc L)).length ++ tl)
def file (C : List (List R)) : List UInt8 := body C ++ tailw (C.map ew)
theorem tot_body : ∀ C : List (List R), tot (C.map ew) = (body C).length
  | [] => rfl
  | c :: C => by rw [List.map_cons, tot_cons, body_cons, List.length_append, tot_body C]; rfl
theorem oks_ew {C : List (List R)} (h : ∀ c ∈ C, Fits c) : Oks (C.map ew) := fun x hx => by
  obtain ⟨c, hc, rfl⟩ := List.mem_map.1 hx
  have h1 := h c hc
  have h2 := blkw_len h1.2.2.2
  exact ⟨by show 1 ≤ (blkw c).length; omega, h2.2, h1.2.1, h1.2.2.1⟩
theorem ent1_ixe (x : Nat × Nat) (r : List UInt8) (h : 1 ≤ x.1 ∧ x.1 ≤ 20000 ∧ 1 ≤ x.2 ∧ x.2 ≤ 5000) : ent1 (ixe x ++ r) = some (x, r) := by
  unfold ixe
  rw [List.append_assoc]
  exact ent1_ok (num_vb _ h.1 h.2.1 (by omega)) (num_vb _ h.2.2.1 h.2.2.2 (by omega))
theorem ents_ixe : ∀ (L : List (Nat × Nat)) (r : List UInt8), Oks L → ents L.length (L.flatMap ixe ++ r) = some (L, r)
  | [], r, _ => rfl
  | x :: L, r, h => by
    have ih := ents_ixe L r fun y hy => h y (List.mem_cons_of_mem _ hy)
    rw [List.length_cons, ents, List.flatMap_cons, List.append_assoc, ent1_ixe x _ (h x (List.mem_cons_self ..)), Option.bind_some, ih]
    rfl
theorem idx_ixc (L : List (Nat × Nat)) (h : Oks L) (hl : L.length ≤ 5000) : idx (ixc L) (tot L) = some L := by
  have h1 := ents_ixe L [] h
  rw [List.append_nil] at h1
  unfold idx ixc
  rw [num_vb _ (Nat.zero_le _) hl (by omega), Option.bind_some, h1, Option.bind_some]
  simp
theorem val4_four (m : Nat) (h : m < 4294967296) : val4 (Cm.four m) = m := by
  unfold Cm.four
  simp only [val4, Cm.byteAt_nat]
  simp only [Nat.pow_zero, Nat.div_one, Nat.pow_one, Nat.mul_zero, Nat.add_zero]
  omega
theorem ix_parts (B S F T : List UInt8) (hF : F.length = 4) (hT : T.length = 4) : ix (B ++ (S ++ (F ++ T))) =
    if T = tl then if val4 F ≤ B.length + S.length then (opn ((B ++ S).drop (B.length + S.length - val4 F))).bind fun i => idx i (B.length + S.length - val4 F) else none else none := by
  have hl : (B ++ (S ++ (F ++ T))).length = B.length + S.length + 8 := by simp [hF, hT]; omega
  have e1 : (B ++ (S ++ (F ++ T))).drop (B.length + S.length + 8 - 4) = T := by
    rw [← List.append_assoc, ← List.append_assoc]
    exact List.drop_left' (by simp [hF]; omega)
  have e2 : ((B ++ (S ++ (F ++ T))).drop (B.length + S.length + 8 - 8)).take 4 = F := by
    rw [← List.append_assoc, List.drop_left' (by simp), List.take_left' hF]
  have e3 : (B ++ (S ++ (F ++ T))).take (B.length + S.length + 8 - 8) = B ++ S := by
    rw [← List.append_assoc]
    exact List.take_left' (by simp)
  unfold ix
  rw [hl, if_neg (by omega), e1, e2, e3, show B.length + S.length + 8 - 8 = B.length + S.length by omega]
theorem ix_sealed (B S F : List UInt8) (hF : F.length = 4) (hv : val4 F = S.length) : ix (B ++ (S ++ (F ++ tl))) = (opn S).bind fun i => idx i B.length := by
  rw [ix_parts B S F tl hF rfl, if_pos rfl, hv, if_pos (by omega), show B.length + S.length - S.length = B.length by omega, List.drop_left' rfl]
theorem ixe_len (x : Nat × Nat) (h : x.1 ≤ 20000 ∧ x.2 ≤ 5000) : (ixe x).length ≤ 5 := by
  unfold ixe
  rw [List.length_append]
  have h1 := Vm.vb_len_le 2 x.1 (by omega)
  have h2 := Vm.vb_len_le 1 x.2 (by omega)
  omega
theorem ixs_len : ∀ L : List (Nat × Nat), Oks L → (L.flatMap ixe).length ≤ 5 * L.length
  | [], _ => by simp
  | x :: L, h => by
    have ih := ixs_len L fun y hy => h y (List.mem_cons_of_mem _ hy)
    have h1 := h x (List.mem_cons_self ..)
    have h2 := ixe_len x ⟨h1.2.1, h1.2.2.2⟩
    rw [List.flatMap_cons, List.length_append, List.length_cons]
    omega
theorem ixc_len {L : List (Nat × Nat)} (h : Oks L) (hl : L.length ≤ 5000) : (ixc L).length ≤ 2 + 5 * L.length := by
  have h1 := ixs_len L h
  have h2 := Vm.vb_len_le 1 L.length (by omega)
  unfold ixc
  rw [List.length_append]
  omega
theorem ix_file {C : List (List R)} (h : ∀ c ∈ C, Fits c) (hl : C.length ≤ 5000) (B : List UInt8) (hB : B.length = (body C).length) : ix (B ++ tailw (C.map ew)) = some (C.map ew) := by
  have ho := oks_ew h
  have h1 := ixc_len ho (by rwa [List.length_map])
  rw [List.length_map] at h1
  unfold tailw
  rw [ix_sealed B _ _ (Cm.four_len _) (val4_four _ (by rw [sealed_len]; omega)), opn_sealed, Option.bind_some, hB, ← tot_body]
  exact idx_ixc _ ho (by rwa [List.length_map])
def pcs : Nat → List (List R) → List (Nat × List R)
  | _, [] => []
  | a, c :: C => (a, c) :: pcs (a + (blkw c).length) C
theorem all_pcs : ∀ (a : Nat) (C : List (List R)), Tm.all (pcs a C) = C.flatten
  | _, [] => rfl
  | a, c :: C => by
    have ih := all_pcs (a + (blkw c).length) C
    rw [pcs, List.flatten_cons, ← ih]
    rfl
theorem cut_mid (pre s Z : List UInt8) : ((pre ++ (s ++ Z)).take (pre.length + s.length)).drop pre.length = s := by
  rw [← List.append_assoc, List.take_left' (by simp), List.drop_left' rfl]
theorem sc_body : ∀ (C : List (List R)) (pre rest : List UInt8), (∀ c ∈ C, Fits c) → sc (pre ++ (body C ++ rest)) (plc pre.length (C.map ew)) = (pcs pre.length C, none)
  | [], pre, rest, _ => rfl
  | c :: C, pre, rest, h => by
    have ih := sc_body C (pre ++ blkw c) rest fun y hy => h y (List.mem_cons_of_mem _ hy)
    rw [List.append_assoc, List.length_append] at ih
    have hv : val (pre ++ (blkw c ++ (body C ++ rest))) (pre.length, (blkw c).length, c.length) = some c := by
      unfold val
      dsimp only
      rw [cut_mid, blk_blkw (h c (List.mem_cons_self ..))]
    rw [List.map_cons, body_cons, List.append_assoc, plc]
    show sc (pre ++ (blkw c ++ (body C ++ rest))) ((pre.length, (blkw c).length, c.length) :: plc (pre.length + (blkw c).length) (C.map ew)) = _
    rw [sc_some hv, ih]
    rfl
theorem scS_file {C : List (List R)} (h : ∀ c ∈ C, Fits c) (hl : C.length ≤ 5000) : scS (file C) = (pcs 0 C, (file C).length, 0) := by
  have h1 := ix_file h hl (body C) rfl
  have h2 := sc_body C [] (tailw (C.map ew)) h
  unfold scS
  show scO (ix (body C ++ tailw (C.map ew))) _ = _
  rw [h1]
  have h3 : sc (file C) (plc 0 (C.map ew)) = (pcs 0 C, none) := h2
  unfold scO
  simp only [h3, Option.getD_none, Option.isSome_none, Bool.false_eq_true, if_false]
def chs : Nat → List R → List (List R)
  | 0, _ => []
  | k + 1, l => if l = [] then [] else l.take 4 :: chs k (l.drop 4)
theorem chs_nil (k : Nat) : chs k [] = [] := by cases k <;> simp [chs]
theorem chs_step {k : Nat} {l : List R} (h : l ≠ []) : chs (k + 1) l = l.take 4 :: chs k (l.drop 4) := by rw [chs, if_neg h]
theorem chs_more : ∀ (k m : Nat) (l : List R), l.length ≤ k → l.length ≤ m → chs k l = chs m l
  | 0, m, l, h1, _ => by
    obtain rfl : l = [] := List.eq_nil_of_length_eq_zero (by omega)
    rw [chs_nil, chs_nil]
  | k + 1, 0, l, _, h2 => by
    obtain rfl : l = [] := List.eq_nil_of_length_eq_zero (by omega)
    rw [chs_nil, chs_nil]
  | k + 1, m + 1, l, h1, h2 => by
    by_cases h : l = []
    · subst h; rw [chs_nil, chs_nil]
    · rw [chs_step h, chs_step h, chs_more k m (l.drop 4) (by rw [List.length_drop]; have := List.length_pos_iff.2 h; omega) (by rw [List.length_drop]; have := List.length_pos_iff.2 h; omega)]
def ch (l : List R) : List (List R) := chs l.length l
theorem ch_nil : ch [] = [] := rfl
theorem ch_step {l : List R} (h : l ≠ []) : ch l = l.take 4 :: ch (l.drop 4) := by
  have hp := List.length_pos_iff.2 h
  unfold ch
  rw [show l.length = (l.length - 1) + 1 by omega, chs_step h, chs_more (l.length - 1) (l.drop 4).length (l.drop 4) (by rw [List.length_drop]; omega) (Nat.le_refl _)]
theorem ch_flat : ∀ (k : Nat) (l : List R), l.length ≤ k → (ch l).flatten = l
  | 0, l, h => by
    obtain rfl : l = [] := List.eq_nil_of_length_eq_zero (by omega)
    rfl
  | k + 1, l, h => by
    by_cases h0 : l = []
    · subst h0; rfl
    · rw [ch_step h0, List.flatten_cons, ch_flat k (l.drop 4) (by rw [List.length_drop]; have := List.length_pos_iff.2 h0; omega), List.take_append_drop]
theorem ch_len : ∀ (k : Nat) (l : List R), l.length ≤ k → (ch l).length = (l.length + 3) / 4
  | 0, l, h => by
    obtain rfl : l = [] := List.eq_nil_of_length_eq_zero (by omega)
    rfl
  | k + 1, l, h => by
    by_cases h0 : l = []
    · subst h0; rfl
    · have hp := List.length_pos_iff.2 h0
      rw [ch_step h0, List.length_cons, ch_len k (l.drop 4) (by rw [List.length_drop]; omega), List.length_drop]
      omega
theorem ch_mem : ∀ (k : Nat) (l : List R), l.length ≤ k → ∀ c ∈ ch l, 1 ≤ c.length ∧ c.length ≤ 4 ∧ wL c ≤ wL l ∧ ∀ r ∈ c, r ∈ l
  | 0, l, h, c, hc => by
    obtain rfl : l = [] := List.eq_nil_of_length_eq_zero (by omega)
    rw [ch_nil] at hc
    cases hc
  | k + 1, l, h, c, hc => by
    by_cases h0 : l = []
    · subst h0; rw [ch_nil] at hc; cases hc
    · have hp := List.length_pos_iff.2 h0
      rw [ch_step h0] at hc
      rcases List.mem_cons.1 hc with rfl | hc
      · exact ⟨by rw [List.length_take]; omega, by rw [List.length_take]; omega, wL_take l 4, fun r hr => List.mem_of_mem_take hr⟩
      · obtain ⟨a, b, c1, d⟩ := ch_mem k (l.drop 4) (by rw [List.length_drop]; omega) c hc
        have hw := congrArg wL (List.take_append_drop 4 l)
        rw [wL_app] at hw
        exact ⟨a, b, by omega, fun r hr => List.mem_of_mem_drop (d r hr)⟩
theorem encFs_len : ∀ (r : List (List UInt8)), wR r ≤ 1500 → (Fm.encFs r).length ≤ 2 * wR r
  | [], _ => by simp [Fm.encFs]
  | s :: r, h => by
    simp only [wR] at h ⊢
    have ih := encFs_len r (by omega)
    have h1 := Vm.vb_len_le 1 s.length (by omega)
    simp only [Fm.encFs, Fm.encF, List.length_append]
    omega
theorem encR_len (r : List (List UInt8)) (h : wR r ≤ 1500) : (Fm.encR r).length ≤ 2 + 2 * wR r := by
  have h1 := encFs_len r h
  have h2 := wR_len r
  have h3 := Vm.vb_len_le 1 r.length (by omega)
  unfold Fm.encR
  rw [List.length_append]
  omega
theorem encRs_len : ∀ (l : List R), wL l ≤ 1500 → (Fm.encRs l).length ≤ 2 * l.length + 2 * wL l
  | [], _ => by simp [Fm.encRs]
  | r :: l, h => by
    simp only [wL] at h ⊢
    have ih := encRs_len l (by omega)
    have h1 := encR_len r (by omega)
    simp only [Fm.encRs, List.length_append, List.length_cons]
    omega
theorem enc_len (l : List R) (h : wL l ≤ 1500) (hl : l.length ≤ 40) : (Fm.enc l).length ≤ 3200 := by
  have h1 := encRs_len l h
  have h2 := Vm.vb_len_le 1 l.length (by omega)
  unfold Fm.enc
  rw [List.length_append]
  omega
def Few (l : List R) : Prop := wL l ≤ 1500 ∧ l.length ≤ 60
theorem ch_enc {l : List R} (h : Few l) {c : List R} (hc : c ∈ ch l) : (Fm.enc c).length ≤ 3200 := by
  obtain ⟨a, b, d, _⟩ := ch_mem _ l (Nat.le_refl _) c hc
  exact enc_len c (by have := h.1; omega) (by omega)
theorem ch_fits {l : List R} (h : Few l) (hm : ∀ r ∈ l, Fm.May r) : ∀ c ∈ ch l, Fits c := fun c hc => by
  obtain ⟨a, b, d, e⟩ := ch_mem _ l (Nat.le_refl _) c hc
  exact ⟨fun r hr => hm r (e r hr), a, by omega, by have := ch_enc h hc; omega⟩
theorem ch_few {l : List R} (h : Few l) : (ch l).length ≤ 15 := by
  rw [ch_len _ l (Nat.le_refl _)]
  have := h.2
  omega
def wr (l : List R) : List UInt8 := file (ch l)
def okR (r : List (List UInt8)) : Bool := decide (r.length ≤ 50) && r.all fun s => decide (s.length ≤ 1000)
def wrS (l : List R) : List UInt8 × Nat := if l.all okR = true then (wr l, 0) else ([], 10)
theorem okR_may (r : List (List UInt8)) : okR r = true ↔ Fm.May r := by unfold okR Fm.May; simp
theorem wrS_ok {l : List R} (h : ∀ r ∈ l, Fm.May r) : wrS l = (wr l, 0) := by
  unfold wrS
  rw [if_pos (List.all_eq_true.2 fun r hr => (okR_may r).2 (h r hr))]
theorem wrS_err {l : List R} (h : ¬ ∀ r ∈ l, Fm.May r) : wrS l = ([], 10) := by
  unfold wrS
  rw [if_neg fun e => h fun r hr => (okR_may r).1 (List.all_eq_true.1 e r hr)]
theorem wrS_cases (l : List R) : ((∀ r ∈ l, Fm.May r) ∧ wrS l = (wr l, 0)) ∨ ((¬ ∀ r ∈ l, Fm.May r) ∧ wrS l = ([], 10)) := by
  by_cases h : ∀ r ∈ l, Fm.May r
  · exact .inl ⟨h, wrS_ok h⟩
  · exact .inr ⟨h, wrS_err h⟩
theorem scS_wr {l : List R} (h : Few l) (hm : ∀ r ∈ l, Fm.May r) : scS (wr l) = (pcs 0 (ch l), (wr l).length, 0) := scS_file (ch_fits h hm) (by have := ch_few h; omega)
theorem all_wr (l : List R) : Tm.all (pcs 0 (ch l)) = l := by rw [all_pcs, ch_flat _ l (Nat.le_refl _)]
theorem blkw_len2 {c : List R} (h : (Fm.enc c).length ≤ 3200) : (blkw c).length ≤ 3300 := by
  have h1 := Pm.press_len (Fm.enc c) (by omega)
  unfold blkw
  rw [sealed_len]
  omega
theorem body_len : ∀ (C : List (List R)), (∀ c ∈ C, (Fm.enc c).length ≤ 3200) → (body C).length ≤ 3300 * C.length
  | [], _ => by simp [body]
  | c :: C, h => by
    have ih := body_len C fun y hy => h y (List.mem_cons_of_mem _ hy)
    have h1 := blkw_len2 (c := c) (h c (List.mem_cons_self ..))
    rw [body_cons, List.length_append, List.length_cons]
    omega
theorem wr_len {l : List R} (h : Few l) (hm : ∀ r ∈ l, Fm.May r) : (wr l).length ≤ 60000 := by
  have h1 := ch_few h
  have h2 := body_len (ch l) fun c hc => ch_enc h hc
  have h3 := ixc_len (oks_ew (ch_fits h hm)) (by rw [List.length_map]; omega)
  rw [List.length_map] at h3
  show (body (ch l) ++ (sealed (ixc ((ch l).map ew)) ++ (Cm.four (sealed (ixc ((ch l).map ew))).length ++ tl))).length ≤ _
  rw [List.length_append, List.length_append, List.length_append, Cm.four_len, sealed_len]
  have : tl.length = 4 := rfl
  omega
end Go.Proofs.YtknmhdkomjjneaaGreatDoor.Cht.Hm

/-
  The document's Cuts: places out of numbers.
-/

namespace Go.Proofs.YtknmhdkomjjneaaGreatDoor
open Go.RowKit
def ivs (l : List Int) : List Value := l.map fun x => .int .i64 x
theorem ivs_get (l : List Int) (j : Nat) (x : Int) (h : l[j]? = some x) : (ivs l)[j]? = some (.int .i64 x) := by simp [ivs, h]
theorem ivs_length (l : List Int) : (ivs l).length = l.length := by simp [ivs]
theorem Rc.int {w : World} {B : Nat} {A : Option Addr} {n c k : Nat} {l : List Int} (h : Rc 1 w B A n c (ivs l)) (hk : k < n) :
    ∃ b off x, A = some ⟨b, off, none⟩ ∧ b < B ∧ w.cell? ⟨b, off + k, none⟩ = some (.int .i64 x) ∧ l[k]? = some x := by
  have hl : l.length = n := by have := h.len1; rw [ivs_length] at this; exact this
  obtain ⟨b, off, v, e, hb, hc, hv⟩ := h.at_ hk
  have hkl : k < l.length := by omega
  rw [ivs_get l k l[k] (List.getElem?_eq_getElem hkl)] at hv
  injection hv with hv
  subst hv
  exact ⟨b, off, l[k], e, hb, hc, List.getElem?_eq_getElem hkl⟩
theorem ity : Sl Tryz.prog 25 3 (.int .i64 0) 1 8 := ⟨Tryz.underlying25, by kernel_rfl, rfl, by omega⟩
end Go.Proofs.YtknmhdkomjjneaaGreatDoor

/-
  The document's All, Of: what each call returns and leaves.
-/

namespace Go.Proofs.YtknmhdkomjjneaaGreatDoor
open Go.RowKit
theorem rrs_one' {w : World} {S : Nat → Prop} {vs : List Value} {l : List (List (List UInt8))} (h : RrsS w S vs l) : ∀ v ∈ vs, v.oneCell' = true := fun v hv => by
  obtain ⟨j, hj, rfl⟩ := List.getElem_of_mem hv
  obtain ⟨A, n, c, e, _⟩ := h.2 j _ (l[j]'(by rw [← h.1]; exact hj)) (List.getElem?_eq_getElem hj) (List.getElem?_eq_getElem (by rw [← h.1]; exact hj))
  rw [e]; rfl
def RetA (w : World) (L : List (List (List UInt8))) (e : Ending) (w' : World) : Prop :=
  ∃ A c, e = .returned (.slice A L.length c) ∧ RL w' w'.heap.size A L.length c L ∧ Below w.heap.size w w'
def AllRel (base n : Nat) (w : World) (L : Nat → List (List (List UInt8))) (o i : Value) (wr : World) : Prop :=
  ∃ A c vs, ∃ k : Nat, o = .slice A (L k).length c ∧ i = .int .i64 (k : Int) ∧ k ≤ n ∧ Oc 1 wr 78 base A (L k).length c vs ∧ RrsS wr (· < base) vs (L k) ∧ Below base w wr

set_option maxHeartbeats 2000000 in
set_option maxRecDepth 100000 in
theorem rall_c (A : Option Addr) (n c : Nat) (ps : List (Nat × List (List (List UInt8)))) (w : World) (hr : PL w w.heap.size A n c ps) (hn : n ≤ 100000000) (hz : (Tm.all ps).length ≤ 100000000) :
    Calls Tryz.prog 28 #[.slice A n c] w (RetA w (Tm.all ps)) := by
  have hl := hr.len
  have Hr := Lib.hid hr; have Hl := Lib.hid hl; clear hr hl
  go_enter Tryz.func28, Tryz.ntmps28
  go_wp2
  go_loopw [3, 4] (fun o i wr => AllRel w.heap.size n w (fun k => Tm.all (ps.take k)) o i wr) (fun _ i _ => n - (intOf i).toNat)
  case atStart => exact ⟨some ⟨w.heap.size, 0, none⟩, 0, [], 0, rfl, rfl, Nat.zero_le _, Oc.made0 1 _ _, RrsS.nil, (Below.refl _ _).alloc (Nat.le_refl _) _⟩
  case round =>
    obtain ⟨A3, c3, vs, k, rfl, rfl, hk, hown, hps, hbel⟩ := hrel
    dsimp only at hown hps ⊢
    have z3 := hbel.size
    rename World => wr
    have hlen : (Tm.all (ps.take k)).length ≤ 100000000 := Nat.le_trans (Tm.all_take ps k) hz
    by_cases hlt : k < n
    · obtain ⟨b, off, p, D, m, d, rfl, hb, hc1, hc2, hp, us, hu1, hu2⟩ := (Hr.out.below hbel).at_ hlt
      have hm : p.2.length = m := RLS.len ⟨us, hu1, hu2⟩
      have hsn := Tm.all_snoc ps k p hp
      have hlen2 : (Tm.all (ps.take k)).length + m ≤ 100000000 := by
        have := Tm.all_take ps (k + 1)
        rw [hsn, List.length_append, hm] at this
        omega
      obtain ⟨L, hL⟩ : ∃ L, L = Tm.all (ps.take k) := ⟨_, rfl⟩
      rw [← hL] at hown hps hsn hlen hlen2 ⊢
      have hps2 := hps.append hu2
      have h1 := rrs_one' hu2
      have Hs := Lib.hid hsn; have Hm := Lib.hid hm; have Hown := Lib.hid hown; have Hps2 := Lib.hid hps2; have H1 := Lib.hid h1; have Hu := Lib.hid hu1.rc; clear hsn hm hown hps hps2 h1 hu1 hu2 hp hL
      go_wp2_with (at_builtin; go_must (refine Sl.wpAppAt rty rfl (.tmp 12) (.tmp 17) rfl (n := L.length) (m := m) (N := L.length + m) (ws := vs ++ us) rfl rfl Hown.out Hu.out H1.out rfl rfl ?hs4 ?hs5 ?hs6 ?_))
      case hs4 => omega
      case hs5 => omega
      case hs6 => omega
      intro A8 c8 w8 hown8 hg8
      have b8 := hg8.belowC Hown.out z3
      have bw8 := hbel.trans b8
      have hps8 := Hps2.out.keep (stays_below b8 (Nat.le_refl _))
      have Hown8 := Lib.hid hown8; have Hps8 := Lib.hid hps8; clear hown8 hps8 hg8
      go_wp2
      go_roundw
      case rel => exact ⟨A8, c8, vs ++ us, k + 1, by dsimp only; rw [Hs.out, List.length_append, Hm.out], by go_num, hlt, by dsimp only; rw [Hs.out, List.length_append, Hm.out]; exact Hown8.out, by dsimp only; rw [Hs.out]; exact Hps8.out, bw8⟩
      case measure => simp [intOf]; omega
    · have e : ps.take k = ps := List.take_of_length_le (by have := Hl.out; omega)
      rw [e] at hown hps ⊢
      have hfin : RL wr wr.heap.size A3 (Tm.all ps).length c3 (Tm.all ps) := ⟨vs, hown.rc, hps.keep (stays_below (Below.refl _ _) z3)⟩
      have Hfin := Lib.hid hfin; clear hown hps hfin e hlen
      go_wp2
      go_ret
      exact ⟨A3, c3, rfl, Hfin.out, hbel⟩

end Go.Proofs.YtknmhdkomjjneaaGreatDoor
