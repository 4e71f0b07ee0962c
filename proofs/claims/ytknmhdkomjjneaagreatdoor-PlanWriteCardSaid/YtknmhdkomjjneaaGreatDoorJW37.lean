/-
  Joined: Ob.
-/
import Derived.Test.YtknmhdkomjjneaaGreatDoorJW35
import Derived.Test.YtknmhdkomjjneaaGreatDoorJW36
import Derived.Test.YtknmhdkomjjneaaGreatDoorJW10
import Derived.Test.YtknmhdkomjjneaaGreatDoorJW24
import Derived.Test.YtknmhdkomjjneaaGreatDoorJW25
import Derived.Test.YtknmhdkomjjneaaGreatDoorJW4
/-
  plan: what Write comes to, whatever the format; what was written is read again. Plain mathematics.
-/

namespace Go.Proofs.YtknmhdkomjjneaaGreatDoor.Pl
open Go.RowKit

def Few6 (L : List (List (List UInt8))) : Prop := wL L ≤ 1500 ∧ L.length ≤ 60
def wrF (f k : Int) (L : List (List (List UInt8))) : List UInt8 × Nat :=
  if f = 0 then Tm.wrS L else if f = 1 then Csv.Cv.wrS L else if f = 2 then Sq.Sm.wrS L else if f = 3 then Cht.Hm.wrS L else if f = 4 then Fix.Fx.wrS k.toNat L else Bun.Bm.wrS L
theorem wrF_txt (k : Int) (L : List (List (List UInt8))) : wrF 0 k L = Tm.wrS L := rfl
theorem wrF_csv (k : Int) (L : List (List (List UInt8))) : wrF 1 k L = Csv.Cv.wrS L := rfl
theorem wrF_seq (k : Int) (L : List (List (List UInt8))) : wrF 2 k L = Sq.Sm.wrS L := rfl
theorem wrF_cht (k : Int) (L : List (List (List UInt8))) : wrF 3 k L = Cht.Hm.wrS L := rfl
theorem wrF_fix (k : Int) (L : List (List (List UInt8))) : wrF 4 k L = Fix.Fx.wrS k.toNat L := rfl
theorem wrF_bun (k : Int) (L : List (List (List UInt8))) : wrF 5 k L = Bun.Bm.wrS L := rfl

theorem few_len {L : List (List (List UInt8))} (h : wL L ≤ 1500) : ∀ r ∈ L, ∀ q ∈ r, q.length ≤ 1500 := fun r hr q hq => by
  have h1 := wL_mem L r hr
  have h2 := wR_mem r q hq
  omega
theorem flat_len : ∀ r : List (List UInt8), r.flatten.length ≤ wR r
  | [] => by simp [wR]
  | s :: r => by
    have ih := flat_len r
    rw [List.flatten_cons, List.length_append]
    simp only [wR]
    omega
theorem twr_len : ∀ L : List (List (List UInt8)), (Tm.wr L).length ≤ wL L + L.length
  | [] => by simp [Tm.wr, wL]
  | r :: L => by
    have ih := twr_len L
    have h := flat_len r
    rw [Tm.wr_cons, List.length_append, List.length_cons, List.length_cons]
    simp only [wL]
    omega
theorem fwr_len : ∀ L : List (List (List UInt8)), (Fix.Fx.wr L).length ≤ wL L
  | [] => by simp [Fix.Fx.wr, wL]
  | r :: L => by
    have ih := fwr_len L
    have h := flat_len r
    unfold Fix.Fx.wr at ih ⊢
    rw [List.flatMap_cons, List.length_append]
    simp only [wL]
    omega
theorem frs_len : ∀ r : List (List UInt8), (∀ s ∈ r, s.length ≤ 1500) → (Sq.Sm.frs r).length ≤ 2 * wR r
  | [], _ => by simp [Sq.Sm.frs, wR]
  | s :: r, h => by
    have ih := frs_len r fun x hx => h x (List.mem_cons_of_mem _ hx)
    have h1 := Vm.vb_len_le 1 s.length (by have := h s (List.mem_cons_self ..); omega)
    unfold Sq.Sm.frs at ih ⊢
    rw [List.flatMap_cons, List.length_append]
    unfold Sq.Sm.frl at ih ⊢
    rw [List.length_append]
    simp only [wR]
    omega
theorem recsB_len2 : ∀ L : List (List (List UInt8)), (∀ r ∈ L, ∀ s ∈ r, s.length ≤ 1500) → (Sq.Sm.recsB L).length ≤ 2 * wL L
  | [], _ => by simp [Sq.Sm.recsB, wL]
  | r :: L, h => by
    have ih := recsB_len2 L fun x hx => h x (List.mem_cons_of_mem _ hx)
    have h1 := frs_len r (h r (List.mem_cons_self ..))
    unfold Sq.Sm.recsB at ih ⊢
    rw [List.flatMap_cons, List.length_append]
    simp only [wL]
    omega
theorem blkw_len4 (L : List (List (List UInt8))) (h : ∀ r ∈ L, ∀ s ∈ r, s.length ≤ 1500) (hl : L.length ≤ 3) : (Sq.Sm.blkw L).length ≤ 14 + 4 * wL L := by
  have h1 := recsB_len2 L h
  have h2 := Vm.vb_len_le 0 L.length (by omega)
  have h3 := Sq.Sm.esc_len (Sq.Sm.sealed (Sq.Sm.conts L))
  have h4 : (Sq.Sm.sealed (Sq.Sm.conts L)).length = (Sq.Sm.conts L).length + 4 := by simp [Sq.Sm.sealed, Cm.four_len]
  have h5 : (Sq.Sm.conts L).length = (Vm.vb L.length).length + (Sq.Sm.recsB L).length := by simp [Sq.Sm.conts]
  unfold Sq.Sm.blkw
  rw [List.length_cons, List.length_cons]
  omega
theorem wch_len2 : ∀ (k : Nat) (L : List (List (List UInt8))), (∀ r ∈ L, ∀ s ∈ r, s.length ≤ 1500) → (Sq.Sm.wch k L).length ≤ 14 * L.length + 4 * wL L
  | 0, L, _ => by simp [Sq.Sm.wch]
  | k + 1, L, h => by
    by_cases hl : L = []
    · subst hl; rw [Sq.Sm.wch_nil]; simp
    · have hp : 0 < L.length := List.length_pos_iff.2 hl
      have ih := wch_len2 k (L.drop 3) fun r hr => h r (List.mem_of_mem_drop hr)
      have h3 := blkw_len4 (L.take 3) (fun r hr => h r (List.mem_of_mem_take hr)) (by rw [List.length_take]; omega)
      have h4 := congrArg wL (List.take_append_drop 3 L)
      rw [wL_app] at h4
      rw [Sq.Sm.wch_step hl, List.length_append]
      rw [List.length_drop] at ih
      omega
theorem swr_len (L : List (List (List UInt8))) (h : ∀ r ∈ L, ∀ s ∈ r, s.length ≤ 1500) : (Sq.Sm.wr L).length ≤ 4 + 14 * L.length + 4 * wL L := by
  have := wch_len2 L.length L h
  unfold Sq.Sm.wr
  rw [List.length_append]
  have e : Sq.Sm.hd.length = 4 := rfl
  omega
theorem csv_zero {L : List (List (List UInt8))} (h : (Csv.Cv.wrS L).2 = 0) : L.all Csv.Cv.okR = true := by
  cases e : L.all Csv.Cv.okR with
  | true => rfl
  | false => rw [Csv.Cv.wrS_err e] at h; cases h

theorem wrF_back {f k : Int} (hF : isF f k = true) {L : List (List (List UInt8))} (hL : Few6 L) (h : (wrF f k L).2 = 0) :
    ∃ P, scF f k (wrF f k L).1 = (P, (wrF f k L).1.length, 0) ∧ Tm.all P = L ∧ (wrF f k L).1.length ≤ 90000 := by
  obtain ⟨hw, hl⟩ := hL
  have hz := few_len hw
  have hcase : f = 0 ∨ f = 1 ∨ f = 2 ∨ f = 3 ∨ f = 4 ∨ f = 5 := by
    unfold isF at hF
    split at hF
    · omega
    · unfold isU at hF
      simp at hF
      omega
  rcases hcase with rfl | rfl | rfl | rfl | rfl | rfl
  · rw [wrF_txt] at h ⊢
    have hok := Tm.wrS_zero h
    rw [Tm.wrS_ok hok, scF_txt]
    exact ⟨_, rfl, by rw [Tm.all_pc]; exact Tm.ls_wr L 0 hok, by have := twr_len L; show (Tm.wr L).length ≤ _; omega⟩
  · rw [wrF_csv] at h ⊢
    have hok := csv_zero h
    obtain ⟨h1, h2, h3⟩ := Csv.Cv.ls_wr hok
    rw [Csv.Cv.wrS_ok hok, scF_csv]
    exact ⟨_, by show _ = (_, (Csv.Cv.wr L).length, 0); rw [h2, h3], by rw [Csv.Cv.all_pc]; exact h1, by have := Csv.Cv.wr_len L hok; show (Csv.Cv.wr L).length ≤ _; omega⟩
  · rw [wrF_seq] at h ⊢
    have hok := Sq.Sm.wrS_zero h
    obtain ⟨D, -, h2, h3, -, h5⟩ := Sq.Sm.ps_wr L hok
    rw [Sq.Sm.wrS_ok hok, scF_seq]
    exact ⟨_, by show _ = (_, (Sq.Sm.wr L).length, 0); rw [h2, h5], h3, by have := swr_len L hz; show (Sq.Sm.wr L).length ≤ _; omega⟩
  · rw [wrF_cht] at h ⊢
    rcases Cht.Hm.wrS_cases L with ⟨hm, e⟩ | ⟨-, e⟩
    · have hf : Cht.Hm.Few L := ⟨hw, hl⟩
      rw [e, scF_cht]
      exact ⟨_, Cht.Hm.scS_wr hf hm, Cht.Hm.all_wr L, by have := Cht.Hm.wr_len hf hm; show (Cht.Hm.wr L).length ≤ _; omega⟩
    · rw [e] at h; cases h
  · rw [wrF_fix] at h ⊢
    have hk : 1 ≤ k ∧ k ≤ 1000 := by unfold isF at hF; simpa using hF
    have hok := Fix.Fx.wrS_zero h
    have hwl := Fix.Fx.wr_len k.toNat L hok
    have hdiv : (Fix.Fx.wr L).length / k.toNat * k.toNat = (Fix.Fx.wr L).length := by rw [hwl, Nat.mul_div_cancel _ (by omega)]
    rw [Fix.Fx.wrS_ok hok, scF_fix]
    refine ⟨_, ?_, by rw [Tm.all_pc]; exact Fix.Fx.ch_wr k.toNat (by omega) L hok, by have := fwr_len L; show (Fix.Fx.wr L).length ≤ _; omega⟩
    show (_, (Fix.Fx.wr L).length / k.toNat * k.toNat, Fix.scE (Fix.Fx.wr L).length k.toNat) = (_, (Fix.Fx.wr L).length, 0)
    unfold Fix.scE
    rw [hdiv, if_neg (Nat.lt_irrefl _)]
  · rw [wrF_bun] at h ⊢
    obtain ⟨h1, h2, e⟩ := Bun.Bm.wrS_inv h
    obtain ⟨P, hP, hall, -⟩ := Bun.Bm.write_back L h1 h2
    rw [e, scF_bun]
    refine ⟨P, hP, hall, ?_⟩
    obtain ⟨q1, q2, q3⟩ := Bun.Bm.wr_len L h1 h2
    have q4 : (Bun.Bm.sl (Bun.Bm.ents L)).length = (Bun.Bm.ents L).length + 4 := Bun.Bm.sl_len _
    have q5 := Vm.vb_len_le 2 (Bun.Bm.sl (Bun.Bm.ents L)).length (by omega)
    show (Bun.Bm.wr L).length ≤ _
    omega
end Go.Proofs.YtknmhdkomjjneaaGreatDoor.Pl
