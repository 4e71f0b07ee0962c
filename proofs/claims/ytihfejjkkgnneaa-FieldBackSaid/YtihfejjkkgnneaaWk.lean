/-
  How much records weigh, and how long their bytes are at most.
-/
import Derived.Test.YtihfejjkkgnneaaFn
import Derived.Test.YtihfejjkkgnneaaTf
namespace Go.Proofs.Ytihfejjkkgnneaa

def wR : List (List UInt8) → Nat
  | [] => 0
  | s :: t => 1 + s.length + wR t
def wL : List (List (List UInt8)) → Nat
  | [] => 0
  | r :: t => wR r + wL t
theorem wR_mem : ∀ (r : List (List UInt8)) (s : List UInt8), s ∈ r → s.length < wR r
  | [], s, h => by cases h
  | x :: t, s, h => by
    rcases List.mem_cons.1 h with rfl | h
    · simp only [wR]; omega
    · have := wR_mem t s h
      simp only [wR]; omega
theorem wR_len : ∀ r : List (List UInt8), r.length ≤ wR r
  | [] => Nat.le_refl _
  | x :: t => by have := wR_len t; simp only [wR, List.length_cons]; omega
theorem wL_mem : ∀ (l : List (List (List UInt8))) (r : List (List UInt8)), r ∈ l → wR r ≤ wL l
  | [], r, h => by cases h
  | x :: t, r, h => by
    rcases List.mem_cons.1 h with rfl | h
    · simp only [wL]; omega
    · have := wL_mem t r h
      simp only [wL]; omega
theorem encFs_len : ∀ (r : List (List UInt8)), wR r ≤ 1000000 → (Fm.encFs r).length ≤ 3 * wR r
  | [], _ => by simp [Fm.encFs]
  | x :: t, h => by
    simp only [wR] at h ⊢
    have ih := encFs_len t (by omega)
    have hv := vb_small x.length (by omega)
    have e : Fm.encFs (x :: t) = Vm.vb x.length ++ x ++ Fm.encFs t := rfl
    rw [e, List.length_append, List.length_append]
    omega
theorem encRs_len : ∀ (l : List (List (List UInt8))), wL l ≤ 1000000 → (Fm.encRs l).length ≤ 3 * l.length + 3 * wL l
  | [], _ => by simp [Fm.encRs]
  | r :: t, h => by
    simp only [wL] at h ⊢
    have ih := encRs_len t (by omega)
    have h1 := encFs_len r (by omega)
    have hl := wR_len r
    have hv := vb_small r.length (by omega)
    have e : Fm.encRs (r :: t) = Vm.vb r.length ++ Fm.encFs r ++ Fm.encRs t := rfl
    rw [e, List.length_append, List.length_append, List.length_cons]
    omega
theorem enc_len (l : List (List (List UInt8))) (hl : l.length ≤ 10000) (h : wL l ≤ 10000) : (Fm.enc l).length ≤ 60003 := by
  have h1 := encRs_len l (by omega)
  have hv := vb_small l.length (by omega)
  unfold Fm.enc
  rw [List.length_append]
  omega
theorem wordsGo_len : ∀ (s cur : List UInt8), (Fm.wordsGo cur s).length ≤ s.length + 1 ∧ (cur = [] → (Fm.wordsGo cur s).length ≤ s.length)
  | [], cur => by
    rw [Fm.wg_nil]
    split <;> simp_all
  | c :: r, cur => by
    have i1 := wordsGo_len r []
    have i2 := wordsGo_len r (cur ++ [c])
    have i1' := i1.2 rfl
    rw [Fm.wg_cons]
    split
    · split
      · exact ⟨by simp only [List.length_cons]; omega, fun _ => by simp only [List.length_cons]; omega⟩
      · rename_i hc
        exact ⟨by simp only [List.length_cons]; omega, fun h => absurd h hc⟩
    · exact ⟨by simp only [List.length_cons]; omega, fun _ => by simp only [List.length_cons]; omega⟩
theorem words_len (s : List UInt8) : (Fm.words s).length ≤ s.length := (wordsGo_len s []).2 rfl
end Go.Proofs.Ytihfejjkkgnneaa
