/-
  press.reaches, survey.count; how the document's expansion goes token by token.
-/
import Derived.Test.YtaomeoppgbigjaaP10
namespace Go.Proofs.Ytaomeoppgbigjaa
open Go.RowKit

section
variable {n : Nat} {out r : List UInt8} {p k : Nat}
theorem ne_of_tk {a s : Nat} (h : Vm.tk r = (a, s, 0)) : r ≠ [] := by rintro rfl; simp [Vm.tk, Vm.dn_nil] at h
theorem eg_nil_few (h : out.length < n) : Pm.expGo n out [] p k = ([], 0, 0, 3) := by rw [Pm.expGo, dif_pos rfl, if_pos h]
theorem eg_nil (h : ¬ out.length < n) : Pm.expGo n out [] p k = (out, p, k, 0) := by rw [Pm.expGo, dif_pos rfl, if_neg h]
theorem eg_err1 {x : Nat} (hne : r ≠ []) (h : Vm.tk r = (0, 0, x)) (hx : x = 2 ∨ x = 3) : Pm.expGo n out r p k = ([], 0, 0, x) := by
  rw [Pm.expGo, dif_neg hne, h, dif_neg (by dsimp only; omega)]
theorem eg_short {a s : Nat} (h : Vm.tk r = (a, s, 0)) (h2 : a % 2 = 0) (hk : (r.drop s).length < a / 2 + 1) : Pm.expGo n out r p k = ([], 0, 0, 2) := by
  rw [Pm.expGo, dif_neg (ne_of_tk h), h, dif_pos rfl]; dsimp only; rw [if_pos h2, if_pos hk]
theorem eg_over {a s : Nat} (h : Vm.tk r = (a, s, 0)) (h2 : a % 2 = 0) (hk : ¬ (r.drop s).length < a / 2 + 1) (ho : n < out.length + (a / 2 + 1)) : Pm.expGo n out r p k = ([], 0, 0, 3) := by
  rw [Pm.expGo, dif_neg (ne_of_tk h), h, dif_pos rfl]; dsimp only; rw [if_pos h2, if_neg hk, if_pos ho]
theorem eg_lit {a s : Nat} (h : Vm.tk r = (a, s, 0)) (h2 : a % 2 = 0) (hk : ¬ (r.drop s).length < a / 2 + 1) (ho : ¬ n < out.length + (a / 2 + 1)) : Pm.expGo n out r p k = Pm.expGo n (out ++ (r.drop s).take (a / 2 + 1)) ((r.drop s).drop (a / 2 + 1)) (p + 1) k := by
  rw [Pm.expGo, dif_neg (ne_of_tk h), h, dif_pos rfl]; dsimp only; rw [if_pos h2, if_neg hk, if_neg ho]
theorem eg_err2 {a s x : Nat} (h : Vm.tk r = (a, s, 0)) (h2 : a % 2 = 1) (h3 : Vm.tk (r.drop s) = (0, 0, x)) (hx : x = 2 ∨ x = 3) : Pm.expGo n out r p k = ([], 0, 0, x) := by
  rw [Pm.expGo, dif_neg (ne_of_tk h), h, dif_pos rfl]; dsimp only; rw [if_neg (by omega), h3, if_neg (by dsimp only; omega)]
theorem eg_bad {a s d s2 : Nat} (h : Vm.tk r = (a, s, 0)) (h2 : a % 2 = 1) (h3 : Vm.tk (r.drop s) = (d, s2, 0)) (hb : d = 0 ∨ 4096 < d ∨ out.length < d ∨ n - out.length < a / 2 + 4) : Pm.expGo n out r p k = ([], 0, 0, 3) := by
  rw [Pm.expGo, dif_neg (ne_of_tk h), h, dif_pos rfl]; dsimp only; rw [if_neg (by omega), h3, if_pos rfl]; dsimp only; rw [if_pos hb]
theorem eg_mat {a s d s2 : Nat} (h : Vm.tk r = (a, s, 0)) (h2 : a % 2 = 1) (h3 : Vm.tk (r.drop s) = (d, s2, 0)) (hb : ¬ (d = 0 ∨ 4096 < d ∨ out.length < d ∨ n - out.length < a / 2 + 4)) : Pm.expGo n out r p k = Pm.expGo n (Pm.copyN (a / 2 + 4) d out) ((r.drop s).drop s2) p (k + 1) := by
  rw [Pm.expGo, dif_neg (ne_of_tk h), h, dif_pos rfl]; dsimp only; rw [if_neg (by omega), h3, if_pos rfl]; dsimp only; rw [if_neg hb]
end
theorem copyN_len : ∀ (k d : Nat) (o : List UInt8), (Pm.copyN k d o).length = o.length + k
  | 0, _, _ => rfl
  | k + 1, d, o => by rw [Pm.copyN, copyN_len k d]; simp; omega

set_option maxRecDepth 100000 in
/-- press.reaches -/
theorem reaches_c (d o : Nat) (w : World) :
    Calls Try.prog 36 #[.int .u64 (d : Int), .int .u64 (o : Int)] w fun e w' => e = .returned (.bool (decide (0 < d ∧ d ≤ 4096 ∧ d ≤ o))) ∧ w = w' := by
  by_cases h1 : 0 < d
  · by_cases h2 : d ≤ 4096
    · by_cases h3 : d ≤ o
      · rw [decide_eq_true (p := 0 < d ∧ d ≤ 4096 ∧ d ≤ o) ⟨h1, h2, h3⟩]
        go_enter Try.func36, Try.ntmps36
        go_wp2
        go_ret
        exact ⟨rfl, rfl⟩
      · rw [decide_eq_false (p := 0 < d ∧ d ≤ 4096 ∧ d ≤ o) (fun q => h3 q.2.2)]
        go_enter Try.func36, Try.ntmps36
        go_wp2
        go_ret
        exact ⟨rfl, rfl⟩
    · rw [decide_eq_false (p := 0 < d ∧ d ≤ 4096 ∧ d ≤ o) (fun q => h2 q.2.1)]
      go_enter Try.func36, Try.ntmps36
      go_wp2
      go_ret
      exact ⟨rfl, rfl⟩
  · rw [decide_eq_false (p := 0 < d ∧ d ≤ 4096 ∧ d ≤ o) (fun q => h1 q.1)]
    go_enter Try.func36, Try.ntmps36
    go_wp2
    go_ret
    exact ⟨rfl, rfl⟩

theorem Box4.grown {w w' : World} {g g' : Nat} {v0 v1 v2 v3 : Value} (h : Box4 w g v0 v1 v2 v3) (hg : w.grownBy w' (some g')) (hne : g ≠ g') : Box4 w' g v0 v1 v2 v3 := by
  have hb : w'.heap[g]? = w.heap[g]? := hg.block g h.lt (fun e => hne (Option.some.inj e))
  have c : ∀ i, w'.cell? ⟨g, i, none⟩ = w.cell? ⟨g, i, none⟩ := fun i => World.cell?_of_block hb
  have f : ∀ i, w'.frozen? ⟨g, i, none⟩ = w.frozen? ⟨g, i, none⟩ := fun i => World.frozen?_of_block hb
  exact ⟨(c 0).trans h.c0, (c 1).trans h.c1, (c 2).trans h.c2, (c 3).trans h.c3, (f 0).trans h.f0, (f 1).trans h.f1, (f 2).trans h.f2, (f 3).trans h.f3, Nat.lt_of_lt_of_le h.lt hg.size⟩
theorem grown_setCell (w : World) (g i : Nat) (v : Value) : w.grownBy (w.setCell ⟨g, i, none⟩ v) (some g) :=
  ⟨rfl, rfl, rfl, by simp, fun k _ hne => by simp only [World.setCell]; rw [Array.getElem?_modify, if_neg (fun e => hne (by rw [← e]))]⟩
theorem grown_put4 (w : World) (g : Nat) (v0 v1 v2 v3 : Value) : w.grownBy (put4 w g v0 v1 v2 v3) (some g) :=
  (((grown_setCell w g 0 v0).trans (grown_setCell _ g 1 v1)).trans (grown_setCell _ g 2 v2)).trans (grown_setCell _ g 3 v3)

theorem Box4.set2 {w : World} {g : Nat} {u0 u1 u2 u3 : Value} (h : Box4 w g u0 u1 u2 u3) (v : Value) : Box4 (w.setCell ⟨g, 2, none⟩ v) g u0 u1 v u3 := by
  obtain ⟨c0, c1, c2, c3, f0, f1, f2, f3, hlt⟩ := h
  have o : ∀ j : Nat, 2 ≠ j → (w.setCell ⟨g, 2, none⟩ v).cell? ⟨g, j, none⟩ = w.cell? ⟨g, j, none⟩ := fun j hj => World.cell?_setCell_other w _ _ _ (by simp)
  exact ⟨(o 0 (by omega)).trans c0, (o 1 (by omega)).trans c1, World.cell?_setCell_same w _ _ c2, (o 3 (by omega)).trans c3, by simp only [World.frozen?_setCell]; exact f0, by simp only [World.frozen?_setCell]; exact f1, by simp only [World.frozen?_setCell]; exact f2, by simp only [World.frozen?_setCell]; exact f3, by simpa using hlt⟩
theorem Box4.set3 {w : World} {g : Nat} {u0 u1 u2 u3 : Value} (h : Box4 w g u0 u1 u2 u3) (v : Value) : Box4 (w.setCell ⟨g, 3, none⟩ v) g u0 u1 u2 v := by
  obtain ⟨c0, c1, c2, c3, f0, f1, f2, f3, hlt⟩ := h
  have o : ∀ j : Nat, 3 ≠ j → (w.setCell ⟨g, 3, none⟩ v).cell? ⟨g, j, none⟩ = w.cell? ⟨g, j, none⟩ := fun j hj => World.cell?_setCell_other w _ _ _ (by simp)
  exact ⟨(o 0 (by omega)).trans c0, (o 1 (by omega)).trans c1, (o 2 (by omega)).trans c2, World.cell?_setCell_same w _ _ c3, by simp only [World.frozen?_setCell]; exact f0, by simp only [World.frozen?_setCell]; exact f1, by simp only [World.frozen?_setCell]; exact f2, by simp only [World.frozen?_setCell]; exact f3, by simpa using hlt⟩

set_option maxRecDepth 100000 in
/-- survey.count: a literal token -/
theorem count_lit (g : Nat) (S tv : Value) (p k : Nat) (kk : Nat) (sl : Value) (d : Nat) (w : World) (hb : Box4 w g S tv (.int .i64 (p : Int)) (.int .i64 (k : Int))) (hp : p ≤ 1000000) :
    Calls Try.prog 37 #[.pointer (some ⟨g, 0, none⟩), tokV false kk sl d] w fun e w' => e = .returned (.tuple #[]) ∧ Box4 w' g S tv (.int .i64 ((p + 1 : Nat) : Int)) (.int .i64 (k : Int)) ∧ w.grownBy w' (some g) := by
  have Hb := Lib.hid hb
  obtain ⟨c0, c1, c2, c3, f0, f1, f2, f3, hlt⟩ := hb
  have hne : g ≠ w.heap.size := by omega
  unfold tokV
  go_enter Try.func37, Try.ntmps37
  go_wp2
  go_end0
  exact ⟨rfl, (Hb.out.set2 _).alloc _, (grown_setCell w g 2 _).trans (World.grownBy_alloc _ _ _)⟩

set_option maxRecDepth 100000 in
/-- survey.count: a match token -/
theorem count_mat (g : Nat) (S tv : Value) (p k : Nat) (kk : Nat) (sl : Value) (d : Nat) (w : World) (hb : Box4 w g S tv (.int .i64 (p : Int)) (.int .i64 (k : Int))) (hk : k ≤ 1000000) :
    Calls Try.prog 37 #[.pointer (some ⟨g, 0, none⟩), tokV true kk sl d] w fun e w' => e = .returned (.tuple #[]) ∧ Box4 w' g S tv (.int .i64 (p : Int)) (.int .i64 ((k + 1 : Nat) : Int)) ∧ w.grownBy w' (some g) := by
  have Hb := Lib.hid hb
  obtain ⟨c0, c1, c2, c3, f0, f1, f2, f3, hlt⟩ := hb
  have hne : g ≠ w.heap.size := by omega
  unfold tokV
  go_enter Try.func37, Try.ntmps37
  go_wp2
  go_end0
  exact ⟨rfl, (Hb.out.set3 _).alloc _, (grown_setCell w g 3 _).trans (World.grownBy_alloc _ _ _)⟩
end Go.Proofs.Ytaomeoppgbigjaa
