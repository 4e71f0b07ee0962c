/-
  Joined: P10 P11.
-/
import Derived.Test.YtplkjljhpmldfaaJ23
import Derived.RegionTactic
/-
  press.takeLiteral, press.takeToken: the token that a row begins with, and the rest.
-/
namespace Go.Proofs.Ytplkjljhpmldfaa
open Go.RowKit

/-- A block of four cells of the call's own. -/
structure Box4 (w : World) (g : Nat) (v0 v1 v2 v3 : Value) : Prop where
  c0 : w.cell? ⟨g, 0, none⟩ = some v0
  c1 : w.cell? ⟨g, 1, none⟩ = some v1
  c2 : w.cell? ⟨g, 2, none⟩ = some v2
  c3 : w.cell? ⟨g, 3, none⟩ = some v3
  f0 : w.frozen? ⟨g, 0, none⟩ = false
  f1 : w.frozen? ⟨g, 1, none⟩ = false
  f2 : w.frozen? ⟨g, 2, none⟩ = false
  f3 : w.frozen? ⟨g, 3, none⟩ = false
  lt : g < w.heap.size
theorem Box4.made (w : World) (T : TypeId) (v0 v1 v2 v3 : Value) : Box4 (w.alloc (.cells #[v0, v1, v2, v3] T)) w.heap.size v0 v1 v2 v3 :=
  ⟨by simp, by simp, by simp, by simp, by simp, by simp, by simp, by simp, by simp⟩
theorem Box4.below {w w' : World} {B g : Nat} {v0 v1 v2 v3 : Value} (h : Box4 w g v0 v1 v2 v3) (hb : Below B w w') (hg : g < B) : Box4 w' g v0 v1 v2 v3 :=
  ⟨(hb.cell hg).trans h.c0, (hb.cell hg).trans h.c1, (hb.cell hg).trans h.c2, (hb.cell hg).trans h.c3, (hb.frozen hg).trans h.f0, (hb.frozen hg).trans h.f1, (hb.frozen hg).trans h.f2, (hb.frozen hg).trans h.f3, Nat.lt_of_lt_of_le h.lt hb.size⟩
theorem Box4.drewN {w : World} {g : Nat} {v0 v1 v2 v3 : Value} (h : Box4 w g v0 v1 v2 v3) (q : Nat) : Box4 (w.drewN q) g v0 v1 v2 v3 := ⟨h.c0, h.c1, h.c2, h.c3, h.f0, h.f1, h.f2, h.f3, h.lt⟩
theorem Box4.alloc {w : World} {g : Nat} {v0 v1 v2 v3 : Value} (h : Box4 w g v0 v1 v2 v3) (o : Obj) : Box4 (w.alloc o) g v0 v1 v2 v3 :=
  h.below ((Below.refl w.heap.size w).alloc (Nat.le_refl _) o) h.lt
def put4 (w : World) (g : Nat) (v0 v1 v2 v3 : Value) : World := (((w.setCell ⟨g, 0, none⟩ v0).setCell ⟨g, 1, none⟩ v1).setCell ⟨g, 2, none⟩ v2).setCell ⟨g, 3, none⟩ v3
theorem Box4.put {w : World} {g : Nat} {u0 u1 u2 u3 : Value} (h : Box4 w g u0 u1 u2 u3) (v0 v1 v2 v3 : Value) : Box4 (put4 w g v0 v1 v2 v3) g v0 v1 v2 v3 := by
  obtain ⟨c0, c1, c2, c3, f0, f1, f2, f3, hlt⟩ := h
  unfold put4
  have o : ∀ (W : World) (i j : Nat) (u : Value), i ≠ j → (W.setCell ⟨g, i, none⟩ u).cell? ⟨g, j, none⟩ = W.cell? ⟨g, j, none⟩ := fun W i j u hij => World.cell?_setCell_other W _ _ _ (by simp)
  have s : ∀ (W : World) (i : Nat) (u v : Value), W.cell? ⟨g, i, none⟩ = some v → (W.setCell ⟨g, i, none⟩ u).cell? ⟨g, i, none⟩ = some u := fun W i u v h => World.cell?_setCell_same W _ _ h
  refine ⟨?_, ?_, ?_, ?_, by simp only [World.frozen?_setCell]; exact f0, by simp only [World.frozen?_setCell]; exact f1, by simp only [World.frozen?_setCell]; exact f2, by simp only [World.frozen?_setCell]; exact f3, by simpa using hlt⟩
  · rw [o _ 3 0 _ (by omega), o _ 2 0 _ (by omega), o _ 1 0 _ (by omega)]; exact s _ 0 _ _ c0
  · rw [o _ 3 1 _ (by omega), o _ 2 1 _ (by omega)]; exact s _ 1 _ u1 (by rw [o _ 0 1 _ (by omega)]; exact c1)
  · rw [o _ 3 2 _ (by omega)]; exact s _ 2 _ u2 (by rw [o _ 1 2 _ (by omega), o _ 0 2 _ (by omega)]; exact c2)
  · exact s _ 3 _ u3 (by rw [o _ 2 3 _ (by omega), o _ 1 3 _ (by omega), o _ 0 3 _ (by omega)]; exact c3)
theorem below_put4 {B : Nat} {a w : World} (h : Below B a w) {g : Nat} (hg : B ≤ g) (v0 v1 v2 v3 : Value) : Below B a (put4 w g v0 v1 v2 v3) :=
  (((h.setCell hg _).setCell hg _).setCell hg _).setCell hg _

/-- A token's value. -/
def tokV (m : Bool) (k : Nat) (s : Value) (d : Nat) : Value := .agg #[.bool m, .int .u64 (k : Int), s, .int .u64 (d : Int)]

set_option maxRecDepth 100000 in
/-- press.takeLiteral: bytes are missing -/
theorem takeLiteral_short (A : Option Addr) (n c k : Nat) (w : World) (hn : n ≤ 1000000) (hk : n < k) :
    Calls Try.prog 101 #[.slice A n c, .int .u64 (k : Int)] w fun e w' => e = .returned (.tuple #[tokV false 0 (.slice none 0 0) 0, .slice none 0 0, .int .i64 2]) ∧ Below w.heap.size w w' := by
  have hk' : (n : Int) < (k : Int) := by omega
  go_enter Try.func101, Try.ntmps101
  go_wp2
  refine bodyPost_ret (v := .tuple #[tokV false 0 (.slice none 0 0) 0, .slice none 0 0, .int .i64 2]) ?_ rfl ⟨rfl, ?_⟩
  · simp [results, Try.results101, go_sem, tokV]
  · exact (Below.refl _ _).alloc (Nat.le_refl _) _

set_option maxRecDepth 100000 in
/-- press.takeLiteral -/
theorem takeLiteral_ok (A : Option Addr) (n c B : Nat) (l : List UInt8) (k : Nat) (w : World) (hr : Rb w B A n c l) (hB : B ≤ w.heap.size) (hn : n ≤ 1000000) (hk : k ≤ n) :
    Calls Try.prog 101 #[.slice A n c, .int .u64 (k : Int)] w fun e w' => ∃ E F, e = .returned (.tuple #[tokV false k (.slice E k c) 0, .slice F (n - k) (c - k), .int .i64 0]) ∧ Rb w' B E k c (l.take k) ∧ Rb w' B F (n - k) (c - k) (l.drop k) ∧ Below w.heap.size w w' := by
  have hk' : (k : Int) ≤ (n : Int) := by omega
  obtain ⟨E, hE, hrE⟩ := bty.upto_ hr (k := k) hk (k : Int) rfl
  obtain ⟨F, hF, hrF⟩ := bty.from_ hr (k := k) hk (k : Int) rfl
  have HE := Lib.hid hrE; have HF := Lib.hid hrF; clear hr hrE hrF
  go_enter Try.func101, Try.ntmps101
  go_wp2
  go_region
  go_wp2
  refine bodyPost_ret (v := .tuple #[tokV false k (.slice E k c) 0, .slice F (n - k) (c - k), .int .i64 0]) ?_ rfl ⟨E, F, rfl, ?_, ?_, ?_⟩
  · simp [results, Try.results101, go_sem, tokV]
  · exact (HE.out.alloc hB _).drewN 1
  · exact (HF.out.alloc hB _).drewN 1
  · exact below_drewN ((Below.refl _ _).alloc (Nat.le_refl _) _) 1

theorem tokbox (w w1 : World) (T : TypeId) (v0 v1 v2 v3 : Value) (hb : Below (w.alloc (.cells #[v0, v1, v2, v3] T)).heap.size (w.alloc (.cells #[v0, v1, v2, v3] T)) w1) : Box4 w1 w.heap.size v0 v1 v2 v3 ∧ Below w.heap.size w w1 ∧ w.heap.size < w1.heap.size :=
  ⟨(Box4.made w T v0 v1 v2 v3).below hb (by simp), ((Below.refl _ _).alloc (Nat.le_refl _) _).trans (hb.mono (by simp)), by have := hb.size; simp at this; omega⟩

set_option maxRecDepth 100000 in
/-- press.takeToken: no number is there -/
theorem takeToken_err1 (A : Option Addr) (n c B : Nat) (l : List UInt8) (x : Nat) (w : World) (hr : Rb w B A n c l) (hB : B ≤ w.heap.size) (hn : n ≤ 1000000) (htk : Vm.tk l = (0, 0, x)) (hx : x = 2 ∨ x = 3) :
    Calls Try.prog 93 #[.slice A n c] w fun e w' => e = .returned (.tuple #[tokV false 0 (.slice none 0 0) 0, .slice none 0 0, .int .i64 (x : Int)]) ∧ Below w.heap.size w w' := by
  have hx0 : ((x : Int) == 0) = false := by simp; omega
  have Hr := Lib.hid hr; have Htk := Lib.hid htk; have Hx := Lib.hid hx; clear hr htk hx
  go_enter Try.func93, Try.ntmps93
  go_wp2_with fail
  refine (takeNumber_err A n c B l x _ (Hr.out.alloc hB _) (by simp; omega) hn Htk.out Hx.out).mono ?_
  rintro e w1 ⟨rfl, hb1⟩
  obtain ⟨⟨c0, c1, c2, c3, f0, f1, f2, f3, hlt⟩, hbb, hs1⟩ := tokbox _ _ _ _ _ _ _ hb1
  clear hb1
  go_wp2
  refine bodyPost_ret (v := .tuple #[tokV false 0 (.slice none 0 0) 0, .slice none 0 0, .int .i64 (x : Int)]) ?_ rfl ⟨rfl, ?_⟩
  · simp [results, Try.results93, go_sem, tokV, c0, c1, c2, c3]
  · exact (((hbb.setCell (by simp) _).setCell (by simp) _).setCell (by simp) _).setCell (by simp) _

set_option maxRecDepth 100000 in
/-- press.takeToken: literal bytes are missing -/
theorem takeToken_short (A : Option Addr) (n c B : Nat) (l : List UInt8) (a s : Nat) (w : World) (hr : Rb w B A n c l) (hB : B ≤ w.heap.size) (hn : n ≤ 1000000) (htk : Vm.tk l = (a, s, 0)) (ha : a < 18446744073709551616) (h2 : a % 2 = 0) (hk : n - s < a / 2 + 1) :
    Calls Try.prog 93 #[.slice A n c] w fun e w' => e = .returned (.tuple #[tokV false 0 (.slice none 0 0) 0, .slice none 0 0, .int .i64 2]) ∧ Below w.heap.size w w' := by
  have Hr := Lib.hid hr; have Htk := Lib.hid htk; clear hr htk
  have Hk := Lib.hid hk; clear hk
  have h2' : (((a : Int) % 2) == 0) = true := by simp; omega
  have H2 := Lib.hid h2; clear h2
  go_enter Try.func93, Try.ntmps93
  go_wp2_with fail
  refine (takeNumber_ok A n c B l a s _ (Hr.out.alloc hB _) (by simp; omega) hn Htk.out).mono ?_
  rintro e w1 ⟨D, rfl, hrD, hb1⟩
  obtain ⟨hbx, hbb, hs1⟩ := tokbox _ _ _ _ _ _ _ hb1
  have Hbx := Lib.hid hbx; clear hb1 hrD hbx
  obtain ⟨k, hk⟩ : ∃ k, k = a / 2 + 1 := ⟨_, rfl⟩
  have hkz : (a : Int) / 2 + 1 = (k : Int) := by omega
  have hc := takeLiteral_short D (n - s) (c - s) k w1 (by omega) (by rw [hk]; exact Hk.out)
  rw [← hkz] at hc
  have Hc := Lib.hid hc; clear hc hk hkz
  go_wp2_with fail
  refine Hc.out.mono ?_
  rintro e w2 ⟨rfl, hb2⟩
  obtain ⟨c0, c1, c2, c3, f0, f1, f2, f3, hlt⟩ := Hbx.out.below hb2 hs1
  unfold tokV
  go_wp2
  refine bodyPost_ret (v := .tuple #[tokV false 0 (.slice none 0 0) 0, .slice none 0 0, .int .i64 2]) ?_ rfl ⟨rfl, ?_⟩
  · simp [results, Try.results93, go_sem, tokV, c0, c1, c2, c3]
  · exact ((((hbb.trans (hb2.mono (by omega))).setCell (by simp) _).setCell (by simp) _).setCell (by simp) _).setCell (by simp) _

set_option maxRecDepth 100000 in
/-- press.takeToken: a literal token -/
theorem takeToken_lit (A : Option Addr) (n c B : Nat) (l : List UInt8) (a s : Nat) (w : World) (hr : Rb w B A n c l) (hB : B ≤ w.heap.size) (hn : n ≤ 1000000) (htk : Vm.tk l = (a, s, 0)) (h2 : a % 2 = 0) (hk : a / 2 + 1 ≤ n - s) :
    Calls Try.prog 93 #[.slice A n c] w fun e w' => ∃ E F, e = .returned (.tuple #[tokV false (a / 2 + 1) (.slice E (a / 2 + 1) (c - s)) 0, .slice F (n - s - (a / 2 + 1)) (c - s - (a / 2 + 1)), .int .i64 0]) ∧ Rb w' B E (a / 2 + 1) (c - s) ((l.drop s).take (a / 2 + 1)) ∧ Rb w' B F (n - s - (a / 2 + 1)) (c - s - (a / 2 + 1)) ((l.drop s).drop (a / 2 + 1)) ∧ Below w.heap.size w w' := by
  have Hr := Lib.hid hr; have Htk := Lib.hid htk; clear hr htk
  have Hk := Lib.hid hk; clear hk
  have h2' : (((a : Int) % 2) == 0) = true := by simp; omega
  have H2 := Lib.hid h2; clear h2
  obtain ⟨k, hk⟩ : ∃ k, k = a / 2 + 1 := ⟨_, rfl⟩
  have hkz : (a : Int) / 2 + 1 = (k : Int) := by omega
  rw [← hk] at Hk ⊢
  have hkn : k ≤ 1000000 := by have := Hk.out; omega
  have ha : a ≤ 2000000 := by omega
  have HK := Lib.hid hk; have Hkz := Lib.hid hkz; clear hk hkz
  go_enter Try.func93, Try.ntmps93
  go_wp2_with fail
  refine (takeNumber_ok A n c B l a s _ (Hr.out.alloc hB _) (by simp; omega) hn Htk.out).mono ?_
  rintro e w1 ⟨D, rfl, hrD, hb1⟩
  obtain ⟨hbx, hbb, hs1⟩ := tokbox _ _ _ _ _ _ _ hb1
  have Hbx := Lib.hid hbx; clear hb1 hbx
  have hc := takeLiteral_ok D (n - s) (c - s) B (l.drop s) k w1 hrD (by omega) (by omega) Hk.out
  rw [← Hkz.out] at hc
  have Hc := Lib.hid hc; clear hc hrD
  go_wp2_with fail
  refine Hc.out.mono ?_
  rintro e w2 ⟨E, F, rfl, hE, hF, hb2⟩
  have HE := Lib.hid hE; have HF := Lib.hid hF; clear hE hF
  obtain ⟨c0, c1, c2, c3, f0, f1, f2, f3, hlt⟩ := Hbx.out.below hb2 hs1
  unfold tokV
  go_wp2
  refine bodyPost_ret (v := .tuple #[tokV false k (.slice E k (c - s)) 0, .slice F (n - s - k) (c - s - k), .int .i64 0]) ?_ rfl ⟨E, F, rfl, ?_, ?_, ?_⟩
  · simp [results, Try.results93, go_sem, tokV, c0, c1, c2, c3]
  · exact (((HE.out.setCell hB _).setCell hB _).setCell hB _).setCell hB _
  · exact (((HF.out.setCell hB _).setCell hB _).setCell hB _).setCell hB _
  · exact ((((hbb.trans (hb2.mono (by omega))).setCell (by simp) _).setCell (by simp) _).setCell (by simp) _).setCell (by simp) _

set_option maxRecDepth 100000 in
/-- press.takeToken: no distance is there -/
theorem takeToken_err2 (A : Option Addr) (n c B : Nat) (l : List UInt8) (a s x : Nat) (w : World) (hr : Rb w B A n c l) (hB : B ≤ w.heap.size) (hn : n ≤ 1000000) (htk : Vm.tk l = (a, s, 0)) (h2 : a % 2 = 1) (htk2 : Vm.tk (l.drop s) = (0, 0, x)) (hx : x = 2 ∨ x = 3) :
    Calls Try.prog 93 #[.slice A n c] w fun e w' => e = .returned (.tuple #[tokV false 0 (.slice none 0 0) 0, .slice none 0 0, .int .i64 (x : Int)]) ∧ Below w.heap.size w w' := by
  have hx0 : ((x : Int) == 0) = false := by simp; omega
  have Hr := Lib.hid hr; have Htk := Lib.hid htk; have Htk2 := Lib.hid htk2; have Hx := Lib.hid hx; clear hr htk htk2 hx
  have h2' : (((a : Int) % 2) == 0) = false := by simp; omega
  have H2 := Lib.hid h2; clear h2
  go_enter Try.func93, Try.ntmps93
  go_wp2_with fail
  refine (takeNumber_ok A n c B l a s _ (Hr.out.alloc hB _) (by simp; omega) hn Htk.out).mono ?_
  rintro e w1 ⟨D, rfl, hrD, hb1⟩
  obtain ⟨hbx, hbb, hs1⟩ := tokbox _ _ _ _ _ _ _ hb1
  have Hbx := Lib.hid hbx; have HrD := Lib.hid hrD; clear hb1 hrD hbx
  go_wp2_with fail
  refine (takeNumber_err D (n - s) (c - s) B (l.drop s) x _ HrD.out (by omega) (by omega) Htk2.out Hx.out).mono ?_
  rintro e w2 ⟨rfl, hb2⟩
  obtain ⟨c0, c1, c2, c3, f0, f1, f2, f3, hlt⟩ := Hbx.out.below hb2 hs1
  go_wp2
  refine bodyPost_ret (v := .tuple #[tokV false 0 (.slice none 0 0) 0, .slice none 0 0, .int .i64 (x : Int)]) ?_ rfl ⟨rfl, ?_⟩
  · simp [results, Try.results93, go_sem, tokV, c0, c1, c2, c3]
  · exact ((((hbb.trans (hb2.mono (by omega))).setCell (by simp) _).setCell (by simp) _).setCell (by simp) _).setCell (by simp) _

set_option maxRecDepth 100000 in
/-- press.takeToken: a match token -/
theorem takeToken_mat (A : Option Addr) (n c B : Nat) (l : List UInt8) (a s d s2 : Nat) (w : World) (hr : Rb w B A n c l) (hB : B ≤ w.heap.size) (hn : n ≤ 1000000) (htk : Vm.tk l = (a, s, 0)) (ha : a < 18446744073709551616) (h2 : a % 2 = 1) (htk2 : Vm.tk (l.drop s) = (d, s2, 0)) :
    Calls Try.prog 93 #[.slice A n c] w fun e w' => ∃ F, e = .returned (.tuple #[tokV true (a / 2 + 4) (.slice none 0 0) d, .slice F (n - s - s2) (c - s - s2), .int .i64 0]) ∧ Rb w' B F (n - s - s2) (c - s - s2) ((l.drop s).drop s2) ∧ Below w.heap.size w w' := by
  have Hr := Lib.hid hr; have Htk := Lib.hid htk; have Htk2 := Lib.hid htk2; clear hr htk htk2
  have h2' : (((a : Int) % 2) == 0) = false := by simp; omega
  have H2 := Lib.hid h2; clear h2
  go_enter Try.func93, Try.ntmps93
  go_wp2_with fail
  refine (takeNumber_ok A n c B l a s _ (Hr.out.alloc hB _) (by simp; omega) hn Htk.out).mono ?_
  rintro e w1 ⟨D, rfl, hrD, hb1⟩
  obtain ⟨hbx, hbb, hs1⟩ := tokbox _ _ _ _ _ _ _ hb1
  have Hbx := Lib.hid hbx; have HrD := Lib.hid hrD; clear hb1 hrD hbx
  go_wp2_with fail
  refine (takeNumber_ok D (n - s) (c - s) B (l.drop s) d s2 _ HrD.out (by omega) (by omega) Htk2.out).mono ?_
  rintro e w2 ⟨F, rfl, hrF, hb2⟩
  have HF := Lib.hid hrF; clear hrF
  obtain ⟨c0, c1, c2, c3, f0, f1, f2, f3, hlt⟩ := Hbx.out.below hb2 hs1
  go_wp2
  refine bodyPost_ret (v := .tuple #[tokV true (a / 2 + 4) (.slice none 0 0) d, .slice F (n - s - s2) (c - s - s2), .int .i64 0]) ?_ rfl ⟨F, rfl, ?_, ?_⟩
  · simp [results, Try.results93, go_sem, tokV, c0, c1, c2, c3]
  · exact (((HF.out.setCell hB _).setCell hB _).setCell hB _).setCell hB _
  · exact ((((hbb.trans (hb2.mono (by omega))).setCell (by simp) _).setCell (by simp) _).setCell (by simp) _).setCell (by simp) _

end Go.Proofs.Ytplkjljhpmldfaa

/-
  press.reaches, survey.count; how the document's expansion goes token by token.
-/
namespace Go.Proofs.Ytplkjljhpmldfaa
open Go.RowKit

section
variable {n : Nat} {out r : List UInt8} {p k : Nat}
theorem ne_of_tk {a s : Nat} (h : Vm.tk r = (a, s, 0)) : r ≠ [] := by rintro rfl; simp [Vm.tk, Vm.dn_nil] at h
theorem eg_nil_few (h : out.length < n) : Pm.expGo n out [] p k = ([], 0, 0, 3) := by rw [Pm.expGo, dif_pos rfl, if_pos h]
theorem eg_nil (h : ¬ out.length < n) : Pm.expGo n out [] p k = (out, p, k, 0) := by rw [Pm.expGo, dif_pos rfl, if_neg h]
theorem eg_err1 {x : Nat} (hne : r ≠ []) (h : Vm.tk r = (0, 0, x)) (hx : x = 2 ∨ x = 3) : Pm.expGo n out r p k = ([], 0, 0, x) := by
  rw [Pm.expGo, dif_neg hne, h, dif_neg (by dsimp only; omega)]
theorem eg_short {a s : Nat} (h : Vm.tk r = (a, s, 0)) (h2 : a % 2 = 0) (hk : (r.drop s).length < a / 2 + 1) : Pm.expGo n out r p k = ([], 0, 0, 2) := by
  rw [Pm.expGo, dif_neg (ne_of_tk h), h, dif_pos rfl]; dsimp only; rw [if_pos h2, if_pos hk]
theorem eg_over {a s : Nat} (h : Vm.tk r = (a, s, 0)) (h2 : a % 2 = 0) (hk : ¬ (r.drop s).length < a / 2 + 1) (ho : n < out.length + (a / 2 + 1)) : Pm.expGo n out r p k = ([], 0, 0, 3) := by
  rw [Pm.expGo, dif_neg (ne_of_tk h), h, dif_pos rfl]; dsimp only; rw [if_pos h2, if_neg hk, if_pos ho]
theorem eg_lit {a s : Nat} (h : Vm.tk r = (a, s, 0)) (h2 : a % 2 = 0) (hk : ¬ (r.drop s).length < a / 2 + 1) (ho : ¬ n < out.length + (a / 2 + 1)) : Pm.expGo n out r p k = Pm.expGo n (out ++ (r.drop s).take (a / 2 + 1)) ((r.drop s).drop (a / 2 + 1)) (p + 1) k := by
  rw [Pm.expGo, dif_neg (ne_of_tk h), h, dif_pos rfl]; dsimp only; rw [if_pos h2, if_neg hk, if_neg ho]
theorem eg_err2 {a s x : Nat} (h : Vm.tk r = (a, s, 0)) (h2 : a % 2 = 1) (h3 : Vm.tk (r.drop s) = (0, 0, x)) (hx : x = 2 ∨ x = 3) : Pm.expGo n out r p k = ([], 0, 0, x) := by
  rw [Pm.expGo, dif_neg (ne_of_tk h), h, dif_pos rfl]; dsimp only; rw [if_neg (by omega), h3, if_neg (by dsimp only; omega)]
theorem eg_bad {a s d s2 : Nat} (h : Vm.tk r = (a, s, 0)) (h2 : a % 2 = 1) (h3 : Vm.tk (r.drop s) = (d, s2, 0)) (hb : d = 0 ∨ 4096 < d ∨ out.length < d ∨ n - out.length < a / 2 + 4) : Pm.expGo n out r p k = ([], 0, 0, 3) := by
  rw [Pm.expGo, dif_neg (ne_of_tk h), h, dif_pos rfl]; dsimp only; rw [if_neg (by omega), h3, if_pos rfl]; dsimp only; rw [if_pos hb]
theorem eg_mat {a s d s2 : Nat} (h : Vm.tk r = (a, s, 0)) (h2 : a % 2 = 1) (h3 : Vm.tk (r.drop s) = (d, s2, 0)) (hb : ¬ (d = 0 ∨ 4096 < d ∨ out.length < d ∨ n - out.length < a / 2 + 4)) : Pm.expGo n out r p k = Pm.expGo n (Pm.copyN (a / 2 + 4) d out) ((r.drop s).drop s2) p (k + 1) := by
  rw [Pm.expGo, dif_neg (ne_of_tk h), h, dif_pos rfl]; dsimp only; rw [if_neg (by omega), h3, if_pos rfl]; dsimp only; rw [if_neg hb]
end
theorem copyN_len : ∀ (k d : Nat) (o : List UInt8), (Pm.copyN k d o).length = o.length + k
  | 0, _, _ => rfl
  | k + 1, d, o => by rw [Pm.copyN, copyN_len k d]; simp; omega

set_option maxRecDepth 100000 in
/-- press.reaches -/
theorem reaches_c (d o : Nat) (w : World) :
    Calls Try.prog 94 #[.int .u64 (d : Int), .int .u64 (o : Int)] w fun e w' => e = .returned (.bool (decide (0 < d ∧ d ≤ 4096 ∧ d ≤ o))) ∧ w = w' := by
  by_cases h1 : 0 < d
  · by_cases h2 : d ≤ 4096
    · by_cases h3 : d ≤ o
      · rw [decide_eq_true (p := 0 < d ∧ d ≤ 4096 ∧ d ≤ o) ⟨h1, h2, h3⟩]
        go_enter Try.func94, Try.ntmps94
        go_wp2
        go_ret
        exact ⟨rfl, rfl⟩
      · rw [decide_eq_false (p := 0 < d ∧ d ≤ 4096 ∧ d ≤ o) (fun q => h3 q.2.2)]
        go_enter Try.func94, Try.ntmps94
        go_wp2
        go_ret
        exact ⟨rfl, rfl⟩
    · rw [decide_eq_false (p := 0 < d ∧ d ≤ 4096 ∧ d ≤ o) (fun q => h2 q.2.1)]
      go_enter Try.func94, Try.ntmps94
      go_wp2
      go_ret
      exact ⟨rfl, rfl⟩
  · rw [decide_eq_false (p := 0 < d ∧ d ≤ 4096 ∧ d ≤ o) (fun q => h1 q.1)]
    go_enter Try.func94, Try.ntmps94
    go_wp2
    go_ret
    exact ⟨rfl, rfl⟩

theorem Box4.grown {w w' : World} {g g' : Nat} {v0 v1 v2 v3 : Value} (h : Box4 w g v0 v1 v2 v3) (hg : w.grownBy w' (some g')) (hne : g ≠ g') : Box4 w' g v0 v1 v2 v3 := by
  have hb : w'.heap[g]? = w.heap[g]? := hg.block g h.lt (fun e => hne (Option.some.inj e))
  have c : ∀ i, w'.cell? ⟨g, i, none⟩ = w.cell? ⟨g, i, none⟩ := fun i => World.cell?_of_block hb
  have f : ∀ i, w'.frozen? ⟨g, i, none⟩ = w.frozen? ⟨g, i, none⟩ := fun i => World.frozen?_of_block hb
  exact ⟨(c 0).trans h.c0, (c 1).trans h.c1, (c 2).trans h.c2, (c 3).trans h.c3, (f 0).trans h.f0, (f 1).trans h.f1, (f 2).trans h.f2, (f 3).trans h.f3, Nat.lt_of_lt_of_le h.lt hg.size⟩
theorem grown_setCell (w : World) (g i : Nat) (v : Value) : w.grownBy (w.setCell ⟨g, i, none⟩ v) (some g) :=
  ⟨rfl, rfl, rfl, by simp, fun k _ hne => by simp only [World.setCell]; rw [Array.getElem?_modify, if_neg (fun e => hne (by rw [← e]))]⟩
theorem grown_put4 (w : World) (g : Nat) (v0 v1 v2 v3 : Value) : w.grownBy (put4 w g v0 v1 v2 v3) (some g) :=
  (((grown_setCell w g 0 v0).trans (grown_setCell _ g 1 v1)).trans (grown_setCell _ g 2 v2)).trans (grown_setCell _ g 3 v3)

theorem Box4.set2 {w : World} {g : Nat} {u0 u1 u2 u3 : Value} (h : Box4 w g u0 u1 u2 u3) (v : Value) : Box4 (w.setCell ⟨g, 2, none⟩ v) g u0 u1 v u3 := by
  obtain ⟨c0, c1, c2, c3, f0, f1, f2, f3, hlt⟩ := h
  have o : ∀ j : Nat, 2 ≠ j → (w.setCell ⟨g, 2, none⟩ v).cell? ⟨g, j, none⟩ = w.cell? ⟨g, j, none⟩ := fun j hj => World.cell?_setCell_other w _ _ _ (by simp)
  exact ⟨(o 0 (by omega)).trans c0, (o 1 (by omega)).trans c1, World.cell?_setCell_same w _ _ c2, (o 3 (by omega)).trans c3, by simp only [World.frozen?_setCell]; exact f0, by simp only [World.frozen?_setCell]; exact f1, by simp only [World.frozen?_setCell]; exact f2, by simp only [World.frozen?_setCell]; exact f3, by simpa using hlt⟩
theorem Box4.set3 {w : World} {g : Nat} {u0 u1 u2 u3 : Value} (h : Box4 w g u0 u1 u2 u3) (v : Value) : Box4 (w.setCell ⟨g, 3, none⟩ v) g u0 u1 u2 v := by
  obtain ⟨c0, c1, c2, c3, f0, f1, f2, f3, hlt⟩ := h
  have o : ∀ j : Nat, 3 ≠ j → (w.setCell ⟨g, 3, none⟩ v).cell? ⟨g, j, none⟩ = w.cell? ⟨g, j, none⟩ := fun j hj => World.cell?_setCell_other w _ _ _ (by simp)
  exact ⟨(o 0 (by omega)).trans c0, (o 1 (by omega)).trans c1, (o 2 (by omega)).trans c2, World.cell?_setCell_same w _ _ c3, by simp only [World.frozen?_setCell]; exact f0, by simp only [World.frozen?_setCell]; exact f1, by simp only [World.frozen?_setCell]; exact f2, by simp only [World.frozen?_setCell]; exact f3, by simpa using hlt⟩

set_option maxRecDepth 100000 in
/-- survey.count: a literal token -/
theorem count_lit (g : Nat) (S tv : Value) (p k : Nat) (kk : Nat) (sl : Value) (d : Nat) (w : World) (hb : Box4 w g S tv (.int .i64 (p : Int)) (.int .i64 (k : Int))) (hp : p ≤ 1000000) :
    Calls Try.prog 95 #[.pointer (some ⟨g, 0, none⟩), tokV false kk sl d] w fun e w' => e = .returned (.tuple #[]) ∧ Box4 w' g S tv (.int .i64 ((p + 1 : Nat) : Int)) (.int .i64 (k : Int)) ∧ w.grownBy w' (some g) := by
  have Hb := Lib.hid hb
  obtain ⟨c0, c1, c2, c3, f0, f1, f2, f3, hlt⟩ := hb
  have hne : g ≠ w.heap.size := by omega
  unfold tokV
  go_enter Try.func95, Try.ntmps95
  go_wp2
  go_end0
  exact ⟨rfl, (Hb.out.set2 _).alloc _, (grown_setCell w g 2 _).trans (World.grownBy_alloc _ _ _)⟩

set_option maxRecDepth 100000 in
/-- survey.count: a match token -/
theorem count_mat (g : Nat) (S tv : Value) (p k : Nat) (kk : Nat) (sl : Value) (d : Nat) (w : World) (hb : Box4 w g S tv (.int .i64 (p : Int)) (.int .i64 (k : Int))) (hk : k ≤ 1000000) :
    Calls Try.prog 95 #[.pointer (some ⟨g, 0, none⟩), tokV true kk sl d] w fun e w' => e = .returned (.tuple #[]) ∧ Box4 w' g S tv (.int .i64 (p : Int)) (.int .i64 ((k + 1 : Nat) : Int)) ∧ w.grownBy w' (some g) := by
  have Hb := Lib.hid hb
  obtain ⟨c0, c1, c2, c3, f0, f1, f2, f3, hlt⟩ := hb
  have hne : g ≠ w.heap.size := by omega
  unfold tokV
  go_enter Try.func95, Try.ntmps95
  go_wp2
  go_end0
  exact ⟨rfl, (Hb.out.set3 _).alloc _, (grown_setCell w g 3 _).trans (World.grownBy_alloc _ _ _)⟩
end Go.Proofs.Ytplkjljhpmldfaa
