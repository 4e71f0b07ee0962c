/-
  Texts cut into fields by widths, fields as a text. Plain mathematics.
-/
import Derived.Test.YtjdmpnonjlffaaaFx
namespace Go.Proofs.Ytjdmpnonjlffaaa.Fx
open Go.Proofs.Ytjdmpnonjlffaaa

/-- May these widths be? -/
def wok (ws : List Int) : Bool := decide (1 ≤ ws.length) && decide (ws.length ≤ 50) && ws.all fun w => decide (0 ≤ w) && decide (w ≤ 1000)
/-- The sum of the first ones. -/
def pre (ws : List Int) : Nat → Nat
  | 0 => 0
  | i + 1 => pre ws i + (ws[i]?.getD 0).toNat
theorem pre_next {ws : List Int} {i : Nat} {w : Int} (h : ws[i]? = some w) : pre ws (i + 1) = pre ws i + w.toNat := by rw [pre, h]; rfl
theorem wok_len {ws : List Int} (h : wok ws = true) : 1 ≤ ws.length ∧ ws.length ≤ 50 := by
  unfold wok at h
  simp only [Bool.and_eq_true, decide_eq_true_eq] at h
  exact h.1
theorem wok_at {ws : List Int} (h : wok ws = true) {i : Nat} {w : Int} (hi : ws[i]? = some w) : 0 ≤ w ∧ w ≤ 1000 := by
  unfold wok at h
  simp only [Bool.and_eq_true, List.all_eq_true, decide_eq_true_eq] at h
  exact h.2 w (List.mem_of_getElem? hi)
theorem wok_no {ws : List Int} {i : Nat} {w : Int} (hi : ws[i]? = some w) (h : w < 0 ∨ 1000 < w) : wok ws = false := by
  cases e : wok ws with
  | false => rfl
  | true => have := wok_at e hi; omega
theorem wok_none {ws : List Int} (h : ws.length = 0 ∨ 50 < ws.length) : wok ws = false := by
  cases e : wok ws with
  | false => rfl
  | true => have := wok_len e; omega
theorem wok_yes {ws : List Int} (h1 : 1 ≤ ws.length) (h2 : ws.length ≤ 50) (h : ∀ w ∈ ws, 0 ≤ w ∧ w ≤ 1000) : wok ws = true := by
  unfold wok
  simp only [Bool.and_eq_true, List.all_eq_true, decide_eq_true_eq]
  exact ⟨⟨h1, h2⟩, h⟩
theorem pre_mono (ws : List Int) (i : Nat) : ∀ m, pre ws i ≤ pre ws (i + m)
  | 0 => Nat.le_refl _
  | m + 1 => by have := pre_mono ws i m; rw [← Nat.add_assoc, pre]; omega
theorem pre_le (ws : List Int) {i j : Nat} (h : i ≤ j) : pre ws i ≤ pre ws j := by
  obtain ⟨m, rfl⟩ := Nat.exists_eq_add_of_le h
  exact pre_mono ws i m
theorem pre_bound {ws : List Int} (h : wok ws = true) : ∀ i, i ≤ ws.length → pre ws i ≤ 1000 * i
  | 0, _ => Nat.le_refl _
  | i + 1, hi => by
    have ih := pre_bound h i (by omega)
    have hg : ws[i]? = some ws[i] := List.getElem?_eq_getElem (by omega)
    have := wok_at h hg
    rw [pre_next hg]
    omega
/-- The i-th field of s. -/
def fld (ws : List Int) (s : List UInt8) (i : Nat) : List UInt8 := (s.take (pre ws (i + 1))).drop (pre ws i)
def cl (ws : List Int) (s : List UInt8) (i : Nat) : List (List UInt8) := (List.range' 0 i).map (fld ws s)
theorem cl_len (ws : List Int) (s : List UInt8) (i : Nat) : (cl ws s i).length = i := by simp [cl]
theorem cl_next (ws : List Int) (s : List UInt8) (i : Nat) : cl ws s (i + 1) = cl ws s i ++ [fld ws s i] := by
  unfold cl
  rw [List.range'_1_concat, List.map_append]
  simp
theorem fld_eq (ws : List Int) (s : List UInt8) (i : Nat) {w : Int} (h : ws[i]? = some w) : fld ws s i = (s.drop (pre ws i)).take w.toNat := by
  unfold fld
  rw [pre_next h, List.drop_take, Nat.add_sub_cancel_left]
theorem fld_len (ws : List Int) (s : List UInt8) (i : Nat) (h : pre ws (i + 1) ≤ s.length) {w : Int} (hw : ws[i]? = some w) : (fld ws s i).length = w.toNat := by
  have := pre_next hw
  unfold fld
  rw [List.length_drop, List.length_take]; omega
theorem cl_flat (ws : List Int) (s : List UInt8) : ∀ i, (cl ws s i).flatten = s.take (pre ws i)
  | 0 => by simp [cl, pre]
  | i + 1 => by
    rw [cl_next, List.flatten_append, cl_flat ws s i]
    have h : (s.take (pre ws (i + 1))).take (pre ws i) = s.take (pre ws i) := by rw [List.take_take, Nat.min_eq_left (pre_le ws (by omega))]
    simp only [List.flatten_cons, List.flatten_nil, List.append_nil, fld]
    rw [← h, List.take_append_drop]
theorem cl_wid (ws : List Int) (s : List UInt8) (h0 : wok ws = true) : ∀ i, i ≤ ws.length → pre ws i ≤ s.length → (cl ws s i).map (fun f => (f.length : Int)) = ws.take i
  | 0, _, _ => by simp [cl]
  | i + 1, hi, hs => by
    have hg : ws[i]? = some ws[i] := List.getElem?_eq_getElem (by omega)
    have hp := pre_le ws (show i ≤ i + 1 by omega)
    have h1 := (wok_at h0 hg).1
    rw [cl_next, List.map_append, cl_wid ws s h0 i (by omega) (by omega), List.take_add_one, hg]
    simp only [List.map_cons, List.map_nil, Option.toList_some]
    rw [fld_len ws s i hs hg]
    congr 2
    omega
/-- What Cells comes to. -/
def ceS (ws : List Int) (s : List UInt8) : List (List UInt8) × Nat :=
  if wok ws = true then if s.length < pre ws ws.length then ([], 2) else if pre ws ws.length < s.length then ([], 5) else (cl ws s ws.length, 0) else ([], 1)
/-- What Whole comes to. -/
def whS (ws : List Int) (r : List (List UInt8)) : List UInt8 × Nat :=
  if wok ws = true then if r.map (fun f => (f.length : Int)) = ws then (r.flatten, 0) else ([], 10) else ([], 1)
theorem ceS_arg {ws : List Int} {s : List UInt8} (h : wok ws = false) : ceS ws s = ([], 1) := by unfold ceS; rw [if_neg (by simp [h])]
theorem ceS_short {ws : List Int} {s : List UInt8} (h : wok ws = true) (h2 : s.length < pre ws ws.length) : ceS ws s = ([], 2) := by unfold ceS; rw [if_pos h, if_pos h2]
theorem ceS_large {ws : List Int} {s : List UInt8} (h : wok ws = true) (h2 : pre ws ws.length < s.length) : ceS ws s = ([], 5) := by unfold ceS; rw [if_pos h, if_neg (by omega), if_pos h2]
theorem ceS_ok {ws : List Int} {s : List UInt8} (h : wok ws = true) (h2 : pre ws ws.length = s.length) : ceS ws s = (cl ws s ws.length, 0) := by unfold ceS; rw [if_pos h, if_neg (by omega), if_neg (by omega)]
theorem ceS_len (ws : List Int) (s : List UInt8) : (ceS ws s).1.length ≤ 50 := by
  unfold ceS
  split
  · rename_i h
    have := wok_len h
    split
    · simp
    · split
      · simp
      · simp only [cl_len]; omega
  · simp
theorem whS_arg {ws : List Int} {r : List (List UInt8)} (h : wok ws = false) : whS ws r = ([], 1) := by unfold whS; rw [if_neg (by simp [h])]
theorem whS_no {ws : List Int} {r : List (List UInt8)} (h : wok ws = true) (h2 : r.map (fun f => (f.length : Int)) ≠ ws) : whS ws r = ([], 10) := by unfold whS; rw [if_pos h, if_neg h2]
theorem whS_ok {ws : List Int} {r : List (List UInt8)} (h : wok ws = true) (h2 : r.map (fun f => (f.length : Int)) = ws) : whS ws r = (r.flatten, 0) := by unfold whS; rw [if_pos h, if_pos h2]
theorem wid_len {ws : List Int} {r : List (List UInt8)} (h : r.length ≠ ws.length) : r.map (fun f => (f.length : Int)) ≠ ws := fun e => h (by rw [← e, List.length_map])
theorem wid_at {ws : List Int} {r : List (List UInt8)} {i : Nat} {w : Int} {f : List UInt8} (hw : ws[i]? = some w) (hf : r[i]? = some f) (h : (f.length : Int) ≠ w) : r.map (fun f => (f.length : Int)) ≠ ws := fun e => h (by
  rw [← e, List.getElem?_map, hf] at hw
  injection hw)
theorem wid_next {ws : List Int} {r : List (List UInt8)} {i : Nat} {w : Int} {f : List UInt8} (hw : ws[i]? = some w) (hf : r[i]? = some f) (h : (f.length : Int) = w) (ih : (r.take i).map (fun f => (f.length : Int)) = ws.take i) : (r.take (i + 1)).map (fun f => (f.length : Int)) = ws.take (i + 1) := by
  rw [List.take_add_one, List.take_add_one, hw, hf, List.map_append, ih]
  simp [h]
/-- What is cut is whole again. -/
theorem back {ws : List Int} {s : List UInt8} (h : (ceS ws s).2 = 0) : whS ws (ceS ws s).1 = (s, 0) := by
  cases hw : wok ws with
  | false => rw [ceS_arg hw] at h; cases h
  | true =>
    rcases Nat.lt_trichotomy s.length (pre ws ws.length) with h1 | h1 | h1
    · rw [ceS_short hw h1] at h; cases h
    · have h2 := cl_wid ws s hw ws.length (Nat.le_refl _) (by omega)
      rw [List.take_length] at h2
      rw [ceS_ok hw h1.symm, whS_ok hw h2, cl_flat, ← h1, List.take_length]
    · rw [ceS_large hw h1] at h; cases h
theorem flat_take (r : List (List UInt8)) (i : Nat) (f : List UInt8) (h : r[i]? = some f) : (r.take (i + 1)).flatten = (r.take i).flatten ++ f := by
  rw [List.take_add_one, h]; simp
theorem flat_le (r : List (List UInt8)) (i : Nat) : (r.take i).flatten.length ≤ r.flatten.length := by
  have := congrArg List.length (congrArg List.flatten (List.take_append_drop i r))
  rw [List.flatten_append, List.length_append] at this
  omega
end Go.Proofs.Ytjdmpnonjlffaaa.Fx
