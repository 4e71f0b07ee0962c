/-
  Joined: As N0 Bn.
-/
import Derived.Test.YtknmhdkomjjneaaGreatDoorJ1
import Derived.Test.YtknmhdkomjjneaaGreatDoorJ3
/-
  The places of the pieces of a file rise, whatever its format. Plain mathematics.
-/

namespace Go.Proofs.YtknmhdkomjjneaaGreatDoor

/-- Numbers that rise, from lo on, below hi. -/
def Asc : Nat → Nat → List Nat → Prop
  | _, _, [] => True
  | lo, hi, a :: t => lo ≤ a ∧ a < hi ∧ Asc (a + 1) hi t
theorem Asc.low {hi : Nat} : ∀ {l : List Nat} {lo lo' : Nat}, Asc lo hi l → lo' ≤ lo → Asc lo' hi l
  | [], _, _, _, _ => trivial
  | _ :: _, _, _, h, hl => ⟨Nat.le_trans hl h.1, h.2.1, h.2.2⟩
theorem Asc.high {hi hi' : Nat} : ∀ {l : List Nat} {lo : Nat}, Asc lo hi l → hi ≤ hi' → Asc lo hi' l
  | [], _, _, _ => trivial
  | _ :: _, _, h, hl => ⟨h.1, Nat.lt_of_lt_of_le h.2.1 hl, h.2.2.high hl⟩
theorem Asc.mem {hi : Nat} : ∀ {l : List Nat} {lo : Nat}, Asc lo hi l → ∀ a ∈ l, lo ≤ a ∧ a < hi
  | [], _, _, a, h => by cases h
  | x :: l, lo, h, a, ha => by
    rcases List.mem_cons.1 ha with rfl | ha
    · exact ⟨h.1, h.2.1⟩
    · have := h.2.2.mem a ha
      have := h.1
      omega
theorem Asc.get {hi : Nat} : ∀ {l : List Nat} {lo : Nat}, Asc lo hi l → ∀ (i j a b : Nat), i < j → l[i]? = some a → l[j]? = some b → a < b
  | [], _, _, i, j, a, b, _, h, _ => by simp at h
  | x :: l, lo, h, i, j, a, b, hij, ha, hb => by
    obtain ⟨j, rfl⟩ : ∃ k, j = k + 1 := ⟨j - 1, by omega⟩
    cases i with
    | zero =>
      simp at ha hb
      subst ha
      exact (h.2.2.mem b (List.mem_of_getElem? hb)).1
    | succ i => exact h.2.2.get i j a b (by omega) (by simpa using ha) (by simpa using hb)

end Go.Proofs.YtknmhdkomjjneaaGreatDoor

/-
  Cuts, aligned cuts, cuts of one size, what is within quotes. Plain mathematics.
-/

namespace Go.Proofs.YtknmhdkomjjneaaGreatDoor.Pl

/-- The first of the places from a on, or n. -/
def nx (S : List Nat) (n a : Nat) : Nat := match S.find? (fun s => decide (a ≤ s)) with | some s => s | none => n
/-- Numbers that rise strictly, from 0 to n. -/
def Cu (n : Nat) (C : List Nat) : Prop := ∃ D, C = 0 :: D ∧ Asc 1 (n + 1) D ∧ (D = [] → n = 0) ∧ ∀ x, D.getLast? = some x → x = n
theorem asc_append {hi : Nat} : ∀ {l : List Nat} {lo a : Nat}, Asc lo hi l → (∀ x ∈ l, x < a) → lo ≤ a → a < hi → Asc lo hi (l ++ [a])
  | [], _, _, _, _, h1, h2 => ⟨h1, h2, trivial⟩
  | x :: _, _, _, h, h0, _, h2 => ⟨h.1, h.2.1, asc_append h.2.2 (fun y hy => h0 y (List.mem_cons_of_mem _ hy)) (h0 x (List.mem_cons_self ..)) h2⟩
/-- As slices.Compact does: of neighbours that are alike one stays. -/
def cpt : List Nat → List Nat
  | [] => []
  | [a] => [a]
  | a :: b :: t => if a = b then cpt (b :: t) else a :: cpt (b :: t)
/-- Aligned cuts, as the code has them. -/
def al (S : List Nat) (n : Nat) (C : List Nat) : List Nat := cpt (0 :: C.tail.map (nx S n))
theorem last_snoc' (n : Nat) (X : List Nat) : (X ++ [n]).getLast? = some n := by
  rw [List.getLast?_append]; rfl
/-- The multiples of s, from the a-th on, k of them. -/
def mul (s a : Nat) : Nat → List Nat
  | 0 => []
  | k + 1 => a * s :: mul s (a + 1) k
theorem mul_snoc (s : Nat) : ∀ (k a : Nat), mul s a (k + 1) = mul s a k ++ [(a + k) * s]
  | 0, a => rfl
  | k + 1, a => by
    rw [mul, mul_snoc s k (a + 1), mul]
    rw [show a + 1 + k = a + (k + 1) by omega]
    rfl
theorem mul_len (s : Nat) : ∀ (k a : Nat), (mul s a k).length = k
  | 0, _ => rfl
  | k + 1, a => by rw [mul, List.length_cons, mul_len s k]
theorem mul_asc {s : Nat} (hs : 1 ≤ s) {hi : Nat} : ∀ (k a : Nat), (k = 0 ∨ (a + k - 1) * s < hi) → Asc (a * s) hi (mul s a k)
  | 0, _, _ => trivial
  | k + 1, a, h => by
    have h1 : (a + (k + 1) - 1) * s < hi := by
      rcases h with h | h
      · omega
      · exact h
    rw [show a + (k + 1) - 1 = a + k by omega] at h1
    have h2 : a * s ≤ (a + k) * s := Nat.mul_le_mul_right s (by omega)
    have h3 : (a + 1) * s = a * s + s := by rw [Nat.add_mul, Nat.one_mul]
    refine ⟨Nat.le_refl _, by omega, (mul_asc hs k (a + 1) ?_).low (by omega)⟩
    rcases Nat.eq_zero_or_pos k with e | e
    · exact .inl e
    · right
      rw [show a + 1 + k - 1 = a + k by omega]
      exact h1
/-- Cuts of one size. -/
def sz (n s : Nat) : List Nat := mul s 0 ((n - 1) / s + 1) ++ (if 0 < n then [n] else [])
theorem sz_at {n s j : Nat} (hs : 1 ≤ s) (h1 : n ≤ (j + 1) * s) (h2 : j = 0 ∨ j * s < n) : mul s 0 (j + 1) ++ (if 0 < n then [n] else []) = sz n s := by
  have e : (n - 1) / s = j := by
    apply Nat.div_eq_of_lt_le
    · rcases h2 with h2 | h2
      · subst h2; omega
      · omega
    · have : 0 < (j + 1) * s := Nat.mul_pos (by omega) (by omega)
      omega
  rw [sz, e]
theorem sz_cu {n s : Nat} (hs : 1 ≤ s) : Cu n (sz n s) := by
  obtain ⟨j, hj⟩ : ∃ j, j = (n - 1) / s := ⟨_, rfl⟩
  have hm : j * s ≤ n - 1 := by rw [hj]; exact Nat.div_mul_le_self _ _
  rw [sz, ← hj, mul, Nat.zero_mul]
  by_cases hn : 0 < n
  · rw [if_pos hn]
    have ha := mul_asc hs (hi := n) j (0 + 1) (by
      rcases Nat.eq_zero_or_pos j with e | e
      · exact .inl e
      · right; rw [show 0 + 1 + j - 1 = j by omega]; omega)
    have ha2 := (ha.low (lo' := 1) (by omega)).high (show n ≤ n + 1 by omega)
    refine ⟨mul s (0 + 1) j ++ [n], rfl, asc_append ha2 (fun x hx => (ha.mem x hx).2) (by omega) (by omega), fun e => by simp at e, fun x hx => ?_⟩
    rw [last_snoc'] at hx
    injection hx with hx
    exact hx.symm
  · rw [if_neg hn]
    have h0 : n = 0 := by omega
    subst h0
    have hj0 : j = 0 := by rw [hj]; simp
    subst hj0
    exact ⟨[], rfl, trivial, fun _ => rfl, fun x hx => by simp at hx⟩
theorem odd_app (x y : List UInt8) : Csv.Cv.odd (x ++ y) = (Csv.Cv.odd x != Csv.Cv.odd y) := by
  unfold Csv.Cv.odd
  rw [List.count_append]
  rcases Nat.mod_two_eq_zero_or_one (x.count 34) with h | h <;> rcases Nat.mod_two_eq_zero_or_one (y.count 34) with k | k <;> rw [Nat.add_mod, h, k] <;> rfl
theorem odd_next (b : List UInt8) (c d : Nat) (h : c ≤ d) : Csv.Cv.odd (b.take d) = (Csv.Cv.odd (b.take c) != Csv.Cv.odd ((b.drop c).take (d - c))) := by
  rw [← odd_app]
  congr 1
  rw [← List.take_add, Nat.add_sub_cancel' h]

/-- As the program has them. -/
def ic (C : List Nat) : List Int := C.map fun c : Nat => (c : Int)
theorem ic_len (C : List Nat) : (ic C).length = C.length := by simp [ic]
theorem ic_inv {C : List Nat} {i : Nat} {x : Int} (h : (ic C)[i]? = some x) : ∃ c : Nat, C[i]? = some c ∧ x = (c : Int) := by
  unfold ic at h
  rw [List.getElem?_map] at h
  obtain ⟨a, ha, rfl⟩ := Option.map_eq_some_iff.1 h
  exact ⟨a, ha, rfl⟩
/-- Are the numbers cuts? -/
def IsC (n : Nat) (L : List Int) : Prop := L[0]? = some 0 ∧ L.getLast? = some (n : Int) ∧ ∀ (i : Nat) (a b : Int), L[i]? = some a → L[i + 1]? = some b → a < b
theorem cu_isC {n : Nat} {C : List Nat} (h : Cu n C) : IsC n (ic C) := by
  obtain ⟨D, rfl, hA, h0, hl⟩ := h
  refine ⟨rfl, ?_, fun i a b ha hb => ?_⟩
  · rw [ic, List.getLast?_map]
    rcases D with _ | ⟨z, D⟩
    · rw [h0 rfl]; rfl
    · rw [List.getLast?_cons_cons]
      rcases e : (z :: D).getLast? with _ | y
      · simp at e
      · rw [hl y e]; rfl
  · obtain ⟨a', ha', rfl⟩ := ic_inv ha
    obtain ⟨b', hb', rfl⟩ := ic_inv hb
    have hA' : Asc 0 (n + 1) (0 :: D) := ⟨Nat.le_refl _, by omega, hA⟩
    have := hA'.get i (i + 1) a' b' (by omega) ha' hb'
    omega
theorem cu_get {n : Nat} {C : List Nat} (h : Cu n C) : Asc 0 (n + 1) C := by
  obtain ⟨D, rfl, hA, h0, hl⟩ := h
  exact ⟨Nat.le_refl _, by omega, hA⟩
theorem cu_pos {n : Nat} {C : List Nat} (h : Cu n C) : 1 ≤ C.length ∧ C[0]? = some 0 := by
  obtain ⟨D, rfl, hA, h0, hl⟩ := h
  exact ⟨by simp, rfl⟩
end Go.Proofs.YtknmhdkomjjneaaGreatDoor.Pl

/-
  Bundles: what is written, read back; what is read, written again.
-/

namespace Go.Proofs.YtknmhdkomjjneaaGreatDoor.Bun.Bm
open Go.Op

abbrev Rec := List (List UInt8)
def okr (B : List UInt8) : Rec → Bool
  | [a, b] => bytesLess B a && decide (a.length ≤ 100) && decide (b.length ≤ 1000)
  | _ => false
def nm : Rec → List UInt8
  | a :: _ => a
  | [] => []
def mayB : List UInt8 → List Rec → Bool
  | _, [] => true
  | B, r :: t => okr B r && mayB (nm r) t
def ew : Rec → List UInt8
  | [a, b] => Vm.vb a.length ++ (a ++ Vm.vb b.length)
  | _ => []
def bw : Rec → List UInt8
  | [_, b] => sl b
  | _ => []
def ents (l : List Rec) : List UInt8 := Vm.vb l.length ++ (l.map ew).flatten
def body (l : List Rec) : List UInt8 := (l.map bw).flatten
def wr (l : List Rec) : List UInt8 := (Vm.vb (sl (ents l)).length ++ sl (ents l)) ++ body l
/-- The loop's word. -/
def MB (l : List Rec) (k : Nat) (B : List UInt8) : Prop := mayB [] l = mayB B (l.drop k)
theorem MB.start (l : List Rec) : MB l 0 [] := rfl
theorem MB.step {l : List Rec} {k : Nat} {B : List UInt8} {r : Rec} (h : MB l k B) (hr : l[k]? = some r) (ho : okr B r = true) : MB l (k + 1) (nm r) := by
  obtain ⟨hk, rfl⟩ := List.getElem?_eq_some_iff.1 hr
  unfold MB at h ⊢
  rw [h, List.drop_eq_getElem_cons hk, mayB, ho, Bool.true_and]
theorem MB.bad {l : List Rec} {k : Nat} {B : List UInt8} {r : Rec} (h : MB l k B) (hr : l[k]? = some r) (ho : okr B r = false) : mayB [] l = false := by
  obtain ⟨hk, rfl⟩ := List.getElem?_eq_some_iff.1 hr
  unfold MB at h
  rw [h, List.drop_eq_getElem_cons hk, mayB, ho, Bool.false_and]
theorem MB.end_ {l : List Rec} {k : Nat} {B : List UInt8} (h : MB l k B) (hk : l.length ≤ k) : mayB [] l = true := by
  unfold MB at h
  rw [h, List.drop_eq_nil_iff.2 hk]
  rfl
end Go.Proofs.YtknmhdkomjjneaaGreatDoor.Bun.Bm
