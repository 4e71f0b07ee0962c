import Derived.Test.YtkekmokdlgocaaaGreatDoorJW6
import Derived.Test.YtkekmokdlgocaaaGreatDoorJW5
set_option maxRecDepth 100000
set_option maxHeartbeats 4000000
namespace Go.Proofs.YtkekmokdlgocaaaGreatDoor
def Asc : Nat → Nat → List Nat → Prop
 | _, _, [] => True
 | lo, hi, a :: t => lo ≤ a ∧ a < hi ∧ Asc (a + 1) hi t
theorem Asc.low {hi : Nat} : ∀ {l : List Nat} {lo lo' : Nat}, Asc lo hi l → lo' ≤ lo → Asc lo' hi l
 | [], _, _, _, _ => trivial
 | _ :: _, _, _, h, hl => ⟨Nat.le_trans hl h.1, h.2.1, h.2.2⟩
theorem Asc.high {hi hi' : Nat} : ∀ {l : List Nat} {lo : Nat}, Asc lo hi l → hi ≤ hi' → Asc lo hi' l
 | [], _, _, _ => trivial
 | _ :: _, _, h, hl => ⟨h.1, Nat.lt_of_lt_of_le h.2.1 hl, h.2.2.high hl⟩
theorem Asc.mem {hi : Nat} : ∀ {l : List Nat} {lo : Nat}, Asc lo hi l → ∀ a ∈ l, lo ≤ a ∧ a < hi
 | [], _, _, a, h => by cases h
 | x :: l, lo, h, a, ha => by
  rcases List.mem_cons.1 ha with rfl | ha
  ·exact ⟨h.1, h.2.1⟩
  ·have := h.2.2.mem a ha
   have := h.1
   omega
theorem Asc.get {hi : Nat} : ∀ {l : List Nat} {lo : Nat}, Asc lo hi l → ∀ (i j a b : Nat), i < j → l[i]? = some a → l[j]? = some b → a < b
 | [], _, _, i, j, a, b, _, h, _ => by simp at h
 | x :: l, lo, h, i, j, a, b, hij, ha, hb => by
  obtain ⟨j, rfl⟩ : ∃ k, j = k + 1 := ⟨j - 1, by omega⟩
  cases i with
  | zero =>
   simp at ha hb
   subst ha
   exact (h.2.2.mem b (List.mem_of_getElem? hb)).1
  | succ i => exact h.2.2.get i j a b (by omega) (by simpa using ha) (by simpa using hb)
theorem txt_asc : ∀ (r : List UInt8) (f : Nat) (cur : List UInt8), Asc f (f + cur.length + r.length) ((Tm.lns f cur r).map (·.1))
 | [], f, cur => by
  rw [Tm.lns_end]
  split
  ·trivial
  ·rename_i h
   have h1 : 0 < cur.length := by
    cases cur with
    | nil => simp at h
    | cons x c => simp
   exact ⟨Nat.le_refl _, by dsimp only; simp only [List.length_nil]; omega, trivial⟩
 | x :: r, f, cur => by
  by_cases hx : x = 10
  ·subst hx
   rw [Tm.lns_ten]
   have ih := txt_asc r (f + cur.length + 1) []
   refine ⟨Nat.le_refl _, by dsimp only; simp only [List.length_cons]; omega, ?_⟩
   have := ih.low (lo' := f + 1) (by omega)
   simp only [List.length_nil, List.length_cons] at this ⊢
   rw [show f + cur.length + (r.length + 1) = f + cur.length + 1 + 0 + r.length by omega]
   exact this
  ·rw [Tm.lns_go f cur r x hx]
   have ih := txt_asc r f (cur ++ [x])
   simp only [List.length_append, List.length_cons, List.length_nil] at ih ⊢
   rw [show f + cur.length + (r.length + 1) = f + (cur.length + (0 + 1)) + r.length by omega]
   exact ih
theorem csv_asc : ∀ (l : List UInt8) (a : Nat) (s : Csv.Cv.St) (r : List (List UInt8)) (f : List UInt8) (p : Nat), a ≤ p → Asc a (p + l.length) ((Csv.Cv.recs a s r f p l).1.map (·.1))
 | [], a, s, r, f, p, hp => by
  rw [Csv.Cv.recs]
  split
  ·trivial
  ·split
   ·trivial
   ·exact ⟨Nat.le_refl _, by dsimp only; simp only [List.length_nil]; omega, trivial⟩
   ·trivial
 | c :: l, a, s, r, f, p, hp => by
  rw [Csv.Cv.recs]
  split
  ·rename_i s' r' f' _
   have ih := csv_asc l a s' r' f' (p + 1) (by omega)
   simp only [List.length_cons]
   rw [show p + (l.length + 1) = p + 1 + l.length by omega]
   exact ih
  ·have ih := csv_asc l (p + 1) .bg [] [] (p + 1) (Nat.le_refl _)
   simp only [List.length_cons]
   rw [show p + (l.length + 1) = p + 1 + l.length by omega]
   exact ⟨Nat.le_refl _, by dsimp only; omega, ih.low (show a + 1 ≤ p + 1 by omega)⟩
  ·trivial
theorem fix_asc (b : List UInt8) (k : Nat) (hk : 1 ≤ k) : ∀ (m s : Nat), Asc (s * k) ((s + m) * k) ((Fix.Fx.rs b k s (s + m)).map (·.1))
 | 0, s => by rw [Nat.add_zero, Fix.Fx.rs_nil b k s _ (Nat.le_refl _)]; trivial
 | m + 1, s => by
  have ih := fix_asc b k hk m (s + 1)
  have e : Fix.Fx.rs b k s (s + (m + 1)) = Fix.Fx.pi b k s :: Fix.Fx.rs b k (s + 1) (s + 1 + m) := by
   unfold Fix.Fx.rs
   rw [show s + (m + 1) - s = m + 1 by omega, show s + 1 + m - (s + 1) = m by omega, List.range'_succ]
   rfl
  rw [e, List.map_cons]
  have h1 : (s + 1) * k = s * k + k := by rw [Nat.add_mul, Nat.one_mul]
  have h2 : (s + (m + 1)) * k = s * k + (m + 1) * k := Nat.add_mul _ _ _
  have h3 : k ≤ (m + 1) * k := Nat.le_mul_of_pos_left k (by omega)
  refine ⟨Nat.le_refl _, by show s * k < _; omega, ?_⟩
  rw [show s + (m + 1) = s + 1 + m by omega]
  exact ih.low (show s * k + 1 ≤ _ by omega)
theorem cht_asc (b : List UInt8) (L : List (Nat × Nat)) : ∀ (p : Nat), Cht.Hm.Oks L → Asc p (p + Cht.Hm.tot L) ((Cht.Hm.sc b (Cht.Hm.plc p L)).1.map (·.1)) := by
 induction L with
 | nil =>
  intro p _
  rw [Cht.Hm.plc, Cht.Hm.sc]
  trivial
 | cons x L ih =>
  intro p hok
  have h1 := hok x (List.mem_cons_self ..)
  have ih2 := ih (p + x.1) fun z hz => hok z (List.mem_cons_of_mem _ hz)
  rw [Cht.Hm.plc, Cht.Hm.tot_cons]
  cases hv : Cht.Hm.val b (p, x.1, x.2) with
  | none => rw [Cht.Hm.sc_none hv]; trivial
  | some r =>
   rw [Cht.Hm.sc_some hv]
   have e : p + (x.1 + Cht.Hm.tot L) = p + x.1 + Cht.Hm.tot L := by omega
   rw [e]
   rw [List.map_cons]
   show p ≤ p ∧ p < p + x.1 + Cht.Hm.tot L ∧ _
   exact ⟨Nat.le_refl _, by omega, ih2.low (show p + 1 ≤ _ by omega)⟩
theorem bun_rd : ∀ (k AT p st : Nat) (B b : List UInt8) (D : List Bun.Bm.F) (p' e : Nat), p ≤ b.length → Bun.Bm.rdE k AT p st B b = some (D, p', e) → Asc (AT + p) (AT + p' + 1) (D.map (·.at_)) ∧ p ≤ p'
 | 0, AT, p, st, B, b, D, p', e, _, h => by
  rw [Bun.Bm.rdE] at h
  injection h with h
  injection h with h1 h2
  injection h2 with h2 h3
  subst h1 h2
  exact ⟨trivial, Nat.le_refl _⟩
 | k + 1, AT, p, st, B, b, D, p', e, hp, h => by
  rcases h1 : Bun.Bm.nam (b.drop p) with _ | ⟨a, s⟩
  ·rw [Bun.Bm.rdE_nonam h1] at h; cases h
  ·rcases h2 : Bun.Bm.num 1000 (b.drop (p + s)) with _ | ⟨z, s2⟩
   ·rw [Bun.Bm.rdE_nonum h1 h2] at h; cases h
   ·by_cases h3 : Go.Op.bytesLess B a = true
    ·rw [Bun.Bm.rdE_step h1 h2 h3] at h
     obtain ⟨⟨D2, p2, e2⟩, h4, h5⟩ := Option.map_eq_some_iff.1 h
     injection h5 with h5 h6
     injection h6 with h6 h7
     dsimp only at h5 h6 h7
     subst h6 h7
     obtain ⟨_, n2, n3, n4⟩ := Bun.Bm.nam_only h1
     obtain ⟨_, m2, m3, m4, _, _⟩ := Bun.Bm.num_only h2
     rw [List.length_drop] at n4 m4
     have hv := Vm.vb_pos a.length
     obtain ⟨ih, ih2⟩ := bun_rd k AT (p + s + s2) (st + z + 4) a b D2 p2 e2 (by omega) h4
     subst h5
     exact ⟨⟨Nat.le_refl _, by show AT + p < _; omega, ih.low (show AT + p + 1 ≤ _ by omega)⟩, by omega⟩
    ·rw [Bun.Bm.rdE_noasc h1 h2 (by simpa using h3)] at h; cases h
end Go.Proofs.YtkekmokdlgocaaaGreatDoor
namespace Go.Proofs.YtkekmokdlgocaaaGreatDoor.Pl
def Cu (n : Nat) (C : List Nat) : Prop := ∃ D, C = 0 :: D ∧ Asc 1 (n + 1) D ∧ (D = [] → n = 0) ∧ ∀ x, D.getLast? = some x → x = n
theorem odd_app (x y : List UInt8) : Csv.Cv.odd (x ++ y) = (Csv.Cv.odd x != Csv.Cv.odd y) := by
 unfold Csv.Cv.odd
 rw [List.count_append]
 rcases Nat.mod_two_eq_zero_or_one (x.count 34) with h | h <;> rcases Nat.mod_two_eq_zero_or_one (y.count 34) with k | k <;> rw [Nat.add_mod, h, k] <;> rfl
theorem odd_next (b : List UInt8) (c d : Nat) (h : c ≤ d) : Csv.Cv.odd (b.take d) = (Csv.Cv.odd (b.take c) != Csv.Cv.odd ((b.drop c).take (d - c))) := by
 rw [← odd_app]
 congr 1
 rw [← List.take_add, Nat.add_sub_cancel' h]
def ic (C : List Nat) : List Int := C.map fun c : Nat => (c : Int)
theorem ic_len (C : List Nat) : (ic C).length = C.length := by simp [ic]
theorem ic_get {C : List Nat} {i c : Nat} (h : C[i]? = some c) : (ic C)[i]? = some (c : Int) := by simp [ic, h]
theorem ic_inv {C : List Nat} {i : Nat} {x : Int} (h : (ic C)[i]? = some x) : ∃ c : Nat, C[i]? = some c ∧ x = (c : Int) := by
 unfold ic at h
 rw [List.getElem?_map] at h
 obtain ⟨a, ha, rfl⟩ := Option.map_eq_some_iff.1 h
 exact ⟨a, ha, rfl⟩
def IsC (n : Nat) (L : List Int) : Prop := L[0]? = some 0 ∧ L.getLast? = some (n : Int) ∧ ∀ (i : Nat) (a b : Int), L[i]? = some a → L[i + 1]? = some b → a < b
theorem asc_of : ∀ {L : List Int} {lo hi : Nat} {p : Int}, (lo : Int) ≤ p + 1 → 0 ≤ p → (∀ (i : Nat) (a b : Int), (p :: L)[i]? = some a → (p :: L)[i + 1]? = some b → a < b) → (∀ x, L.getLast? = some x → x < (hi : Int)) →
  ∃ D : List Nat, L = ic D ∧ Asc lo hi D
 | [], _, _, _, _, _, _, _ => ⟨[], rfl, trivial⟩
 | x :: L, lo, hi, p, h0, hp, h1, h2 => by
  have hpx := h1 0 p x rfl rfl
  obtain ⟨D, hD, hA⟩ := asc_of (L := L) (lo := x.toNat + 1) (hi := hi) (p := x) (by omega) (by omega) (fun i a b ha hb => h1 (i + 1) a b (by simpa using ha) (by simpa using hb)) (fun y hy => by
   rcases L with _ | ⟨z, L⟩
   ·simp at hy
   ·exact h2 y (by rw [List.getLast?_cons_cons]; exact hy))
  refine ⟨x.toNat :: D, by rw [ic, List.map_cons, ← ic, ← hD]; congr 1; omega, by omega, ?_, hA⟩
  rcases D with _ | ⟨d, D⟩
  ·subst hD
   have := h2 x rfl
   omega
  ·have := hA.1
   have := hA.2.1
   omega
theorem isC_cu {n : Nat} {L : List Int} (h : IsC n L) : ∃ C : List Nat, L = ic C ∧ Cu n C := by
 obtain ⟨h0, h1, h2⟩ := h
 rcases L with _ | ⟨x, L⟩
 ·simp at h0
 ·obtain rfl : x = 0 := by simpa using h0
  obtain ⟨D, hD, hA⟩ := asc_of (L := L) (lo := 1) (hi := n + 1) (p := 0) (by omega) (by omega) h2 (fun y hy => by
   rcases L with _ | ⟨z, L⟩
   ·simp at hy
   ·rw [List.getLast?_cons_cons, hy] at h1
    injection h1 with h1
    omega)
  refine ⟨0 :: D, by rw [ic, List.map_cons, ← ic, ← hD]; rfl, D, rfl, hA, fun e => ?_, fun y hy => ?_⟩
  ·subst e hD
   simp [ic] at h1
   omega
  ·subst hD
   rcases D with _ | ⟨z, D⟩
   ·simp at hy
   ·rw [ic, List.map_cons, List.getLast?_cons_cons, ← List.map_cons, List.getLast?_map, hy] at h1
    simp at h1
    omega
theorem cu_isC {n : Nat} {C : List Nat} (h : Cu n C) : IsC n (ic C) := by
 obtain ⟨D, rfl, hA, h0, hl⟩ := h
 refine ⟨rfl, ?_, fun i a b ha hb => ?_⟩
 ·rw [ic, List.getLast?_map]
  rcases D with _ | ⟨z, D⟩
  ·rw [h0 rfl]; rfl
  ·rw [List.getLast?_cons_cons]
   rcases e : (z :: D).getLast? with _ | y
   ·simp at e
   ·rw [hl y e]; rfl
 ·obtain ⟨a', ha', rfl⟩ := ic_inv ha
  obtain ⟨b', hb', rfl⟩ := ic_inv hb
  have hA' : Asc 0 (n + 1) (0 :: D) := ⟨Nat.le_refl _, by omega, hA⟩
  have := hA'.get i (i + 1) a' b' (by omega) ha' hb'
  omega
theorem cu_get {n : Nat} {C : List Nat} (h : Cu n C) : Asc 0 (n + 1) C := by
 obtain ⟨D, rfl, hA, h0, hl⟩ := h
 exact ⟨Nat.le_refl _, by omega, hA⟩
theorem cu_pos {n : Nat} {C : List Nat} (h : Cu n C) : 1 ≤ C.length ∧ C[0]? = some 0 := by
 obtain ⟨D, rfl, hA, h0, hl⟩ := h
 exact ⟨by simp, rfl⟩
end Go.Proofs.YtkekmokdlgocaaaGreatDoor.Pl
