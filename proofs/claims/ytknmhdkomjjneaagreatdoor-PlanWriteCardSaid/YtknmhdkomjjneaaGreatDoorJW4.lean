/-
  Joined: As N0 Bn.
-/
import Derived.Test.YtknmhdkomjjneaaGreatDoorJW1
import Derived.Test.YtknmhdkomjjneaaGreatDoorJW3
/-
  The places of the pieces of a file rise, whatever its format. Plain mathematics.
-/

namespace Go.Proofs.YtknmhdkomjjneaaGreatDoor

def Asc : Nat → Nat → List Nat → Prop
  | _, _, [] => True
  | lo, hi, a :: t => lo ≤ a ∧ a < hi ∧ Asc (a + 1) hi t
theorem Asc.low {hi : Nat} : ∀ {l : List Nat} {lo lo' : Nat}, Asc lo hi l → lo' ≤ lo → Asc lo' hi l
  | [], _, _, _, _ => trivial
  | _ :: _, _, _, h, hl => ⟨Nat.le_trans hl h.1, h.2.1, h.2.2⟩
theorem Asc.high {hi hi' : Nat} : ∀ {l : List Nat} {lo : Nat}, Asc lo hi l → hi ≤ hi' → Asc lo hi' l
  | [], _, _, _ => trivial
  | _ :: _, _, h, hl => ⟨h.1, Nat.lt_of_lt_of_le h.2.1 hl, h.2.2.high hl⟩
theorem Asc.mem {hi : Nat} : ∀ {l : List Nat} {lo : Nat}, Asc lo hi l → ∀ a ∈ l, lo ≤ a ∧ a < hi
  | [], _, _, a, h => by cases h
  | x :: l, lo, h, a, ha => by
    rcases List.mem_cons.1 ha with rfl | ha
    · exact ⟨h.1, h.2.1⟩
    · have := h.2.2.mem a ha
      have := h.1
      omega
theorem Asc.get {hi : Nat} : ∀ {l : List Nat} {lo : Nat}, Asc lo hi l → ∀ (i j a b : Nat), i < j → l[i]? = some a → l[j]? = some b → a < b
  | [], _, _, i, j, a, b, _, h, _ => by simp at h
  | x :: l, lo, h, i, j, a, b, hij, ha, hb => by
    obtain ⟨j, rfl⟩ : ∃ k, j = k + 1 := ⟨j - 1, by omega⟩
    cases i with
    | zero =>
      simp at ha hb
      subst ha
      exact (h.2.2.mem b (List.mem_of_getElem? hb)).1
    | succ i => exact h.2.2.get i j a b (by omega) (by simpa using ha) (by simpa using hb)

theorem txt_asc : ∀ (r : List UInt8) (f : Nat) (cur : List UInt8), Asc f (f + cur.length + r.length) ((Tm.lns f cur r).map (·.1))
  | [], f, cur => by
    rw [Tm.lns_end]
    split
    · trivial
    · rename_i h
      have h1 : 0 < cur.length := by
        cases cur with
        | nil => simp at h
        | cons x c => simp
      exact ⟨Nat.le_refl _, by dsimp only; simp only [List.length_nil]; omega, trivial⟩
  | x :: r, f, cur => by
    by_cases hx : x = 10
    · subst hx
      rw [Tm.lns_ten]
      have ih := txt_asc r (f + cur.length + 1) []
      refine ⟨Nat.le_refl _, by dsimp only; simp only [List.length_cons]; omega, ?_⟩
      have := ih.low (lo' := f + 1) (by omega)
      simp only [List.length_nil, List.length_cons] at this ⊢
      rw [show f + cur.length + (r.length + 1) = f + cur.length + 1 + 0 + r.length by omega]
      exact this
    · rw [Tm.lns_go f cur r x hx]
      have ih := txt_asc r f (cur ++ [x])
      simp only [List.length_append, List.length_cons, List.length_nil] at ih ⊢
      rw [show f + cur.length + (r.length + 1) = f + (cur.length + (0 + 1)) + r.length by omega]
      exact ih
theorem csv_asc : ∀ (l : List UInt8) (a : Nat) (s : Csv.Cv.St) (r : List (List UInt8)) (f : List UInt8) (p : Nat), a ≤ p → Asc a (p + l.length) ((Csv.Cv.recs a s r f p l).1.map (·.1))
  | [], a, s, r, f, p, hp => by
    rw [Csv.Cv.recs]
    split
    · trivial
    · split
      · trivial
      · exact ⟨Nat.le_refl _, by dsimp only; simp only [List.length_nil]; omega, trivial⟩
      · trivial
  | c :: l, a, s, r, f, p, hp => by
    rw [Csv.Cv.recs]
    split
    · rename_i s' r' f' _
      have ih := csv_asc l a s' r' f' (p + 1) (by omega)
      simp only [List.length_cons]
      rw [show p + (l.length + 1) = p + 1 + l.length by omega]
      exact ih
    · have ih := csv_asc l (p + 1) .bg [] [] (p + 1) (Nat.le_refl _)
      simp only [List.length_cons]
      rw [show p + (l.length + 1) = p + 1 + l.length by omega]
      exact ⟨Nat.le_refl _, by dsimp only; omega, ih.low (show a + 1 ≤ p + 1 by omega)⟩
    · trivial
theorem fix_asc (b : List UInt8) (k : Nat) (hk : 1 ≤ k) : ∀ (m s : Nat), Asc (s * k) ((s + m) * k) ((Fix.Fx.rs b k s (s + m)).map (·.1))
  | 0, s => by rw [Nat.add_zero, Fix.Fx.rs_nil b k s _ (Nat.le_refl _)]; trivial
  | m + 1, s => by
    have ih := fix_asc b k hk m (s + 1)
    have e : Fix.Fx.rs b k s (s + (m + 1)) = Fix.Fx.pi b k s :: Fix.Fx.rs b k (s + 1) (s + 1 + m) := by
      unfold Fix.Fx.rs
      rw [show s + (m + 1) - s = m + 1 by omega, show s + 1 + m - (s + 1) = m by omega, List.range'_succ]
      rfl
    rw [e, List.map_cons]
    have h1 : (s + 1) * k = s * k + k := by rw [Nat.add_mul, Nat.one_mul]
    have h2 : (s + (m + 1)) * k = s * k + (m + 1) * k := Nat.add_mul _ _ _
    have h3 : k ≤ (m + 1) * k := Nat.le_mul_of_pos_left k (by omega)
    refine ⟨Nat.le_refl _, by show s * k < _; omega, ?_⟩
    rw [show s + (m + 1) = s + 1 + m by omega]
    exact ih.low (show s * k + 1 ≤ _ by omega)
theorem cht_asc (b : List UInt8) (L : List (Nat × Nat)) : ∀ (p : Nat), Cht.Hm.Oks L → Asc p (p + Cht.Hm.tot L) ((Cht.Hm.sc b (Cht.Hm.plc p L)).1.map (·.1)) := by
  induction L with
  | nil =>
    intro p _
    rw [Cht.Hm.plc, Cht.Hm.sc]
    trivial
  | cons x L ih =>
    intro p hok
    have h1 := hok x (List.mem_cons_self ..)
    have ih2 := ih (p + x.1) fun z hz => hok z (List.mem_cons_of_mem _ hz)
    rw [Cht.Hm.plc, Cht.Hm.tot_cons]
    cases hv : Cht.Hm.val b (p, x.1, x.2) with
    | none => rw [Cht.Hm.sc_none hv]; trivial
    | some r =>
      rw [Cht.Hm.sc_some hv]
      have e : p + (x.1 + Cht.Hm.tot L) = p + x.1 + Cht.Hm.tot L := by omega
      rw [e]
      rw [List.map_cons]
      show p ≤ p ∧ p < p + x.1 + Cht.Hm.tot L ∧ _
      exact ⟨Nat.le_refl _, by omega, ih2.low (show p + 1 ≤ _ by omega)⟩
theorem bun_rd : ∀ (k AT p st : Nat) (B b : List UInt8) (D : List Bun.Bm.F) (p' e : Nat), p ≤ b.length → Bun.Bm.rdE k AT p st B b = some (D, p', e) → Asc (AT + p) (AT + p' + 1) (D.map (·.at_)) ∧ p ≤ p'
  | 0, AT, p, st, B, b, D, p', e, _, h => by
    rw [Bun.Bm.rdE] at h
    injection h with h
    injection h with h1 h2
    injection h2 with h2 h3
    subst h1 h2
    exact ⟨trivial, Nat.le_refl _⟩
  | k + 1, AT, p, st, B, b, D, p', e, hp, h => by
    rcases h1 : Bun.Bm.nam (b.drop p) with _ | ⟨a, s⟩
    · rw [Bun.Bm.rdE_nonam h1] at h; cases h
    · rcases h2 : Bun.Bm.num 1000 (b.drop (p + s)) with _ | ⟨z, s2⟩
      · rw [Bun.Bm.rdE_nonum h1 h2] at h; cases h
      · by_cases h3 : Go.Op.bytesLess B a = true
        · rw [Bun.Bm.rdE_step h1 h2 h3] at h
          obtain ⟨⟨D2, p2, e2⟩, h4, h5⟩ := Option.map_eq_some_iff.1 h
          injection h5 with h5 h6
          injection h6 with h6 h7
          dsimp only at h5 h6 h7
          subst h6 h7
          obtain ⟨_, n2, n3, n4⟩ := Bun.Bm.nam_only h1
          obtain ⟨_, m2, m3, m4, _, _⟩ := Bun.Bm.num_only h2
          rw [List.length_drop] at n4 m4
          have hv := Vm.vb_pos a.length
          obtain ⟨ih, ih2⟩ := bun_rd k AT (p + s + s2) (st + z + 4) a b D2 p2 e2 (by omega) h4
          subst h5
          exact ⟨⟨Nat.le_refl _, by show AT + p < _; omega, ih.low (show AT + p + 1 ≤ _ by omega)⟩, by omega⟩
        · rw [Bun.Bm.rdE_noasc h1 h2 (by simpa using h3)] at h; cases h
end Go.Proofs.YtknmhdkomjjneaaGreatDoor

/-
  Cuts, aligned cuts, cuts of one size, what is within quotes. Plain mathematics.
-/

namespace Go.Proofs.YtknmhdkomjjneaaGreatDoor.Pl

def nx (S : List Nat) (n a : Nat) : Nat := match S.find? (fun s => decide (a ≤ s)) with | some s => s | none => n
def Cu (n : Nat) (C : List Nat) : Prop := ∃ D, C = 0 :: D ∧ Asc 1 (n + 1) D ∧ (D = [] → n = 0) ∧ ∀ x, D.getLast? = some x → x = n
def cpt : List Nat → List Nat
  | [] => []
  | [a] => [a]
  | a :: b :: t => if a = b then cpt (b :: t) else a :: cpt (b :: t)
def al (S : List Nat) (n : Nat) (C : List Nat) : List Nat := cpt (0 :: C.tail.map (nx S n))
def mul (s a : Nat) : Nat → List Nat
  | 0 => []
  | k + 1 => a * s :: mul s (a + 1) k
theorem mul_snoc (s : Nat) : ∀ (k a : Nat), mul s a (k + 1) = mul s a k ++ [(a + k) * s]
  | 0, a => rfl
  | k + 1, a => by
    rw [mul, mul_snoc s k (a + 1), mul]
    rw [show a + 1 + k = a + (k + 1) by omega]
    rfl
theorem mul_len (s : Nat) : ∀ (k a : Nat), (mul s a k).length = k
  | 0, _ => rfl
  | k + 1, a => by rw [mul, List.length_cons, mul_len s k]
def sz (n s : Nat) : List Nat := mul s 0 ((n - 1) / s + 1) ++ (if 0 < n then [n] else [])
theorem sz_at {n s j : Nat} (hs : 1 ≤ s) (h1 : n ≤ (j + 1) * s) (h2 : j = 0 ∨ j * s < n) : mul s 0 (j + 1) ++ (if 0 < n then [n] else []) = sz n s := by
  have e : (n - 1) / s = j := by
    apply Nat.div_eq_of_lt_le
    · rcases h2 with h2 | h2
      · subst h2; omega
      · omega
    · have : 0 < (j + 1) * s := Nat.mul_pos (by omega) (by omega)
      omega
  rw [sz, e]
theorem odd_app (x y : List UInt8) : Csv.Cv.odd (x ++ y) = (Csv.Cv.odd x != Csv.Cv.odd y) := by
  unfold Csv.Cv.odd
  rw [List.count_append]
  rcases Nat.mod_two_eq_zero_or_one (x.count 34) with h | h <;> rcases Nat.mod_two_eq_zero_or_one (y.count 34) with k | k <;> rw [Nat.add_mod, h, k] <;> rfl
theorem odd_next (b : List UInt8) (c d : Nat) (h : c ≤ d) : Csv.Cv.odd (b.take d) = (Csv.Cv.odd (b.take c) != Csv.Cv.odd ((b.drop c).take (d - c))) := by
  rw [← odd_app]
  congr 1
  rw [← List.take_add, Nat.add_sub_cancel' h]

def ic (C : List Nat) : List Int := C.map fun c : Nat => (c : Int)
theorem ic_len (C : List Nat) : (ic C).length = C.length := by simp [ic]
theorem ic_inv {C : List Nat} {i : Nat} {x : Int} (h : (ic C)[i]? = some x) : ∃ c : Nat, C[i]? = some c ∧ x = (c : Int) := by
  unfold ic at h
  rw [List.getElem?_map] at h
  obtain ⟨a, ha, rfl⟩ := Option.map_eq_some_iff.1 h
  exact ⟨a, ha, rfl⟩
def IsC (n : Nat) (L : List Int) : Prop := L[0]? = some 0 ∧ L.getLast? = some (n : Int) ∧ ∀ (i : Nat) (a b : Int), L[i]? = some a → L[i + 1]? = some b → a < b
theorem cu_isC {n : Nat} {C : List Nat} (h : Cu n C) : IsC n (ic C) := by
  obtain ⟨D, rfl, hA, h0, hl⟩ := h
  refine ⟨rfl, ?_, fun i a b ha hb => ?_⟩
  · rw [ic, List.getLast?_map]
    rcases D with _ | ⟨z, D⟩
    · rw [h0 rfl]; rfl
    · rw [List.getLast?_cons_cons]
      rcases e : (z :: D).getLast? with _ | y
      · simp at e
      · rw [hl y e]; rfl
  · obtain ⟨a', ha', rfl⟩ := ic_inv ha
    obtain ⟨b', hb', rfl⟩ := ic_inv hb
    have hA' : Asc 0 (n + 1) (0 :: D) := ⟨Nat.le_refl _, by omega, hA⟩
    have := hA'.get i (i + 1) a' b' (by omega) ha' hb'
    omega
theorem cu_get {n : Nat} {C : List Nat} (h : Cu n C) : Asc 0 (n + 1) C := by
  obtain ⟨D, rfl, hA, h0, hl⟩ := h
  exact ⟨Nat.le_refl _, by omega, hA⟩
theorem cu_pos {n : Nat} {C : List Nat} (h : Cu n C) : 1 ≤ C.length ∧ C[0]? = some 0 := by
  obtain ⟨D, rfl, hA, h0, hl⟩ := h
  exact ⟨by simp, rfl⟩
end Go.Proofs.YtknmhdkomjjneaaGreatDoor.Pl

/-
  Bundles: what is written, read back; what is read, written again.
-/

namespace Go.Proofs.YtknmhdkomjjneaaGreatDoor.Bun.Bm
open Go.Op

abbrev Rec := List (List UInt8)
def okr (B : List UInt8) : Rec → Bool
  | [a, b] => bytesLess B a && decide (a.length ≤ 100) && decide (b.length ≤ 1000)
  | _ => false
def nm : Rec → List UInt8
  | a :: _ => a
  | [] => []
def mayB : List UInt8 → List Rec → Bool
  | _, [] => true
  | B, r :: t => okr B r && mayB (nm r) t
def ew : Rec → List UInt8
  | [a, b] => Vm.vb a.length ++ (a ++ Vm.vb b.length)
  | _ => []
def bw : Rec → List UInt8
  | [_, b] => sl b
  | _ => []
def ents (l : List Rec) : List UInt8 := Vm.vb l.length ++ (l.map ew).flatten
def body (l : List Rec) : List UInt8 := (l.map bw).flatten
def wr (l : List Rec) : List UInt8 := (Vm.vb (sl (ents l)).length ++ sl (ents l)) ++ body l
def wrS (l : List Rec) : List UInt8 × Nat := if l.length ≤ 1000 ∧ mayB [] l = true then (wr l, 0) else ([], 10)
theorem wrS_ok {l : List Rec} (h : l.length ≤ 1000) (h2 : mayB [] l = true) : wrS l = (wr l, 0) := if_pos ⟨h, h2⟩
theorem wrS_not {l : List Rec} (h2 : mayB [] l = false) : wrS l = ([], 10) := if_neg fun q => by rw [h2] at q; exact Bool.noConfusion q.2
theorem wrS_inv {l : List Rec} (h : (wrS l).2 = 0) : l.length ≤ 1000 ∧ mayB [] l = true ∧ wrS l = (wr l, 0) := by
  by_cases h1 : l.length ≤ 1000 ∧ mayB [] l = true
  · exact ⟨h1.1, h1.2, wrS_ok h1.1 h1.2⟩
  · unfold wrS at h; rw [if_neg h1] at h; cases h
theorem okr_inv {B : List UInt8} : ∀ {r : Rec}, okr B r = true → ∃ a b, r = [a, b] ∧ bytesLess B a = true ∧ a.length ≤ 100 ∧ b.length ≤ 1000
  | [a, b], h => by
    simp only [okr, Bool.and_eq_true, decide_eq_true_eq] at h
    exact ⟨a, b, rfl, h.1.1, h.1.2, h.2⟩
  | [], h => by cases h
  | [_], h => by cases h
  | _ :: _ :: _ :: _, h => by cases h
theorem okr_len {B : List UInt8} : ∀ {r : Rec}, r.length ≠ 2 → okr B r = false
  | [_, _], h => absurd rfl h
  | [], _ => rfl
  | [_], _ => rfl
  | _ :: _ :: _ :: _, _ => rfl
theorem okr_two (B a b : List UInt8) : okr B [a, b] = (bytesLess B a && decide (a.length ≤ 100) && decide (b.length ≤ 1000)) := rfl
def MB (l : List Rec) (k : Nat) (B : List UInt8) : Prop := mayB [] l = mayB B (l.drop k)
theorem MB.start (l : List Rec) : MB l 0 [] := rfl
theorem MB.step {l : List Rec} {k : Nat} {B : List UInt8} {r : Rec} (h : MB l k B) (hr : l[k]? = some r) (ho : okr B r = true) : MB l (k + 1) (nm r) := by
  obtain ⟨hk, rfl⟩ := List.getElem?_eq_some_iff.1 hr
  unfold MB at h ⊢
  rw [h, List.drop_eq_getElem_cons hk, mayB, ho, Bool.true_and]
theorem MB.bad {l : List Rec} {k : Nat} {B : List UInt8} {r : Rec} (h : MB l k B) (hr : l[k]? = some r) (ho : okr B r = false) : mayB [] l = false := by
  obtain ⟨hk, rfl⟩ := List.getElem?_eq_some_iff.1 hr
  unfold MB at h
  rw [h, List.drop_eq_getElem_cons hk, mayB, ho, Bool.false_and]
theorem MB.end_ {l : List Rec} {k : Nat} {B : List UInt8} (h : MB l k B) (hk : l.length ≤ k) : mayB [] l = true := by
  unfold MB at h
  rw [h, List.drop_eq_nil_iff.2 hk]
  rfl
theorem mayB_get : ∀ (l : List Rec) (B : List UInt8) (i : Nat) (r : Rec), mayB B l = true → l[i]? = some r → ∃ a b, r = [a, b] ∧ a.length ≤ 100 ∧ b.length ≤ 1000
  | [], B, i, r, _, h => by simp at h
  | x :: l, B, i, r, h, h2 => by
    rw [mayB, Bool.and_eq_true] at h
    cases i with
    | zero =>
      simp at h2
      subst h2
      obtain ⟨a, b, e, _, h3, h4⟩ := okr_inv h.1
      exact ⟨a, b, e, h3, h4⟩
    | succ i => exact mayB_get l (nm x) i r h.2 (by simpa using h2)
theorem ents_next (l : List Rec) (k : Nat) (r : Rec) (h : l[k]? = some r) : ((l.take (k + 1)).map ew).flatten = ((l.take k).map ew).flatten ++ ew r := by
  rw [List.take_add_one, h]
  simp
theorem body_next (l : List Rec) (k : Nat) (r : Rec) (h : l[k]? = some r) : body (l.take (k + 1)) = body (l.take k) ++ bw r := by
  unfold body
  rw [List.take_add_one, h]
  simp
theorem vb3 (n : Nat) (h : n ≤ 1000000) : (Vm.vb n).length ≤ 3 := Vm.vb_len_le 2 n (by have : (128 : Nat) ^ (2 + 1) = 2097152 := by decide +kernel
                                                                                       omega)
theorem ew_len (B : List UInt8) (r : Rec) (h : okr B r = true) : (ew r).length ≤ 106 ∧ (bw r).length ≤ 1004 := by
  obtain ⟨a, b, rfl, _, h3, h4⟩ := okr_inv h
  have v1 := vb3 a.length (by omega)
  have v2 := vb3 b.length (by omega)
  rw [ew, bw, sl_len]
  simp only [List.length_append]
  omega
theorem enc_len : ∀ (l : List Rec) (B : List UInt8), mayB B l = true → ((l.map ew).flatten).length ≤ 106 * l.length ∧ (body l).length ≤ 1004 * l.length
  | [], B, _ => by simp [body]
  | r :: l, B, h => by
    rw [mayB, Bool.and_eq_true] at h
    have h1 := ew_len B r h.1
    have ih := enc_len l (nm r) h.2
    unfold body at ih ⊢
    simp only [List.map_cons, List.flatten_cons, List.length_append, List.length_cons]
    omega
theorem mayB_take : ∀ (l : List Rec) (B : List UInt8) (k : Nat), mayB B l = true → mayB B (l.take k) = true
  | [], B, k, _ => by simp [mayB]
  | r :: l, B, 0, _ => rfl
  | r :: l, B, k + 1, h => by
    rw [mayB, Bool.and_eq_true] at h
    rw [List.take_succ_cons, mayB, h.1, mayB_take l (nm r) k h.2]
    rfl

def mkD (AT : Nat) : Nat → Nat → List Rec → List F
  | _, _, [] => []
  | p, st, r :: t => ⟨AT + p, nm r, (bw r).length - 4, st⟩ :: mkD AT (p + (ew r).length) (st + (bw r).length) t
theorem mkD_len (AT : Nat) : ∀ (l : List Rec) (p st : Nat), (mkD AT p st l).length = l.length
  | [], _, _ => rfl
  | r :: t, p, st => by simp [mkD, mkD_len AT t]
theorem drop_app {b x y : List UInt8} {p : Nat} (h : b.drop p = x ++ y) : b.drop (p + x.length) = y := by
  rw [← List.drop_drop, h, List.drop_left]
theorem rdE_back : ∀ (l : List Rec) (AT p st : Nat) (B b s : List UInt8), mayB B l = true → b.drop p = (l.map ew).flatten ++ s →
    rdE l.length AT p st B b = some (mkD AT p st l, p + ((l.map ew).flatten).length, st + (body l).length)
  | [], AT, p, st, B, b, s, _, _ => by simp [rdE, mkD, body]
  | r :: l, AT, p, st, B, b, s, h, hb => by
    rw [mayB, Bool.and_eq_true] at h
    obtain ⟨x, y, rfl, h1, h2, h3⟩ := okr_inv h.1
    have e1 : b.drop p = Vm.vb x.length ++ (x ++ (Vm.vb y.length ++ ((l.map ew).flatten ++ s))) := by
      rw [hb, List.map_cons, List.flatten_cons, ew]
      simp only [List.append_assoc]
    have n1 : nam (b.drop p) = some (x, (Vm.vb x.length).length + x.length) := by rw [e1]; exact nam_back x _ h2
    have e2 : b.drop (p + ((Vm.vb x.length).length + x.length)) = Vm.vb y.length ++ ((l.map ew).flatten ++ s) := by
      have := drop_app (x := Vm.vb x.length ++ x) (by rw [e1, List.append_assoc])
      rwa [List.length_append] at this
    have n2 : num 1000 (b.drop (p + ((Vm.vb x.length).length + x.length))) = some (y.length, (Vm.vb y.length).length) := by rw [e2]; exact num_back 1000 _ _ h3 (by omega)
    have e3 := drop_app e2
    have ih := rdE_back l AT (p + ((Vm.vb x.length).length + x.length) + (Vm.vb y.length).length) (st + y.length + 4) x b s h.2 e3
    rw [List.length_cons, rdE_step n1 n2 h1, ih, Option.map_some]
    have l1 : (ew [x, y]).length = (Vm.vb x.length).length + x.length + (Vm.vb y.length).length := by rw [ew]; simp only [List.length_append]; omega
    have l2 : (bw [x, y]).length = y.length + 4 := by rw [bw, sl_len]
    have l3 : (body ([x, y] :: l)).length = y.length + 4 + (body l).length := by unfold body; rw [List.map_cons, List.flatten_cons, List.length_append, l2]
    rw [mkD, l1, l2, l3, List.map_cons, List.flatten_cons, List.length_append, l1]
    have e4 : p + ((Vm.vb x.length).length + x.length) + (Vm.vb y.length).length = p + ((Vm.vb x.length).length + x.length + (Vm.vb y.length).length) := by omega
    rw [e4, show st + y.length + 4 = st + (y.length + 4) by omega, show y.length + 4 - 4 = y.length by omega]
    simp only [nm, Option.some.injEq, Prod.mk.injEq, true_and]
    omega
theorem cts_back : ∀ (l : List Rec) (AT p st : Nat) (B b s : List UInt8), mayB B l = true → b.drop st = body l ++ s → cts b (mkD AT p st l) = l.map fun r => (r.drop 1).headD []
  | [], AT, p, st, B, b, s, _, _ => by simp [mkD, cts]
  | r :: l, AT, p, st, B, b, s, h, hb => by
    rw [mayB, Bool.and_eq_true] at h
    obtain ⟨x, y, rfl, h1, h2, h3⟩ := okr_inv h.1
    have e1 : b.drop st = sl y ++ (body l ++ s) := by
      rw [hb]; unfold body; rw [List.map_cons, List.flatten_cons, List.append_assoc]; rfl
    have l2 : (bw [x, y]).length = y.length + 4 := by rw [bw, sl_len]
    have e3 := drop_app e1
    rw [sl_len] at e3
    have hle : st + (y.length + 4) ≤ b.length := by
      have := congrArg List.length e1
      rw [List.length_drop, List.length_append, sl_len] at this
      omega
    have ih := cts_back l AT (p + (ew [x, y]).length) (st + (y.length + 4)) x b s h.2 e3
    have hy : (b.take (st + (y.length + 4))).drop st = sl y := by
      rw [List.drop_take, e1, Nat.add_sub_cancel_left, ← sl_len y, List.take_left]
    rw [mkD, l2, List.map_cons]
    rw [cts_ok _ (x := y) (by dsimp only; omega) (by
      dsimp only
      rw [show st + (y.length + 4 - 4) + 4 = st + (y.length + 4) by omega, hy]
      exact open_sl y), ih]
    rfl
theorem pcs_back : ∀ (l : List Rec) (AT p st : Nat) (B : List UInt8), mayB B l = true → Tm.all (pcs (mkD AT p st l) (l.map fun r => (r.drop 1).headD [])) = l
  | [], AT, p, st, B, _ => by simp [mkD, pcs, Tm.all]
  | r :: l, AT, p, st, B, h => by
    rw [mayB, Bool.and_eq_true] at h
    obtain ⟨x, y, rfl, h1, h2, h3⟩ := okr_inv h.1
    have ih := pcs_back l AT (p + (ew [x, y]).length) (st + (bw [x, y]).length) x h.2
    unfold pcs at ih ⊢
    rw [mkD, List.map_cons, List.zipWith_cons_cons]
    simp only [Tm.all, nm] at ih ⊢
    rw [List.flatMap_cons, ih]
    rfl
theorem mkD_get (AT : Nat) : ∀ (l : List Rec) (p st i : Nat) (r : Rec), l[i]? = some r → ∃ f, (mkD AT p st l)[i]? = some f ∧ f.nm = nm r
  | [], _, _, i, r, h => by simp at h
  | x :: l, p, st, i, r, h => by
    cases i with
    | zero => simp at h; subst h; exact ⟨_, rfl, rfl⟩
    | succ i =>
      obtain ⟨f, h1, h2⟩ := mkD_get AT l (p + (ew x).length) (st + (bw x).length) i r (by simpa using h)
      exact ⟨f, by simpa [mkD] using h1, h2⟩
theorem mkD_asc (AT : Nat) : ∀ (l : List Rec) (p st : Nat) (B : List UInt8), mayB B l = true → asc B (mkD AT p st l)
  | [], _, _, _, _ => trivial
  | r :: l, p, st, B, h => by
    rw [mayB, Bool.and_eq_true] at h
    obtain ⟨x, y, rfl, h1, _, _⟩ := okr_inv h.1
    exact ⟨h1, mkD_asc AT l _ _ x h.2⟩
theorem wr_len (l : List Rec) (h : l.length ≤ 1000) (h2 : mayB [] l = true) : (ents l).length ≤ 106 * l.length + 3 ∧ (wr l).length = (Vm.vb (sl (ents l)).length).length + (sl (ents l)).length + (body l).length ∧ (body l).length ≤ 1004 * l.length := by
  have h3 := enc_len l [] h2
  have v := vb3 l.length (by omega)
  refine ⟨?_, ?_, h3.2⟩
  · unfold ents; rw [List.length_append]; omega
  · unfold wr; simp only [List.length_append]
theorem dir_back (l : List Rec) (h : l.length ≤ 1000) (h2 : mayB [] l = true) :
    dir (wr l) = some (mkD (Vm.vb (sl (ents l)).length).length (Vm.vb l.length).length ((Vm.vb (sl (ents l)).length).length + (sl (ents l)).length) l, (wr l).length) ∧
    (wr l).drop ((Vm.vb (sl (ents l)).length).length + (sl (ents l)).length) = body l ++ [] := by
  obtain ⟨h3, h4, h5⟩ := wr_len l h h2
  obtain ⟨Z, hZ⟩ : ∃ Z, Z = sl (ents l) := ⟨_, rfl⟩
  have hZl : Z.length = (ents l).length + 4 := by rw [hZ, sl_len]
  have hw : wr l = Vm.vb Z.length ++ (Z ++ body l) := by rw [hZ]; unfold wr; rw [List.append_assoc]
  rw [← hZ] at h4 ⊢
  have n1 : num (wr l).length (wr l) = some (Z.length, (Vm.vb Z.length).length) := by
    have := num_back (wr l).length Z.length (Z ++ body l) (by omega) (by omega)
    rwa [← hw] at this
  have hx : ((wr l).take ((Vm.vb Z.length).length + Z.length)).drop (Vm.vb Z.length).length = Z := by
    rw [List.drop_take, hw, List.drop_left, Nat.add_sub_cancel_left, List.take_left]
  have ho : Cm.openS Cm.tab (((wr l).take ((Vm.vb Z.length).length + Z.length)).drop (Vm.vb Z.length).length) = (ents l, 0) := by rw [hx, hZ]; exact open_sl _
  have n2 : num 1000 (ents l) = some (l.length, (Vm.vb l.length).length) := num_back 1000 _ _ h (by omega)
  have hd : (ents l).drop (Vm.vb l.length).length = (l.map ew).flatten ++ [] := by unfold ents; rw [List.drop_left, List.append_nil]
  have r1 := rdE_back l (Vm.vb Z.length).length (Vm.vb l.length).length ((Vm.vb Z.length).length + Z.length) [] (ents l) [] h2 hd
  refine ⟨?_, ?_⟩
  · rw [dir_in n1 (by omega) ho, takeE_ok n2 r1 (by unfold ents; rw [List.length_append]), h4]
  · rw [hw, ← List.append_assoc, ← List.length_append, List.drop_left, List.append_nil]
theorem write_back (l : List Rec) (h : l.length ≤ 1000) (h2 : mayB [] l = true) :
    ∃ P, scS (wr l) = (P, (wr l).length, 0) ∧ Tm.all P = l ∧ ∀ (i : Nat) (r : Rec), l[i]? = some r → ∃ a b, r = [a, b] ∧ fnd (wr l) a = (b, 0) := by
  obtain ⟨hd, hb⟩ := dir_back l h h2
  have hc := cts_back l (Vm.vb (sl (ents l)).length).length (Vm.vb l.length).length _ [] (wr l) [] h2 hb
  have hlen : (cts (wr l) (mkD (Vm.vb (sl (ents l)).length).length (Vm.vb l.length).length ((Vm.vb (sl (ents l)).length).length + (sl (ents l)).length) l)).length = l.length := by rw [hc, List.length_map]
  refine ⟨_, scS_good hd (by rw [hlen, mkD_len]; exact Nat.le_refl _) (by omega), ?_, fun i r hr => ?_⟩
  · rw [hc]; exact pcs_back l _ _ _ [] h2
  · obtain ⟨a, b, rfl, _, _⟩ := mayB_get l [] i r h2 hr
    obtain ⟨f, hf, hn⟩ := mkD_get (Vm.vb (sl (ents l)).length).length l (Vm.vb l.length).length ((Vm.vb (sl (ents l)).length).length + (sl (ents l)).length) i _ hr
    have ha := asc_fi _ [] (mkD_asc _ l _ _ [] h2) i f hf
    rw [hn] at ha
    refine ⟨a, b, rfl, fnd_ok hd ha ?_⟩
    rw [hc, List.getElem?_map, hr]
    rfl

end Go.Proofs.YtknmhdkomjjneaaGreatDoor.Bun.Bm
