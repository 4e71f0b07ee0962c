/-
  Joined: Cm.
-/

/-
  Plain mathematics of CRC-32: the table's entries, the register, the checksum, linearity, and that another byte gives another checksum.
-/
namespace Go.Proofs.YtoalncojijmelaaGreatDoor.Cm

def step (n : Nat) : Nat := if n % 2 = 1 then (n / 2) ^^^ 3988292384 else n / 2
def iter : Nat → Nat → Nat
  | 0, n => n
  | k + 1, n => iter k (step n)
def ent (n : Nat) : Nat := iter 8 n
theorem step_odd (n : Nat) (h : n % 2 = 1) : step n = (n / 2) ^^^ 3988292384 := by unfold step; rw [if_pos h]
theorem step_even (n : Nat) (h : n % 2 = 0) : step n = n / 2 := by unfold step; rw [if_neg (by omega)]
theorem iter_succ (k n : Nat) : iter (k + 1) n = iter k (step n) := rfl
theorem xor_lt {a b : Nat} (ha : a < 4294967296) (hb : b < 4294967296) : a ^^^ b < 4294967296 := Nat.xor_lt_two_pow (n := 32) ha hb
theorem xor_lt8 {a b : Nat} (ha : a < 256) (hb : b < 256) : a ^^^ b < 256 := Nat.xor_lt_two_pow (n := 8) ha hb
theorem step_lt (n : Nat) (h : n < 4294967296) : step n < 4294967296 := by
  unfold step
  split
  · exact xor_lt (by omega) (by omega)
  · omega
theorem iter_lt : ∀ (k n : Nat), n < 4294967296 → iter k n < 4294967296
  | 0, _, h => h
  | k + 1, n, h => iter_lt k _ (step_lt n h)
theorem ent_lt (n : Nat) (h : n < 4294967296) : ent n < 4294967296 := iter_lt 8 n h

/-- The table. -/
def tab : List Nat := (List.range 256).map ent
theorem tab_len : tab.length = 256 := by simp [tab]
theorem tab_get (i : Nat) (h : i < 256) : tab[i]? = some (ent i) := by simp [tab, h]
theorem tab_getD (i : Nat) (h : i < 256) : tab.getD i 0 = ent i := by simp [List.getD, tab_get i h]
theorem tab_lt : ∀ x ∈ tab, x < 4294967296 := by
  intro x hx
  simp only [tab, List.mem_map, List.mem_range] at hx
  obtain ⟨i, hi, rfl⟩ := hx
  exact ent_lt i (by omega)

/-- A register is updated with a byte. -/
def upd (t : List Nat) (c : Nat) (x : UInt8) : Nat := t.getD (c % 256 ^^^ x.toNat) 0 ^^^ c / 256
def more (t : List Nat) (c : Nat) (l : List UInt8) : Nat := l.foldl (upd t) c
def sum (t : List Nat) (l : List UInt8) : Nat := 4294967295 ^^^ more t 4294967295 l
theorem more_nil (t : List Nat) (c : Nat) : more t c [] = c := rfl
theorem more_cons (t : List Nat) (c : Nat) (x : UInt8) (l : List UInt8) : more t c (x :: l) = more t (upd t c x) l := rfl
theorem more_append (t : List Nat) (c : Nat) (a b : List UInt8) : more t c (a ++ b) = more t (more t c a) b := by simp [more]
theorem idx_lt (c : Nat) (x : UInt8) : c % 256 ^^^ x.toNat < 256 := xor_lt8 (by omega) x.toNat_lt
theorem idx_ref (c : Nat) (x : UInt8) : (c ^^^ x.toNat) % 256 = c % 256 ^^^ x.toNat := by
  have h := Nat.xor_mod_two_pow (a := c) (b := x.toNat) (n := 8)
  have e : (2 : Nat) ^ 8 = 256 := by decide
  rw [e] at h
  have := x.toNat_lt
  rw [h, Nat.mod_eq_of_lt (a := x.toNat) (by omega)]
def Fits (t : List Nat) : Prop := ∀ x ∈ t, x < 4294967296
theorem getD_lt (t : List Nat) (h : Fits t) (i : Nat) : t.getD i 0 < 4294967296 := by
  simp only [List.getD]
  cases hi : t[i]? with
  | none => simp
  | some x => simpa using h x (List.mem_of_getElem? hi)
theorem upd_lt (t : List Nat) (h : Fits t) (c : Nat) (hc : c < 4294967296) (x : UInt8) : upd t c x < 4294967296 := xor_lt (getD_lt t h _) (by omega)
theorem more_lt (t : List Nat) (h : Fits t) : ∀ (l : List UInt8) (c : Nat), c < 4294967296 → more t c l < 4294967296
  | [], _, hc => hc
  | x :: l, c, hc => more_lt t h l _ (upd_lt t h c hc x)
theorem sum_lt (t : List Nat) (h : Fits t) (l : List UInt8) : sum t l < 4294967296 := xor_lt (by omega) (more_lt t h l _ (by omega))

/-- The four bytes of a checksum. -/
def byteAt (c i : Nat) : UInt8 := UInt8.ofNat (c / 256 ^ i)
def four (c : Nat) : List UInt8 := [byteAt c 0, byteAt c 1, byteAt c 2, byteAt c 3]
theorem byteAt_nat (c i : Nat) : (byteAt c i).toNat = c / 256 ^ i % 256 := by simp [byteAt]
theorem byteAt_int (c i : Nat) : ((byteAt c i).toNat : Int) = ((c / 256 ^ i % 256 : Nat) : Int) := by rw [byteAt_nat]
theorem byteAt_inj (c d : Nat) (hc : c < 4294967296) (hd : d < 4294967296) (h : ∀ i, i < 4 → byteAt c i = byteAt d i) : c = d := by
  have h0 := congrArg UInt8.toNat (h 0 (by omega))
  have h1 := congrArg UInt8.toNat (h 1 (by omega))
  have h2 := congrArg UInt8.toNat (h 2 (by omega))
  have h3 := congrArg UInt8.toNat (h 3 (by omega))
  rw [byteAt_nat, byteAt_nat] at h0 h1 h2 h3
  simp only [Nat.reducePow, Nat.pow_zero, Nat.div_one] at h0 h1 h2 h3
  omega
theorem four_len (c : Nat) : (four c).length = 4 := rfl
theorem four_get (c i : Nat) (h : i < 4) : (four c)[i]? = some (byteAt c i) := by
  match i, h with
  | 0, _ => rfl
  | 1, _ => rfl
  | 2, _ => rfl
  | 3, _ => rfl

/-- One byte that is another. -/
theorem xor_cancel {a b c : Nat} (h : a ^^^ b = a ^^^ c) : b = c := by
  have e : a ^^^ (a ^^^ b) = a ^^^ (a ^^^ c) := by rw [h]
  rw [← Nat.xor_assoc, ← Nat.xor_assoc, Nat.xor_self, Nat.zero_xor, Nat.zero_xor] at e
  exact e
theorem xor_cancel' {a b c : Nat} (h : b ^^^ a = c ^^^ a) : b = c := by
  rw [Nat.xor_comm b, Nat.xor_comm c] at h
  exact xor_cancel h
theorem tops : (List.range 256).all (fun i => (List.range 256).all fun j => i == j || ent i / 16777216 != ent j / 16777216) = true := by decide +kernel
theorem top_inj (i j : Nat) (hi : i < 256) (hj : j < 256) (h : ent i / 16777216 = ent j / 16777216) : i = j := by
  have h1 := List.all_eq_true.1 tops i (List.mem_range.2 hi)
  have h2 := List.all_eq_true.1 h1 j (List.mem_range.2 hj)
  simp only [Bool.or_eq_true, beq_iff_eq, bne_iff_ne, ne_eq] at h2
  rcases h2 with h2 | h2
  · exact h2
  · exact absurd h h2
theorem upd_top (c : Nat) (hc : c < 4294967296) (x : UInt8) : upd tab c x / 16777216 = ent (c % 256 ^^^ x.toNat) / 16777216 := by
  unfold upd
  rw [tab_getD _ (idx_lt c x)]
  have h := Nat.xor_div_two_pow (a := ent (c % 256 ^^^ x.toNat)) (b := c / 256) (n := 24)
  have e : (2 : Nat) ^ 24 = 16777216 := by decide
  rw [e] at h
  rw [h, Nat.div_eq_of_lt (a := c / 256) (by omega), Nat.xor_zero]
theorem upd_inj (c d : Nat) (hc : c < 4294967296) (hd : d < 4294967296) (x : UInt8) (h : upd tab c x = upd tab d x) : c = d := by
  have ht := congrArg (· / 16777216) h
  simp only [upd_top c hc, upd_top d hd] at ht
  have hi := top_inj _ _ (idx_lt c x) (idx_lt d x) ht
  unfold upd at h
  rw [hi] at h
  have h1 := xor_cancel h
  have h2 := xor_cancel' hi
  omega
theorem upd_ne (c : Nat) (hc : c < 4294967296) (x y : UInt8) (h : x ≠ y) : upd tab c x ≠ upd tab c y := by
  intro e
  have ht := congrArg (· / 16777216) e
  simp only [upd_top c hc] at ht
  have hi := top_inj _ _ (idx_lt c x) (idx_lt c y) ht
  exact h (UInt8.toNat_inj.1 (xor_cancel hi))
theorem more_inj : ∀ (l : List UInt8) (c d : Nat), c < 4294967296 → d < 4294967296 → more tab c l = more tab d l → c = d
  | [], _, _, _, _, h => h
  | x :: l, c, d, hc, hd, h => upd_inj c d hc hd x (more_inj l _ _ (upd_lt tab tab_lt c hc x) (upd_lt tab tab_lt d hd x) h)
theorem more_ne (c : Nat) (hc : c < 4294967296) (a b : List UInt8) (x y : UInt8) (h : x ≠ y) : more tab c (a ++ x :: b) ≠ more tab c (a ++ y :: b) := by
  intro e
  rw [more_append, more_append, more_cons, more_cons] at e
  have hm := more_lt tab tab_lt a c hc
  exact upd_ne _ hm x y h (more_inj b _ _ (upd_lt tab tab_lt _ hm x) (upd_lt tab tab_lt _ hm y) e)
/-- The checksum of bytes with another one at place k is another. -/
theorem sum_set_ne (l : List UInt8) (k : Nat) (hk : k < l.length) (y : UInt8) (h : l[k] ≠ y) : sum tab (l.set k y) ≠ sum tab l := by
  intro e
  have e1 := xor_cancel e
  have hs : l.set k y = l.take k ++ y :: l.drop (k + 1) := by rw [List.set_eq_take_append_cons_drop, if_pos hk]
  have hl : l.take k ++ l[k] :: l.drop (k + 1) = l := by rw [← List.drop_eq_getElem_cons hk, List.take_append_drop]
  rw [hs] at e1
  have e2 : more tab 4294967295 (l.take k ++ y :: l.drop (k + 1)) = more tab 4294967295 (l.take k ++ l[k] :: l.drop (k + 1)) := by rw [e1, hl]
  exact more_ne _ (by omega) _ _ _ _ (fun q => h q.symm) e2

/-- Lines. -/
theorem step_xor (a b : Nat) : step (a ^^^ b) = step a ^^^ step b := by
  have h2 : (a ^^^ b) / 2 = a / 2 ^^^ b / 2 := Nat.xor_div_two
  have h1 := @Nat.xor_mod_two_eq_one a b
  unfold step
  rw [h2]
  by_cases ha : a % 2 = 1 <;> by_cases hb : b % 2 = 1
  · rw [if_neg (by rw [h1]; simp [ha, hb]), if_pos ha, if_pos hb]
    have : a / 2 ^^^ 3988292384 ^^^ (b / 2 ^^^ 3988292384) = a / 2 ^^^ b / 2 ^^^ (3988292384 ^^^ 3988292384) := by ac_rfl
    rw [this, Nat.xor_self, Nat.xor_zero]
  · rw [if_pos (by rw [h1]; simp [ha, hb]), if_pos ha, if_neg hb]; ac_rfl
  · rw [if_pos (by rw [h1]; simp [ha, hb]), if_neg ha, if_pos hb]; ac_rfl
  · rw [if_neg (by rw [h1]; simp [ha, hb]), if_neg ha, if_neg hb]
theorem iter_xor : ∀ (k a b : Nat), iter k (a ^^^ b) = iter k a ^^^ iter k b
  | 0, _, _ => rfl
  | k + 1, a, b => by rw [iter_succ, iter_succ, iter_succ, step_xor, iter_xor k]
theorem ent_xor (a b : Nat) : ent (a ^^^ b) = ent a ^^^ ent b := iter_xor 8 a b
theorem upd_xor (c d : Nat) (x y : UInt8) : upd tab (c ^^^ d) (x ^^^ y) = upd tab c x ^^^ upd tab d y := by
  unfold upd
  rw [tab_getD _ (idx_lt _ _), tab_getD _ (idx_lt _ _), tab_getD _ (idx_lt _ _)]
  have e8 : (2 : Nat) ^ 8 = 256 := by decide
  have hd := Nat.xor_div_two_pow (a := c) (b := d) (n := 8)
  have hm := Nat.xor_mod_two_pow (a := c) (b := d) (n := 8)
  rw [e8] at hd hm
  rw [hd, hm, UInt8.toNat_xor]
  have : c % 256 ^^^ d % 256 ^^^ (x.toNat ^^^ y.toNat) = (c % 256 ^^^ x.toNat) ^^^ (d % 256 ^^^ y.toNat) := by ac_rfl
  rw [this, ent_xor]
  ac_rfl
def xor3 : List UInt8 → List UInt8 → List UInt8 → List UInt8
  | x :: a, y :: b, z :: c => (x ^^^ y ^^^ z) :: xor3 a b c
  | _, _, _ => []
theorem more_xor3 : ∀ (a b c : List UInt8) (p q r : Nat), b.length = a.length → c.length = a.length → more tab (p ^^^ q ^^^ r) (xor3 a b c) = more tab p a ^^^ more tab q b ^^^ more tab r c
  | [], [], [], p, q, r, _, _ => rfl
  | x :: a, y :: b, z :: c, p, q, r, hb, hc => by
    simp only [xor3, more_cons, upd_xor]
    exact more_xor3 a b c _ _ _ (by simpa using hb) (by simpa using hc)
  | x :: a, [], _, _, _, _, hb, _ => by simp at hb
  | x :: a, y :: b, [], _, _, _, _, hc => by simp at hc
  | [], _ :: _, _, _, _, _, hb, _ => by simp at hb
  | [], [], _ :: _, _, _, _, _, hc => by simp at hc
theorem ff3 : (4294967295 : Nat) ^^^ 4294967295 ^^^ 4294967295 = 4294967295 := by decide
theorem sum_xor3 (a b c : List UInt8) (hb : b.length = a.length) (hc : c.length = a.length) : sum tab a ^^^ sum tab b ^^^ sum tab c = sum tab (xor3 a b c) := by
  have h := more_xor3 a b c 4294967295 4294967295 4294967295 hb hc
  rw [ff3] at h
  unfold sum
  rw [h]
  have : ∀ u p q r : Nat, u ^^^ p ^^^ (u ^^^ q) ^^^ (u ^^^ r) = (u ^^^ u ^^^ u) ^^^ (p ^^^ q ^^^ r) := fun u p q r => by ac_rfl
  rw [this, ff3]
theorem xor3_snoc : ∀ (a b c : List UInt8) (k : Nat) (x y z : UInt8), a[k]? = some x → b[k]? = some y → c[k]? = some z → xor3 (a.take (k + 1)) (b.take (k + 1)) (c.take (k + 1)) = xor3 (a.take k) (b.take k) (c.take k) ++ [x ^^^ y ^^^ z]
  | x' :: a, y' :: b, z' :: c, 0, x, y, z, h1, h2, h3 => by
    simp at h1 h2 h3
    subst h1 h2 h3
    simp [xor3]
  | x' :: a, y' :: b, z' :: c, k + 1, x, y, z, h1, h2, h3 => by
    simp only [List.take_succ_cons, xor3, List.cons_append]
    rw [xor3_snoc a b c k x y z (by simpa using h1) (by simpa using h2) (by simpa using h3)]
  | [], _, _, _, _, _, _, h, _, _ => by simp at h
  | _ :: _, [], _, _, _, _, _, _, h, _ => by simp at h
  | _ :: _, _ :: _, [], _, _, _, _, _, _, h => by simp at h
theorem xor3_len : ∀ (a b c : List UInt8), b.length = a.length → c.length = a.length → (xor3 a b c).length = a.length
  | [], [], [], _, _ => rfl
  | x :: a, y :: b, z :: c, hb, hc => by simp only [xor3, List.length_cons]; rw [xor3_len a b c (by simpa using hb) (by simpa using hc)]
  | x :: a, [], _, hb, _ => by simp at hb
  | x :: a, y :: b, [], _, hc => by simp at hc
  | [], _ :: _, _, hb, _ => by simp at hb
  | [], [], _ :: _, _, hc => by simp at hc

/-- Sealing and opening. -/
def sealS (t : List Nat) (l : List UInt8) : List UInt8 × Nat := if t.length = 256 then (l ++ four (sum t l), 0) else ([], 1)
def openS (t : List Nat) (l : List UInt8) : List UInt8 × Nat :=
  if t.length = 256 then
    if l.length < 4 then ([], 2)
    else if l.drop (l.length - 4) = four (sum t (l.take (l.length - 4))) then (l.take (l.length - 4), 0) else ([], 4)
  else ([], 1)
theorem open_seal (t : List Nat) (ht : t.length = 256) (l : List UInt8) : openS t (l ++ four (sum t l)) = (l, 0) := by
  unfold openS
  have hl : (l ++ four (sum t l)).length - 4 = l.length := by simp [four_len]
  rw [if_pos ht, if_neg (by simp [four_len]), hl, List.drop_left' rfl, List.take_left' rfl, if_pos rfl]
/-- One other byte is found. -/
theorem open_spoilt (l : List UInt8) (k : Nat) (hk : k < l.length + 4) (y : UInt8) (h : (l ++ four (sum tab l))[k]? ≠ some y) : openS tab ((l ++ four (sum tab l)).set k y) = ([], 4) := by
  unfold openS
  have hlen : ((l ++ four (sum tab l)).set k y).length = l.length + 4 := by simp [four_len]
  rw [if_pos tab_len, hlen, if_neg (by omega)]
  have hn : l.length + 4 - 4 = l.length := by omega
  rw [hn]
  by_cases hk1 : k < l.length
  · rw [List.set_append_left _ _ hk1, List.drop_left' (by simp), List.take_left' (by simp)]
    rw [List.getElem?_append_left hk1, List.getElem?_eq_getElem hk1] at h
    have h1 : l[k] ≠ y := fun e => h (by rw [e])
    have h2 := sum_set_ne l k hk1 y h1
    rw [if_neg]
    intro e
    refine h2 (byteAt_inj _ _ (sum_lt _ tab_lt _) (sum_lt _ tab_lt _) fun i hi => ?_)
    have a := four_get (sum tab l) i hi
    have b := four_get (sum tab (l.set k y)) i hi
    rw [e, b] at a
    exact (Option.some.inj a)
  · rw [List.set_append_right _ _ (by omega), List.drop_left' rfl, List.take_left' rfl]
    rw [List.getElem?_append_right (by omega)] at h
    rw [if_neg]
    intro e
    have hk3 : k - l.length < (four (sum tab l)).length := by rw [four_len]; omega
    apply h
    rw [← e, List.getElem?_set_self hk3]
end Go.Proofs.YtoalncojijmelaaGreatDoor.Cm
