/-
  Bundles: what is written, read back; what is read, written again.
-/
import Derived.Test.YtdhbfoelpdoofaaBm
import Derived.Test.YtdhbfoelpdoofaaTm
namespace Go.Proofs.Ytdhbfoelpdoofaa.Bm
open Go.Op

abbrev Rec := List (List UInt8)
def okr (B : List UInt8) : Rec → Bool
  | [a, b] => bytesLess B a && decide (a.length ≤ 100) && decide (b.length ≤ 1000)
  | _ => false
def nm : Rec → List UInt8
  | a :: _ => a
  | [] => []
def mayB : List UInt8 → List Rec → Bool
  | _, [] => true
  | B, r :: t => okr B r && mayB (nm r) t
def ew : Rec → List UInt8
  | [a, b] => Vm.vb a.length ++ (a ++ Vm.vb b.length)
  | _ => []
def bw : Rec → List UInt8
  | [_, b] => sl b
  | _ => []
def ents (l : List Rec) : List UInt8 := Vm.vb l.length ++ (l.map ew).flatten
def body (l : List Rec) : List UInt8 := (l.map bw).flatten
def wr (l : List Rec) : List UInt8 := (Vm.vb (sl (ents l)).length ++ sl (ents l)) ++ body l
def wrS (l : List Rec) : List UInt8 × Nat := if l.length ≤ 1000 ∧ mayB [] l = true then (wr l, 0) else ([], 10)
theorem wrS_ok {l : List Rec} (h : l.length ≤ 1000) (h2 : mayB [] l = true) : wrS l = (wr l, 0) := if_pos ⟨h, h2⟩
theorem wrS_long {l : List Rec} (h : ¬ l.length ≤ 1000) : wrS l = ([], 10) := if_neg fun q => h q.1
theorem wrS_not {l : List Rec} (h2 : mayB [] l = false) : wrS l = ([], 10) := if_neg fun q => by rw [h2] at q; exact Bool.noConfusion q.2
theorem wrS_inv {l : List Rec} (h : (wrS l).2 = 0) : l.length ≤ 1000 ∧ mayB [] l = true ∧ wrS l = (wr l, 0) := by
  by_cases h1 : l.length ≤ 1000 ∧ mayB [] l = true
  · exact ⟨h1.1, h1.2, wrS_ok h1.1 h1.2⟩
  · unfold wrS at h; rw [if_neg h1] at h; cases h
theorem okr_inv {B : List UInt8} : ∀ {r : Rec}, okr B r = true → ∃ a b, r = [a, b] ∧ bytesLess B a = true ∧ a.length ≤ 100 ∧ b.length ≤ 1000
  | [a, b], h => by
    simp only [okr, Bool.and_eq_true, decide_eq_true_eq] at h
    exact ⟨a, b, rfl, h.1.1, h.1.2, h.2⟩
  | [], h => by cases h
  | [_], h => by cases h
  | _ :: _ :: _ :: _, h => by cases h
theorem okr_len {B : List UInt8} : ∀ {r : Rec}, r.length ≠ 2 → okr B r = false
  | [_, _], h => absurd rfl h
  | [], _ => rfl
  | [_], _ => rfl
  | _ :: _ :: _ :: _, _ => rfl
theorem okr_two (B a b : List UInt8) : okr B [a, b] = (bytesLess B a && decide (a.length ≤ 100) && decide (b.length ≤ 1000)) := rfl
/-- The loop's word. -/
def MB (l : List Rec) (k : Nat) (B : List UInt8) : Prop := mayB [] l = mayB B (l.drop k)
theorem MB.start (l : List Rec) : MB l 0 [] := rfl
theorem MB.step {l : List Rec} {k : Nat} {B : List UInt8} {r : Rec} (h : MB l k B) (hr : l[k]? = some r) (ho : okr B r = true) : MB l (k + 1) (nm r) := by
  obtain ⟨hk, rfl⟩ := List.getElem?_eq_some_iff.1 hr
  unfold MB at h ⊢
  rw [h, List.drop_eq_getElem_cons hk, mayB, ho, Bool.true_and]
theorem MB.bad {l : List Rec} {k : Nat} {B : List UInt8} {r : Rec} (h : MB l k B) (hr : l[k]? = some r) (ho : okr B r = false) : mayB [] l = false := by
  obtain ⟨hk, rfl⟩ := List.getElem?_eq_some_iff.1 hr
  unfold MB at h
  rw [h, List.drop_eq_getElem_cons hk, mayB, ho, Bool.false_and]
theorem MB.end_ {l : List Rec} {k : Nat} {B : List UInt8} (h : MB l k B) (hk : l.length ≤ k) : mayB [] l = true := by
  unfold MB at h
  rw [h, List.drop_eq_nil_iff.2 hk]
  rfl
theorem mayB_get : ∀ (l : List Rec) (B : List UInt8) (i : Nat) (r : Rec), mayB B l = true → l[i]? = some r → ∃ a b, r = [a, b] ∧ a.length ≤ 100 ∧ b.length ≤ 1000
  | [], B, i, r, _, h => by simp at h
  | x :: l, B, i, r, h, h2 => by
    rw [mayB, Bool.and_eq_true] at h
    cases i with
    | zero =>
      simp at h2
      subst h2
      obtain ⟨a, b, e, _, h3, h4⟩ := okr_inv h.1
      exact ⟨a, b, e, h3, h4⟩
    | succ i => exact mayB_get l (nm x) i r h.2 (by simpa using h2)
theorem ents_next (l : List Rec) (k : Nat) (r : Rec) (h : l[k]? = some r) : ((l.take (k + 1)).map ew).flatten = ((l.take k).map ew).flatten ++ ew r := by
  rw [List.take_add_one, h]
  simp
theorem body_next (l : List Rec) (k : Nat) (r : Rec) (h : l[k]? = some r) : body (l.take (k + 1)) = body (l.take k) ++ bw r := by
  unfold body
  rw [List.take_add_one, h]
  simp
theorem vb3 (n : Nat) (h : n ≤ 1000000) : (Vm.vb n).length ≤ 3 := Vm.vb_len_le 2 n (by have : (128 : Nat) ^ (2 + 1) = 2097152 := by decide +kernel
                                                                                       omega)
theorem ew_len (B : List UInt8) (r : Rec) (h : okr B r = true) : (ew r).length ≤ 106 ∧ (bw r).length ≤ 1004 := by
  obtain ⟨a, b, rfl, _, h3, h4⟩ := okr_inv h
  have v1 := vb3 a.length (by omega)
  have v2 := vb3 b.length (by omega)
  rw [ew, bw, sl_len]
  simp only [List.length_append]
  omega
theorem enc_len : ∀ (l : List Rec) (B : List UInt8), mayB B l = true → ((l.map ew).flatten).length ≤ 106 * l.length ∧ (body l).length ≤ 1004 * l.length
  | [], B, _ => by simp [body]
  | r :: l, B, h => by
    rw [mayB, Bool.and_eq_true] at h
    have h1 := ew_len B r h.1
    have ih := enc_len l (nm r) h.2
    unfold body at ih ⊢
    simp only [List.map_cons, List.flatten_cons, List.length_append, List.length_cons]
    omega
theorem mayB_take : ∀ (l : List Rec) (B : List UInt8) (k : Nat), mayB B l = true → mayB B (l.take k) = true
  | [], B, k, _ => by simp [mayB]
  | r :: l, B, 0, _ => rfl
  | r :: l, B, k + 1, h => by
    rw [mayB, Bool.and_eq_true] at h
    rw [List.take_succ_cons, mayB, h.1, mayB_take l (nm r) k h.2]
    rfl

/-- The directory's entries of records. -/
def mkD (AT : Nat) : Nat → Nat → List Rec → List F
  | _, _, [] => []
  | p, st, r :: t => ⟨AT + p, nm r, (bw r).length - 4, st⟩ :: mkD AT (p + (ew r).length) (st + (bw r).length) t
theorem mkD_len (AT : Nat) : ∀ (l : List Rec) (p st : Nat), (mkD AT p st l).length = l.length
  | [], _, _ => rfl
  | r :: t, p, st => by simp [mkD, mkD_len AT t]
theorem drop_app {b x y : List UInt8} {p : Nat} (h : b.drop p = x ++ y) : b.drop (p + x.length) = y := by
  rw [← List.drop_drop, h, List.drop_left]
theorem rdE_back : ∀ (l : List Rec) (AT p st : Nat) (B b s : List UInt8), mayB B l = true → b.drop p = (l.map ew).flatten ++ s →
    rdE l.length AT p st B b = some (mkD AT p st l, p + ((l.map ew).flatten).length, st + (body l).length)
  | [], AT, p, st, B, b, s, _, _ => by simp [rdE, mkD, body]
  | r :: l, AT, p, st, B, b, s, h, hb => by
    rw [mayB, Bool.and_eq_true] at h
    obtain ⟨x, y, rfl, h1, h2, h3⟩ := okr_inv h.1
    have e1 : b.drop p = Vm.vb x.length ++ (x ++ (Vm.vb y.length ++ ((l.map ew).flatten ++ s))) := by
      rw [hb, List.map_cons, List.flatten_cons, ew]
      simp only [List.append_assoc]
    have n1 : nam (b.drop p) = some (x, (Vm.vb x.length).length + x.length) := by rw [e1]; exact nam_back x _ h2
    have e2 : b.drop (p + ((Vm.vb x.length).length + x.length)) = Vm.vb y.length ++ ((l.map ew).flatten ++ s) := by
      have := drop_app (x := Vm.vb x.length ++ x) (by rw [e1, List.append_assoc])
      rwa [List.length_append] at this
    have n2 : num 1000 (b.drop (p + ((Vm.vb x.length).length + x.length))) = some (y.length, (Vm.vb y.length).length) := by rw [e2]; exact num_back 1000 _ _ h3 (by omega)
    have e3 := drop_app e2
    have ih := rdE_back l AT (p + ((Vm.vb x.length).length + x.length) + (Vm.vb y.length).length) (st + y.length + 4) x b s h.2 e3
    rw [List.length_cons, rdE_step n1 n2 h1, ih, Option.map_some]
    have l1 : (ew [x, y]).length = (Vm.vb x.length).length + x.length + (Vm.vb y.length).length := by rw [ew]; simp only [List.length_append]; omega
    have l2 : (bw [x, y]).length = y.length + 4 := by rw [bw, sl_len]
    have l3 : (body ([x, y] :: l)).length = y.length + 4 + (body l).length := by unfold body; rw [List.map_cons, List.flatten_cons, List.length_append, l2]
    rw [mkD, l1, l2, l3, List.map_cons, List.flatten_cons, List.length_append, l1]
    have e4 : p + ((Vm.vb x.length).length + x.length) + (Vm.vb y.length).length = p + ((Vm.vb x.length).length + x.length + (Vm.vb y.length).length) := by omega
    rw [e4, show st + y.length + 4 = st + (y.length + 4) by omega, show y.length + 4 - 4 = y.length by omega]
    simp only [nm, Option.some.injEq, Prod.mk.injEq, true_and]
    omega
theorem cts_back : ∀ (l : List Rec) (AT p st : Nat) (B b s : List UInt8), mayB B l = true → b.drop st = body l ++ s → cts b (mkD AT p st l) = l.map fun r => (r.drop 1).headD []
  | [], AT, p, st, B, b, s, _, _ => by simp [mkD, cts]
  | r :: l, AT, p, st, B, b, s, h, hb => by
    rw [mayB, Bool.and_eq_true] at h
    obtain ⟨x, y, rfl, h1, h2, h3⟩ := okr_inv h.1
    have e1 : b.drop st = sl y ++ (body l ++ s) := by
      rw [hb]; unfold body; rw [List.map_cons, List.flatten_cons, List.append_assoc]; rfl
    have l2 : (bw [x, y]).length = y.length + 4 := by rw [bw, sl_len]
    have e3 := drop_app e1
    rw [sl_len] at e3
    have hle : st + (y.length + 4) ≤ b.length := by
      have := congrArg List.length e1
      rw [List.length_drop, List.length_append, sl_len] at this
      omega
    have ih := cts_back l AT (p + (ew [x, y]).length) (st + (y.length + 4)) x b s h.2 e3
    have hy : (b.take (st + (y.length + 4))).drop st = sl y := by
      rw [List.drop_take, e1, Nat.add_sub_cancel_left, ← sl_len y, List.take_left]
    rw [mkD, l2, List.map_cons]
    rw [cts_ok _ (x := y) (by dsimp only; omega) (by
      dsimp only
      rw [show st + (y.length + 4 - 4) + 4 = st + (y.length + 4) by omega, hy]
      exact open_sl y), ih]
    rfl
theorem pcs_back : ∀ (l : List Rec) (AT p st : Nat) (B : List UInt8), mayB B l = true → Tm.all (pcs (mkD AT p st l) (l.map fun r => (r.drop 1).headD [])) = l
  | [], AT, p, st, B, _ => by simp [mkD, pcs, Tm.all]
  | r :: l, AT, p, st, B, h => by
    rw [mayB, Bool.and_eq_true] at h
    obtain ⟨x, y, rfl, h1, h2, h3⟩ := okr_inv h.1
    have ih := pcs_back l AT (p + (ew [x, y]).length) (st + (bw [x, y]).length) x h.2
    unfold pcs at ih ⊢
    rw [mkD, List.map_cons, List.zipWith_cons_cons]
    simp only [Tm.all, nm] at ih ⊢
    rw [List.flatMap_cons, ih]
    rfl
theorem mkD_get (AT : Nat) : ∀ (l : List Rec) (p st i : Nat) (r : Rec), l[i]? = some r → ∃ f, (mkD AT p st l)[i]? = some f ∧ f.nm = nm r
  | [], _, _, i, r, h => by simp at h
  | x :: l, p, st, i, r, h => by
    cases i with
    | zero => simp at h; subst h; exact ⟨_, rfl, rfl⟩
    | succ i =>
      obtain ⟨f, h1, h2⟩ := mkD_get AT l (p + (ew x).length) (st + (bw x).length) i r (by simpa using h)
      exact ⟨f, by simpa [mkD] using h1, h2⟩
theorem mkD_asc (AT : Nat) : ∀ (l : List Rec) (p st : Nat) (B : List UInt8), mayB B l = true → asc B (mkD AT p st l)
  | [], _, _, _, _ => trivial
  | r :: l, p, st, B, h => by
    rw [mayB, Bool.and_eq_true] at h
    obtain ⟨x, y, rfl, h1, _, _⟩ := okr_inv h.1
    exact ⟨h1, mkD_asc AT l _ _ x h.2⟩
theorem wr_len (l : List Rec) (h : l.length ≤ 1000) (h2 : mayB [] l = true) : (ents l).length ≤ 106 * l.length + 3 ∧ (wr l).length = (Vm.vb (sl (ents l)).length).length + (sl (ents l)).length + (body l).length ∧ (body l).length ≤ 1004 * l.length := by
  have h3 := enc_len l [] h2
  have v := vb3 l.length (by omega)
  refine ⟨?_, ?_, h3.2⟩
  · unfold ents; rw [List.length_append]; omega
  · unfold wr; simp only [List.length_append]
/-- What is written, read. -/
theorem dir_back (l : List Rec) (h : l.length ≤ 1000) (h2 : mayB [] l = true) :
    dir (wr l) = some (mkD (Vm.vb (sl (ents l)).length).length (Vm.vb l.length).length ((Vm.vb (sl (ents l)).length).length + (sl (ents l)).length) l, (wr l).length) ∧
    (wr l).drop ((Vm.vb (sl (ents l)).length).length + (sl (ents l)).length) = body l ++ [] := by
  obtain ⟨h3, h4, h5⟩ := wr_len l h h2
  obtain ⟨Z, hZ⟩ : ∃ Z, Z = sl (ents l) := ⟨_, rfl⟩
  have hZl : Z.length = (ents l).length + 4 := by rw [hZ, sl_len]
  have hw : wr l = Vm.vb Z.length ++ (Z ++ body l) := by rw [hZ]; unfold wr; rw [List.append_assoc]
  rw [← hZ] at h4 ⊢
  have n1 : num (wr l).length (wr l) = some (Z.length, (Vm.vb Z.length).length) := by
    have := num_back (wr l).length Z.length (Z ++ body l) (by omega) (by omega)
    rwa [← hw] at this
  have hx : ((wr l).take ((Vm.vb Z.length).length + Z.length)).drop (Vm.vb Z.length).length = Z := by
    rw [List.drop_take, hw, List.drop_left, Nat.add_sub_cancel_left, List.take_left]
  have ho : Cm.openS Cm.tab (((wr l).take ((Vm.vb Z.length).length + Z.length)).drop (Vm.vb Z.length).length) = (ents l, 0) := by rw [hx, hZ]; exact open_sl _
  have n2 : num 1000 (ents l) = some (l.length, (Vm.vb l.length).length) := num_back 1000 _ _ h (by omega)
  have hd : (ents l).drop (Vm.vb l.length).length = (l.map ew).flatten ++ [] := by unfold ents; rw [List.drop_left, List.append_nil]
  have r1 := rdE_back l (Vm.vb Z.length).length (Vm.vb l.length).length ((Vm.vb Z.length).length + Z.length) [] (ents l) [] h2 hd
  refine ⟨?_, ?_⟩
  · rw [dir_in n1 (by omega) ho, takeE_ok n2 r1 (by unfold ents; rw [List.length_append]), h4]
  · rw [hw, ← List.append_assoc, ← List.length_append, List.drop_left, List.append_nil]
theorem write_back (l : List Rec) (h : l.length ≤ 1000) (h2 : mayB [] l = true) :
    ∃ P, scS (wr l) = (P, (wr l).length, 0) ∧ Tm.all P = l ∧ ∀ (i : Nat) (r : Rec), l[i]? = some r → ∃ a b, r = [a, b] ∧ fnd (wr l) a = (b, 0) := by
  obtain ⟨hd, hb⟩ := dir_back l h h2
  have hc := cts_back l (Vm.vb (sl (ents l)).length).length (Vm.vb l.length).length _ [] (wr l) [] h2 hb
  have hlen : (cts (wr l) (mkD (Vm.vb (sl (ents l)).length).length (Vm.vb l.length).length ((Vm.vb (sl (ents l)).length).length + (sl (ents l)).length) l)).length = l.length := by rw [hc, List.length_map]
  refine ⟨_, scS_good hd (by rw [hlen, mkD_len]; exact Nat.le_refl _) (by omega), ?_, fun i r hr => ?_⟩
  · rw [hc]; exact pcs_back l _ _ _ [] h2
  · obtain ⟨a, b, rfl, _, _⟩ := mayB_get l [] i r h2 hr
    obtain ⟨f, hf, hn⟩ := mkD_get (Vm.vb (sl (ents l)).length).length l (Vm.vb l.length).length ((Vm.vb (sl (ents l)).length).length + (sl (ents l)).length) i _ hr
    have ha := asc_fi _ [] (mkD_asc _ l _ _ [] h2) i f hf
    rw [hn] at ha
    refine ⟨a, b, rfl, fnd_ok hd ha ?_⟩
    rw [hc, List.getElem?_map, hr]
    rfl

/-- What is right, written again. -/
def rec_ (f : F) (x : List UInt8) : Rec := [f.nm, x]
theorem all_pcs (D : List F) (V : List (List UInt8)) : Tm.all (pcs D V) = List.zipWith (fun f x => [f.nm, x]) D V := by
  unfold pcs
  induction D generalizing V with
  | nil => simp [Tm.all]
  | cons f D ih =>
    cases V with
    | nil => simp [Tm.all]
    | cons x V =>
      have := ih V
      simp only [List.zipWith_cons_cons, Tm.all] at this ⊢
      rw [List.flatMap_cons, this]
      rfl
theorem again_may : ∀ (D : List F) (V : List (List UInt8)) (B b : List UInt8), (∀ f ∈ D, f.nm.length ≤ 100 ∧ f.sz ≤ 1000) → asc B D → V = cts b D → V.length = D.length →
    mayB B (List.zipWith (fun f x => [f.nm, x]) D V) = true ∧ ((List.zipWith (fun f x => [f.nm, x]) D V).map ew).flatten = (D.map ewF).flatten ∧
    ∀ st e, plc st D e → e ≤ b.length ∨ D = [] → b.drop st = body (List.zipWith (fun f x => [f.nm, x]) D V) ++ b.drop e
  | [], V, B, b, _, _, hV, _ => by
    subst hV
    refine ⟨rfl, rfl, fun st e hp _ => ?_⟩
    have : e = st := hp
    subst this
    rfl
  | f :: D, V, B, b, hm, ha, hV, hl => by
    rcases cts_cases b f D with h | ⟨x, h, h3, h4⟩
    · rw [h] at hV
      subst hV
      simp at hl
    · rw [h4] at hV
      subst hV
      obtain ⟨m1, m2⟩ := hm f (List.mem_cons_self ..)
      have hx := sl_sz h h3
      obtain ⟨i1, i2, i3⟩ := again_may D (cts b D) f.nm b (fun g hg => hm g (List.mem_cons_of_mem _ hg)) ha.2 rfl (by simpa using hl)
      rw [List.zipWith_cons_cons]
      refine ⟨?_, ?_, fun st e hp he => ?_⟩
      · rw [mayB, okr_two, ha.1]
        show (true && decide (f.nm.length ≤ 100) && decide (x.length ≤ 1000) && mayB f.nm _) = true
        rw [decide_eq_true m1, decide_eq_true (by omega), i1]
        rfl
      · rw [List.map_cons, List.flatten_cons, List.map_cons, List.flatten_cons, i2]
        congr 1
        unfold ewF
        rw [ew, hx]
      · obtain ⟨hp1, hp2⟩ := hp
        subst hp1
        have hle := (plc_le D _ _ hp2).1
        have hD : e ≤ b.length ∨ D = [] := by
          rcases he with he | he
          · exact .inl he
          · cases he
        have e1 := i3 (f.st + f.sz + 4) e hp2 hD
        have e2 : b.drop f.st = sl x ++ b.drop (f.st + f.sz + 4) := by
          have := List.take_append_drop (f.sz + 4) (b.drop f.st)
          rw [List.drop_drop, ← Nat.add_assoc] at this
          rw [← this, ← h3, List.drop_take, show f.st + f.sz + 4 - f.st = f.sz + 4 by omega]
        rw [e2, e1]
        unfold body
        rw [List.map_cons, List.flatten_cons, bw, List.append_assoc]
theorem good_again {b : List UInt8} (h : (scS b).2.2 = 0) : wrS (Tm.all (scS b).1) = (b, 0) := by
  obtain ⟨D, e, hd, hl, he, hs⟩ := scS_inv h
  obtain ⟨x, hb, hx, ha, hp, hD, hm, hle, _⟩ := dir_inv hd
  rw [hs]
  dsimp only
  rw [all_pcs]
  obtain ⟨i1, i2, i3⟩ := again_may D (cts b D) [] b (fun f hf => ⟨(hm f hf).1, (hm f hf).2.1⟩) ha rfl hl
  have hzl : (List.zipWith (fun f x => [f.nm, x]) D (cts b D)).length = D.length := by rw [List.length_zipWith, hl, Nat.min_self]
  have hent : ents (List.zipWith (fun f x => [f.nm, x]) D (cts b D)) = x := by
    unfold ents
    rw [i2, hzl, hx]
  rw [wrS_ok (by rw [hzl]; exact hD) i1]
  congr 1
  unfold wr
  rw [hent]
  have hee : e ≤ b.length ∨ D = [] := by
    rcases D with _ | ⟨f, D⟩
    · exact .inr rfl
    · refine .inl ?_
      have key : ∀ (D : List F) (st e : Nat), plc st D e → D ≠ [] → (cts b D).length = D.length → e ≤ b.length := by
        intro D
        induction D with
        | nil => intro st e _ h; exact absurd rfl h
        | cons g D ih =>
          intro st e hp _ hl
          rcases cts_cases b g D with h | ⟨y, h, h3, h4⟩
          · rw [h] at hl; simp at hl
          · rw [h4] at hl
            obtain ⟨hg1, hp2⟩ := hp
            cases D with
            | nil => have hq : e = st + g.sz + 4 := hp2
                     omega
            | cons g2 D => exact ih _ _ hp2 (by simp) (by simpa using hl)
      exact key _ _ _ hp (by simp) hl
  have e3 := i3 _ _ hp hee
  have hdr : b.drop e = [] := List.drop_eq_nil_iff.2 (by omega)
  rw [hdr, List.append_nil] at e3
  rw [e3] at hb
  rw [List.append_assoc]
  exact hb.symm
end Go.Proofs.Ytdhbfoelpdoofaa.Bm
