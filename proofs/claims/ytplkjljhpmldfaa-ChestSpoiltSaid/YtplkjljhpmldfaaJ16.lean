/-
  Joined: Z2 Z3.
-/
import Derived.Test.YtplkjljhpmldfaaJ15
import Derived.Test.YtplkjljhpmldfaaJ10
/-
  chest.takeEntries: what the call returns and leaves; rows of entries.
-/
namespace Go.Proofs.Ytplkjljhpmldfaa
open Go.RowKit

/-- The cells of entries. -/
def e3 (x : Nat × Nat × Nat) : List Value := [.int .i64 (x.1 : Int), .int .i64 (x.2.1 : Int), .int .i64 (x.2.2 : Int)]
def evs : List (Nat × Nat × Nat) → List Value
  | [] => []
  | x :: X => .int .i64 (x.1 : Int) :: .int .i64 (x.2.1 : Int) :: .int .i64 (x.2.2 : Int) :: evs X
theorem evs_len : ∀ X : List (Nat × Nat × Nat), (evs X).length = X.length * 3
  | [] => rfl
  | x :: X => by simp only [evs, List.length_cons, evs_len X]; omega
theorem evs_app : ∀ X Y : List (Nat × Nat × Nat), evs (X ++ Y) = evs X ++ evs Y
  | [], Y => rfl
  | x :: X, Y => by simp only [List.cons_append, evs, evs_app X Y]
theorem evs_get : ∀ (X : List (Nat × Nat × Nat)) (k : Nat) (x : Nat × Nat × Nat), X[k]? = some x →
    (evs X)[k * 3]? = some (.int .i64 (x.1 : Int)) ∧ (evs X)[k * 3 + 1]? = some (.int .i64 (x.2.1 : Int)) ∧ (evs X)[k * 3 + 2]? = some (.int .i64 (x.2.2 : Int))
  | [], k, x, h => by simp at h
  | y :: X, 0, x, h => by simp at h; subst h; exact ⟨rfl, rfl, rfl⟩
  | y :: X, k + 1, x, h => by
    have ih := evs_get X k x (by simpa using h)
    rw [show (k + 1) * 3 = k * 3 + 3 by omega]
    exact ih
theorem evs_set : ∀ (X : List (Nat × Nat × Nat)) (k : Nat) (x : Nat × Nat × Nat), k < X.length →
    (((evs X).set (k * 3) (.int .i64 (x.1 : Int))).set (k * 3 + 1) (.int .i64 (x.2.1 : Int))).set (k * 3 + 2) (.int .i64 (x.2.2 : Int)) = evs (X.set k x)
  | [], k, x, h => by simp at h
  | y :: X, 0, x, h => rfl
  | y :: X, k + 1, x, h => by
    have ih := evs_set X k x (by simpa using h)
    rw [show (k + 1) * 3 = k * 3 + 3 by omega, List.set_cons_succ]
    simp only [evs]
    rw [← ih]
    rfl
theorem evs_zero : ∀ n : Nat, evs (List.replicate n (0, 0, 0)) = List.replicate (n * 3) (.int .i64 0)
  | 0 => rfl
  | n + 1 => by
    rw [List.replicate_succ, show (n + 1) * 3 = n * 3 + 1 + 1 + 1 by omega, List.replicate_succ, List.replicate_succ, List.replicate_succ, ← evs_zero n]
    rfl
/-- A slice of entries. -/
def Re (w : World) (B : Nat) (A : Option Addr) (n c : Nat) (X : List (Nat × Nat × Nat)) : Prop := Rc 3 w B A n c (evs X)
theorem Re.len {w : World} {B n c : Nat} {A : Option Addr} {X : List (Nat × Nat × Nat)} (h : Re w B A n c X) : X.length = n := by
  have h1 := h.1
  rw [evs_len] at h1
  omega
theorem Re.at_ {w : World} {B n c k : Nat} {A : Option Addr} {X : List (Nat × Nat × Nat)} (h : Re w B A n c X) (hk : k < n) :
    ∃ b off x, A = some ⟨b, off, none⟩ ∧ b < B ∧ X[k]? = some x ∧ w.cell? ⟨b, off + k * 3, none⟩ = some (.int .i64 (x.1 : Int)) ∧ w.cell? ⟨b, off + k * 3 + 1, none⟩ = some (.int .i64 (x.2.1 : Int)) ∧ w.cell? ⟨b, off + k * 3 + 2, none⟩ = some (.int .i64 (x.2.2 : Int)) := by
  have hl := h.len
  obtain ⟨h1, h2, h3, h4⟩ := h
  obtain ⟨b, off, rfl, hb, hc⟩ := h4 (by omega)
  have hx : X[k]? = some X[k] := List.getElem?_eq_getElem (by omega)
  obtain ⟨a1, a2, a3⟩ := evs_get X k _ hx
  exact ⟨b, off, X[k], rfl, hb, hx, hc _ _ a1, by rw [Nat.add_assoc]; exact hc _ _ a2, by rw [Nat.add_assoc]; exact hc _ _ a3⟩
theorem Re.below {w w' : World} {B n c : Nat} {A : Option Addr} {X : List (Nat × Nat × Nat)} (h : Re w B A n c X) (hb : Below B w w') : Re w' B A n c X := Rc.below h hb
theorem Re.more {w : World} {B B' n c : Nat} {A : Option Addr} {X : List (Nat × Nat × Nat)} (h : Re w B A n c X) (hb : B ≤ B') : Re w B' A n c X := Rc.more h hb
theorem Re.nil (w : World) (B : Nat) : Re w B none 0 0 [] := Rc.nil 3 w B

theorem ety : Sl Try.prog 56 65 (.agg #[.int .i64 0, .int .i64 0, .int .i64 0]) 3 24 := ⟨Try.underlying56, by kernel_rfl, rfl, by omega⟩
/-- A row of n cells of nothing. -/
def zent (n : Nat) : Array Value := (List.replicate n (Value.int .i64 0)).toArray
theorem zent_made (N : Nat) : madeCells (Value.agg #[.int .i64 0, .int .i64 0, .int .i64 0]).cells N = zent N := by
  apply Array.toList_inj.1
  apply List.ext_getElem?
  intro j
  have hz : ∀ i, i < 3 → (#[Value.int .i64 0, .int .i64 0, .int .i64 0] : Array Value)[i]! = .int .i64 0 := fun i hi => by
    match i, hi with
    | 0, _ => rfl
    | 1, _ => rfl
    | 2, _ => rfl
  have hc : (Value.agg #[.int .i64 0, .int .i64 0, .int .i64 0]).cells = #[.int .i64 0, .int .i64 0, .int .i64 0] := rfl
  rw [hc]
  by_cases hj : j < N
  · have e := hz (j % 3) (Nat.mod_lt _ (by omega))
    simp only [madeCells, zent, Array.getElem?_toList, Array.getElem?_map, Array.getElem?_range, hj, if_true, Option.map_some, List.getElem?_replicate]
    exact congrArg some e
  · simp [madeCells, zent, hj]
/-- 'make' of n entries. -/
theorem make_ents (w : World) (n : Nat) (L : Int) (hL : L = (n : Int)) (hn : n ≤ 100000) :
    (Instr.makeSlice 56 (.int .i64 L) (.int .i64 L)).run Try.prog w = .ok (.slice (some ⟨w.heap.size, 0, none⟩) n n) (w.alloc (.cells (zent (n * 3)) 65)) := by
  subst hL
  obtain ⟨i, hi, hz0, hz1, hz2⟩ := info_parts ety.inf
  have h := run_make (P := Try.prog) w 56 65 i _ Try.underlying56 hi hz0 .i64 .i64 (n : Int) (n : Int) (by omega) (by omega) (by rw [hz2]; omega) (by omega)
  simp only [Int.toNat_natCast, hz1, zent_made] at h
  exact h

/-- What takeEntries comes to. -/
def RetTe (w : World) (t : Option (List (Nat × Nat))) (e : Ending) (w' : World) : Prop :=
  Below w.heap.size w w' ∧ match t with
  | some L => ∃ A c, e = .returned (.tuple #[.slice A L.length c, .bool true]) ∧ Re w' w'.heap.size A L.length c (Hm.plc 0 L)
  | none => e = .returned (.tuple #[.slice none 0 0, .bool false])

/-- So many entries have been read. -/
def Ens (m : Nat) (T : List UInt8) (k : Nat) (D : List (Nat × Nat)) (R : List UInt8) : Prop := Hm.ents m T = (Hm.ents (m - k) R).map fun q => (D ++ q.1, q.2)
theorem Ens.start (m : Nat) (T : List UInt8) : Ens m T 0 [] T := by
  unfold Ens
  rw [Nat.sub_zero]
  cases Hm.ents m T with
  | none => rfl
  | some p => rfl
theorem Ens.step {m k : Nat} {T R S : List UInt8} {D : List (Nat × Nat)} {x : Nat × Nat} (h : Ens m T k D R) (hk : k < m) (hf : Hm.ent1 R = some (x, S)) : Ens m T (k + 1) (D ++ [x]) S := by
  unfold Ens at h ⊢
  obtain ⟨j, hj⟩ : ∃ j, m - k = j + 1 := ⟨m - k - 1, by omega⟩
  have hj2 : m - (k + 1) = j := by omega
  rw [h, hj, hj2, Hm.ents, hf, Option.bind_some]
  cases Hm.ents j S with
  | none => rfl
  | some p => simp
theorem Ens.err {m k : Nat} {T R : List UInt8} {D : List (Nat × Nat)} (h : Ens m T k D R) (hk : k < m) (hf : Hm.ent1 R = none) : Hm.ents m T = none := by
  unfold Ens at h
  obtain ⟨j, hj⟩ : ∃ j, m - k = j + 1 := ⟨m - k - 1, by omega⟩
  rw [h, hj, Hm.ents, hf]
  rfl
theorem Ens.end_ {m : Nat} {T R : List UInt8} {D : List (Nat × Nat)} (h : Ens m T m D R) : Hm.ents m T = some (D, R) := by
  unfold Ens at h
  rw [h, Nat.sub_self]
  simp [Hm.ents]
theorem plc_app : ∀ (D : List (Nat × Nat)) (a : Nat) (x : Nat × Nat), Hm.plc a (D ++ [x]) = Hm.plc a D ++ [(a + Hm.tot D, x.1, x.2)]
  | [], a, x => by simp [Hm.plc, Hm.tot]
  | y :: D, a, x => by
    rw [List.cons_append, Hm.plc, Hm.plc, plc_app D, Hm.tot_cons, List.cons_append, Nat.add_assoc]
/-- The row under way. -/
def ents0 (D : List (Nat × Nat)) (j : Nat) : List (Nat × Nat × Nat) := Hm.plc 0 D ++ List.replicate j (0, 0, 0)
theorem ents0_len (D : List (Nat × Nat)) (j : Nat) : (ents0 D j).length = D.length + j := by simp [ents0, Hm.plc_len]
theorem ents0_old (D : List (Nat × Nat)) (j : Nat) : (ents0 D (j + 1))[D.length]? = some (0, 0, 0) := by
  unfold ents0
  rw [List.getElem?_append_right (by rw [Hm.plc_len]; omega), Hm.plc_len, Nat.sub_self]
  rfl
theorem ents0_set (D : List (Nat × Nat)) (j : Nat) (x : Nat × Nat) : (ents0 D (j + 1)).set D.length (Hm.tot D, x.1, x.2) = ents0 (D ++ [x]) j := by
  unfold ents0
  rw [plc_app, List.set_append_right _ _ (by rw [Hm.plc_len]; omega), Hm.plc_len, Nat.sub_self, List.replicate_succ, List.set_cons_zero, Nat.zero_add, List.append_assoc]
  rfl
theorem ent1_len {l r : List UInt8} {x : Nat × Nat} (h : Hm.ent1 l = some (x, r)) : r.length ≤ l.length ∧ 1 ≤ x.1 ∧ x.1 ≤ 20000 ∧ x.2 ≤ 5000 := by
  obtain ⟨u, hu, h3⟩ := Option.bind_eq_some_iff.1 h
  obtain ⟨v, hv, e⟩ := Option.map_eq_some_iff.1 h3
  obtain ⟨a1, a2, a3⟩ := num_len (a := u.1) (r := u.2) hu
  obtain ⟨b1, b2, b3⟩ := num_len (a := v.1) (r := v.2) hv
  injection e with e1 e2
  subst e1 e2
  exact ⟨by omega, a2, a3, b3⟩
theorem put3_k (w : World) (g i : Nat) (u0 u1 u2 v0 v1 v2 : Value) (c0 : w.cell? ⟨g, i, none⟩ = some u0) (c1 : w.cell? ⟨g, i + 1, none⟩ = some u1) (c2 : w.cell? ⟨g, i + 2, none⟩ = some u2) (w' : World)
    (h : w' = ((w.setCell ⟨g, i, none⟩ v0).setCell ⟨g, i + 1, none⟩ v1).setCell ⟨g, i + 2, none⟩ v2) :
    w'.cell? ⟨g, i, none⟩ = some v0 ∧ w'.cell? ⟨g, i + 1, none⟩ = some v1 ∧ w'.cell? ⟨g, i + 2, none⟩ = some v2 := by
  subst h
  have o : ∀ (W : World) (i j : Nat) (u : Value), i ≠ j → (W.setCell ⟨g, i, none⟩ u).cell? ⟨g, j, none⟩ = W.cell? ⟨g, j, none⟩ := fun W i j u hij => World.cell?_setCell_other W _ _ _ (by simp)
  have s : ∀ (W : World) (i : Nat) (u v : Value), W.cell? ⟨g, i, none⟩ = some v → (W.setCell ⟨g, i, none⟩ u).cell? ⟨g, i, none⟩ = some u := fun W i u v h => World.cell?_setCell_same W _ _ h
  refine ⟨?_, ?_, ?_⟩
  · rw [o _ (i + 2) i _ (by omega), o _ (i + 1) i _ (by omega)]; exact s _ i _ _ c0
  · rw [o _ (i + 2) (i + 1) _ (by omega)]; exact s _ (i + 1) _ u1 (by rw [o _ i (i + 1) _ (by omega)]; exact c1)
  · exact s _ (i + 2) _ u2 (by rw [o _ (i + 1) (i + 2) _ (by omega), o _ i (i + 2) _ (by omega)]; exact c2)
theorem ents_set_row {w : World} {e : TypeId} {base g n c : Nat} {X : List (Nat × Nat × Nat)} {k : Nat} (h : Oc 3 w e base (some ⟨g, 0, none⟩) n c (evs X)) (hk : k < X.length) (x : Nat × Nat × Nat) (w' : World)
    (hw : w' = ((w.setCell ⟨g, k * 3, none⟩ (.int .i64 (x.1 : Int))).setCell ⟨g, k * 3 + 1, none⟩ (.int .i64 (x.2.1 : Int))).setCell ⟨g, k * 3 + 2, none⟩ (.int .i64 (x.2.2 : Int))) :
    Oc 3 w' e base (some ⟨g, 0, none⟩) n c (evs (X.set k x)) := by
  subst hw
  have h1 := (World.ownsRow.stored h (k * 3) (.int .i64 (x.1 : Int))).1
  have h2 := (World.ownsRow.stored h1 (k * 3 + 1) (.int .i64 (x.2.1 : Int))).1
  have h3 := (World.ownsRow.stored h2 (k * 3 + 2) (.int .i64 (x.2.2 : Int))).1
  rw [evs_set X k x hk] at h3
  exact h3
def TeRel (B base : Nat) (w : World) (g m : Nat) (T : List UInt8) (r a i : Value) (wr : World) : Prop :=
  ∃ E d R D, ∃ k : Nat, r = .slice E R.length d ∧ a = .int .i64 ((Hm.tot D : Nat) : Int) ∧ i = .int .i64 (k : Int) ∧ k ≤ m ∧ D.length = k ∧ Hm.tot D ≤ 20000 * k ∧ Rb wr B E R.length d R ∧ R.length ≤ 1000000 ∧
    Oc 3 wr 65 base (some ⟨g, 0, none⟩) m m (evs (ents0 D (m - k))) ∧ Ens m T k D R ∧ Below base w wr

set_option maxRecDepth 100000 in
set_option maxHeartbeats 2000000 in
/-- takeEntries -/
theorem takeEntries_c (A : Option Addr) (n c B M : Nat) (l : List UInt8) (w : World) (hr : Rb w B A n c l) (hB : B ≤ w.heap.size) (hn : n ≤ 1000000) :
    Calls Try.prog 61 #[.slice A n c, .int .i64 (M : Int)] w (RetTe w (Hm.idx l M)) := by
  have hl := hr.len
  rcases h1 : Hm.num 0 5000 l with _ | ⟨m, T⟩
  · rw [show Hm.idx l M = none by unfold Hm.idx; rw [h1]; rfl]
    have Hr := Lib.hid hr; have H1 := Lib.hid h1; clear hr h1 hl
    go_enter Try.func61, Try.ntmps61
    go_wp2_with fail
    refine (cnumber_err A n c B l 0 5000 0 5000 w Hr.out hB hn rfl rfl (by omega) H1.out).mono ?_
    rintro e w1 ⟨rfl, hb1⟩
    go_wp2
    go_ret2
    exact ⟨hb1, rfl⟩
  · obtain ⟨hT, _, hm⟩ := num_len h1
    have hi : Hm.idx l M = (Hm.ents m T).bind fun q => if q.2 = [] ∧ Hm.tot q.1 = M then some q.1 else none := by unfold Hm.idx; rw [h1]; rfl
    rw [hi]
    have hTl : T.length ≤ 1000000 := by omega
    have hmk := fun w => make_ents w m (m : Int) rfl (by omega)
    have Hr := Lib.hid hr; have H1 := Lib.hid h1; clear hr h1 hl hi hT
    go_enter Try.func61, Try.ntmps61
    go_wp2_with fail
    refine (cnumber_ok A n c B l 0 5000 0 5000 m T w Hr.out hB hn rfl rfl (by omega) H1.out).mono ?_
    rintro e w1 ⟨E, d, rfl, hrE, hb1⟩
    have z1 := hb1.size
    have HrE := Lib.hid hrE; clear hrE
    go_wp2
    go_loopw [0, 9, 23] (fun r a i wr => TeRel B w1.heap.size w1 w1.heap.size m T r a i wr) (fun _ _ i _ => m - (intOf i).toNat)
    case atStart =>
      refine ⟨E, d, T, [], 0, rfl, rfl, rfl, Nat.zero_le _, rfl, Nat.zero_le _, HrE.out.alloc (by omega) _, hTl, ?_, Ens.start m T, (Below.refl _ _).alloc (Nat.le_refl _) _⟩
      have h := Oc.lit (z := 3) w1 65 (zent (m * 3)) m (by simp [zent]) (by simp [maxLen]; omega)
      have e : (zent (m * 3)).toList = evs (ents0 [] (m - 0)) := by
        show _ = evs ([] ++ List.replicate m (0, 0, 0))
        rw [List.nil_append, evs_zero]
        simp [zent]
      rw [e] at h
      exact h
    case round =>
      obtain ⟨E3, d3, R, D, k, rfl, rfl, rfl, hk, hdk, htk, hr3, hRl, hrow, hst, hbel3⟩ := hrel
      have z3 := hbel3.size
      clear hmk
      by_cases hlt : k < m
      · rcases hf : Hm.ent1 R with _ | ⟨x, S⟩
        · have Hf := Lib.hid (hst.err hlt hf)
          have hc := fun W (hW : Rb W B E3 R.length d3 R) hBW => takeEntry_c E3 R.length d3 B (Hm.tot D) R W hW hBW hRl
          rw [hf] at hc
          have Hc := Lib.hid hc; have Hr3 := Lib.hid hr3; have Hrow := Lib.hid hrow; have Hdk := Lib.hid hdk; clear hst hf hr3 hrow hdk hc
          go_wp2_with fail
          refine (Hc.out wr Hr3.out (by omega)).mono ?_
          rintro e w4 ⟨hb4, rfl⟩
          have hrow4 := Oc.keep Hrow.out hb4
          unfold ev
          obtain ⟨j, hj⟩ : ∃ j, m - k = j + 1 := ⟨m - k - 1, by omega⟩
          obtain ⟨a1, a2, a3⟩ := evs_get _ _ _ (ents0_old D j)
          rw [← hj, Hdk.out] at a1 a2 a3
          have c0 : w4.cell? ⟨w1.heap.size, k * 3, none⟩ = some (.int .i64 0) := by rw [World.ownsRow.cellAt hrow4 _ (by omega)]; exact a1
          have c1 : w4.cell? ⟨w1.heap.size, k * 3 + 1, none⟩ = some (.int .i64 0) := by rw [World.ownsRow.cellAt hrow4 _ (by omega)]; exact a2
          have c2 : w4.cell? ⟨w1.heap.size, k * 3 + 2, none⟩ = some (.int .i64 0) := by rw [World.ownsRow.cellAt hrow4 _ (by omega)]; exact a3
          have f0 := World.ownsRow.frozenAt hrow4 (k * 3)
          have f1 := World.ownsRow.frozenAt hrow4 (k * 3 + 1)
          have f2 := World.ownsRow.frozenAt hrow4 (k * 3 + 2)
          have z4 := hb4.size
          have bz : Below w.heap.size w w4 := (hb1.trans (hbel3.mono z1)).trans (hb4.mono (by omega))
          clear hrow4 a1 a2 a3 hj
          go_wp2
          go_ret2
          rw [Hf.out]
          exact ⟨((bz.setCell (by simpa using z1) _).setCell (by simpa using z1) _).setCell (by simpa using z1) _, rfl⟩
        · obtain ⟨hSl, hx1, hx2, hx3⟩ := ent1_len hf
          have hst' := hst.step hlt hf
          have hc : ∀ W, Rb W B E3 R.length d3 R → B ≤ W.heap.size → Calls Try.prog 81 #[.slice E3 R.length d3, .int .i64 ((Hm.tot D : Nat) : Int)] W fun e w' => Below W.heap.size W w' ∧ ∃ A c, e = .returned (.tuple #[.agg #[.int .i64 ((Hm.tot D : Nat) : Int), .int .i64 (x.1 : Int), .int .i64 (x.2 : Int)], .slice A S.length c, .bool true]) ∧ Rb w' B A S.length c S := fun W hW hBW => by
            have h := takeEntry_c E3 R.length d3 B (Hm.tot D) R W hW hBW hRl
            rw [hf] at h
            exact h
          have hten : ∀ W, Calls Try.prog 43 #[.agg #[.int .i64 ((Hm.tot D : Nat) : Int), .int .i64 (x.1 : Int), .int .i64 (x.2 : Int)]] W fun e w' => e = .returned (.int .i64 ((Hm.tot (D ++ [x]) : Nat) : Int)) ∧ Below W.heap.size W w' := fun W => by
            have h := end_c (Hm.tot D) x.1 x.2 _ W rfl (by omega)
            rw [show Hm.tot D + x.1 = Hm.tot (D ++ [x]) by rw [Hm.tot_app, Hm.tot_cons, Hm.tot_nil, Nat.add_zero]] at h
            exact h
          have htk' : Hm.tot (D ++ [x]) ≤ 20000 * (k + 1) := by rw [Hm.tot_app, Hm.tot_cons, Hm.tot_nil]; omega
          have hS2 : S.length ≤ 1000000 := by omega
          have Hst := Lib.hid hst'; have Hten := Lib.hid hten; have Htk := Lib.hid htk'
          have Hc := Lib.hid hc; have Hr3 := Lib.hid hr3; have Hrow := Lib.hid hrow; have Hdk := Lib.hid hdk; clear hst hst' hf hr3 hrow hdk hc hten htk htk' hSl hx1 hx2 hx3
          go_wp2_with fail
          refine (Hc.out wr Hr3.out (by omega)).mono ?_
          rintro e w4 ⟨hb4, E4, d4, rfl, hr4⟩
          have hrow4 := Oc.keep Hrow.out hb4
          obtain ⟨j, hj⟩ : ∃ j, m - k = j + 1 := ⟨m - k - 1, by omega⟩
          obtain ⟨a1, a2, a3⟩ := evs_get _ _ _ (ents0_old D j)
          rw [← hj, Hdk.out] at a1 a2 a3
          have c0 : w4.cell? ⟨w1.heap.size, k * 3, none⟩ = some (.int .i64 0) := by rw [World.ownsRow.cellAt hrow4 _ (by omega)]; exact a1
          have c1 : w4.cell? ⟨w1.heap.size, k * 3 + 1, none⟩ = some (.int .i64 0) := by rw [World.ownsRow.cellAt hrow4 _ (by omega)]; exact a2
          have c2 : w4.cell? ⟨w1.heap.size, k * 3 + 2, none⟩ = some (.int .i64 0) := by rw [World.ownsRow.cellAt hrow4 _ (by omega)]; exact a3
          have f0 := World.ownsRow.frozenAt hrow4 (k * 3)
          have f1 := World.ownsRow.frozenAt hrow4 (k * 3 + 1)
          have f2 := World.ownsRow.frozenAt hrow4 (k * 3 + 2)
          have z4 := hb4.size
          obtain ⟨w5, h5⟩ : ∃ w5, w5 = ((w4.setCell ⟨w1.heap.size, k * 3, none⟩ (.int .i64 ((Hm.tot D : Nat) : Int))).setCell ⟨w1.heap.size, k * 3 + 1, none⟩ (.int .i64 (x.1 : Int))).setCell ⟨w1.heap.size, k * 3 + 2, none⟩ (.int .i64 (x.2 : Int)) := ⟨_, rfl⟩
          obtain ⟨g0, g1, g2⟩ := put3_k w4 _ _ _ _ _ _ _ _ c0 c1 c2 w5 h5
          have hrow5 := ents_set_row hrow4 (k := k) (by rw [ents0_len]; have := Hdk.out; omega) (Hm.tot D, x.1, x.2) w5 h5
          rw [hj, ← Hdk.out, ents0_set D j x] at hrow5
          have b5 : Below w1.heap.size w1 w5 := by
            rw [h5]
            exact (((hbel3.trans (hb4.mono z3)).setCell (Nat.le_refl _) _).setCell (Nat.le_refl _) _).setCell (Nat.le_refl _) _
          have hr5 : Rb w5 B E4 S.length d4 S := by
            have hB1 : B ≤ w1.heap.size := by omega
            rw [h5]
            exact ((hr4.setCell hB1 _).setCell hB1 _).setCell hB1 _
          have z5 := b5.size
          rw [show j = m - (k + 1) by omega] at hrow5
          have Hrow5 := Lib.hid hrow5; have Hr5 := Lib.hid hr5
          clear hrow4 a1 a2 a3 hj hrow5 hr5 hr4
          go_wp2_with fail
          rw [← h5]
          clear h5 c0 c1 c2 f0 f1 f2
          go_wp2_with fail
          refine (Hten.out w5).mono ?_
          rintro e w6 ⟨rfl, hb6⟩
          have hr6 := Hr5.out.below (hb6.mono (by omega))
          have hrow6 := Hrow5.out.keep hb6
          have Hr6 := Lib.hid hr6; have Hrow6 := Lib.hid hrow6; clear hr6 hrow6
          go_wp2
          go_roundw
          case rel => exact ⟨E4, d4, S, D ++ [x], k + 1, rfl, rfl, by go_num, by omega, by rw [List.length_append, Hdk.out]; rfl, Htk.out, Hr6.out, hS2, Hrow6.out, Hst.out, b5.trans (hb6.mono z5)⟩
          case measure => simp [intOf]; omega
      · have hkm : k = m := by omega
        subst hkm
        have he := hst.end_
        rw [Nat.sub_self] at hrow
        have e0 : ents0 D 0 = Hm.plc 0 D := by simp [ents0]
        rw [e0] at hrow
        have hrl := hr3.len
        have hre : Re wr wr.heap.size (some ⟨w1.heap.size, 0, none⟩) k k (Hm.plc 0 D) := Oc.rc hrow
        have bz : Below w.heap.size w wr := hb1.trans (hbel3.mono z1)
        have ht2 : Hm.tot D ≤ 100000000 := by omega
        by_cases hR : R = []
        · by_cases hM : Hm.tot D = M
          · have Hres : Hid (((Hm.ents k T).bind fun q => if q.2 = [] ∧ Hm.tot q.1 = M then some q.1 else none) = some D) := Lib.hid (by rw [he, Option.bind_some, if_pos ⟨hR, hM⟩])
            have d1 : R.length = 0 := by rw [hR]; rfl
            rw [d1]
            have d2 : (((Hm.tot D : Nat) : Int) == (M : Int)) = true := by simp; omega
            have Hre := Lib.hid hre; have Hdk := Lib.hid hdk; clear hrow hre hst he hr3 e0 hdk hR hM d1 hrl
            go_wp2
            go_ret2
            rw [Hres.out]
            refine ⟨bz, ?_⟩
            show ∃ A c, _ ∧ Re wr wr.heap.size A D.length c (Hm.plc 0 D)
            rw [Hdk.out]
            exact ⟨_, _, rfl, Hre.out⟩
          · have Hres : Hid (((Hm.ents k T).bind fun q => if q.2 = [] ∧ Hm.tot q.1 = M then some q.1 else none) = none) := Lib.hid (by rw [he, Option.bind_some, if_neg fun h => hM h.2])
            have d1 : R.length = 0 := by rw [hR]; rfl
            rw [d1]
            have d2 : (((Hm.tot D : Nat) : Int) == (M : Int)) = false := by simp; omega
            clear hrow hre hst he hr3 e0 hdk hR hM d1 hrl
            go_wp2
            go_ret2
            rw [Hres.out]
            exact ⟨bz, rfl⟩
        · have Hres : Hid (((Hm.ents k T).bind fun q => if q.2 = [] ∧ Hm.tot q.1 = M then some q.1 else none) = none) := Lib.hid (by rw [he, Option.bind_some, if_neg fun h => hR h.1])
          have hp := List.length_pos_iff.2 hR
          obtain ⟨q, hq⟩ : ∃ q, R.length = q := ⟨_, rfl⟩
          rw [hq] at hp hRl ⊢
          have d1 : decide ((0 : Int) < (q : Int)) = true := by simp; omega
          clear hrow hre hst he hr3 e0 hdk hR hrl hq
          go_wp2
          go_ret2
          rw [Hres.out]
          exact ⟨bz, rfl⟩
end Go.Proofs.Ytplkjljhpmldfaa

/-
  bytes.Equal, bytes.HasSuffix, bytes.CutSuffix: what each call returns and leaves.
-/
namespace Go.Proofs.Ytplkjljhpmldfaa
open Go.RowKit

theorem mk_ne {l r : List UInt8} (h : l ≠ r) : (⟨l.toArray⟩ : ByteArray) ≠ ⟨r.toArray⟩ := fun e => h (by injection e with e; injection e)
set_option maxRecDepth 100000 in
/-- bytes.Equal -/
theorem equal_c (A D : Option Addr) (n c m d B B' : Nat) (l r : List UInt8) (w : World) (h1 : Rb w B A n c l) (h2 : Rb w B' D m d r) (o : Bool) (ho : o = (l == r)) :
    Calls Try.prog 38 #[.slice A n c, .slice D m d] w fun e w' => e = .returned (.bool o) ∧ w = w' := by
  have cv1 := bty.conv h1
  have cv2 := bty.conv h2
  clear h1 h2
  by_cases h : l = r
  · subst h
    obtain rfl : o = true := by rw [ho]; simp
    clear ho
    go_enter Try.func38, Try.ntmps38
    go_wp2
    go_ret
    exact ⟨rfl, rfl⟩
  · obtain rfl : o = false := by rw [ho]; simpa using h
    clear ho
    go_enter Try.func38, Try.ntmps38
    go_wp2
    go_ret
    exact ⟨by first | rfl | simp [h], rfl⟩



set_option maxRecDepth 100000 in
/-- bytes.HasSuffix -/
theorem hass_c (A D : Option Addr) (n c k d B B' : Nat) (l r : List UInt8) (w : World) (h1 : Rb w B A n c l) (h2 : Rb w B' D k d r) (hn : n ≤ 1000000) (hk : k ≤ 1000000) (o : Bool) (ho : o = (decide (k ≤ n) && decide (l.drop (n - k) = r))) :
    Calls Try.prog 79 #[.slice A n c, .slice D k d] w fun e w' => e = .returned (.bool o) ∧ w = w' := by
  by_cases h : k ≤ n
  · obtain ⟨m, hm⟩ : ∃ m, m = n - k := ⟨_, rfl⟩
    rw [← hm] at ho
    obtain ⟨E, hE, hrE⟩ := bty.from_ h1 (k := m) (by omega) (m : Int) rfl
    have hnm : n - m = k := by omega
    rw [hnm] at hrE
    rw [hnm] at hE
    have he := equal_c E D k (c - m) k d B B' (l.drop m) r w hrE h2 o (by rw [ho, Bool.eq_iff_iff]; simp [h])
    have H := Lib.hid he
    have hle : (k : Int) ≤ (n : Int) := by omega
    have e1 : IntKind.i64.wrap ((n : Int) - (k : Int)) = (m : Int) := by rw [IntWalk.i64_in _ (by omega)]; omega
    have e2 : ((n : Int) - (k : Int)) = (m : Int) := by omega
    clear he hrE h1 h2 ho hm hnm h hk
    go_enter Try.func79, Try.ntmps79
    go_wp2_with fail
    refine H.out.mono ?_
    rintro e w' ⟨rfl, rfl⟩
    go_wp2
    go_ret
    exact ⟨rfl, rfl⟩
  · obtain rfl : o = false := by
      rw [ho]
      simp [h]
    have hle : ¬ (k : Int) ≤ (n : Int) := by omega
    clear ho h1 h2 h
    go_enter Try.func79, Try.ntmps79
    go_wp2
    go_ret
    exact ⟨rfl, rfl⟩

set_option maxRecDepth 100000 in
/-- bytes.CutSuffix where the end is there -/
theorem cuts_yes (A D : Option Addr) (n c k d B B' : Nat) (l r : List UInt8) (w : World) (h1 : Rb w B A n c l) (h2 : Rb w B' D k d r) (hn : n ≤ 1000000) (hk : k ≤ n) (ho : l.drop (n - k) = r) :
    Calls Try.prog 58 #[.slice A n c, .slice D k d] w fun e w' => (∃ E, e = .returned (.tuple #[.slice E (n - k) c, .bool true]) ∧ Rb w B E (n - k) c (l.take (n - k))) ∧ w = w' := by
  have H := Lib.hid (hass_c A D n c k d B B' l r w h1 h2 hn (by omega) true (by rw [ho]; simp [hk]))
  obtain ⟨m, hm⟩ : ∃ m, m = n - k := ⟨_, rfl⟩
  rw [← hm]
  obtain ⟨E, hE, hrE⟩ := bty.upto_ h1 (k := m) (by omega) (m : Int) rfl
  have e1 : IntKind.i64.wrap ((n : Int) - (k : Int)) = (m : Int) := by rw [IntWalk.i64_in _ (by omega)]; omega
  have e2 : ((n : Int) - (k : Int)) = (m : Int) := by omega
  have HrE := Lib.hid hrE
  clear h1 h2 ho hrE hm hk
  go_enter Try.func58, Try.ntmps58
  go_wp2_with fail
  refine H.out.mono ?_
  rintro e w' ⟨rfl, rfl⟩
  go_wp2
  go_ret2
  exact ⟨⟨E, rfl, HrE.out⟩, rfl⟩

set_option maxRecDepth 100000 in
/-- bytes.CutSuffix where it is not -/
theorem cuts_no (A D : Option Addr) (n c k d B B' : Nat) (l r : List UInt8) (w : World) (h1 : Rb w B A n c l) (h2 : Rb w B' D k d r) (hn : n ≤ 1000000) (hk : k ≤ 1000000) (ho : ¬ (k ≤ n ∧ l.drop (n - k) = r)) :
    Calls Try.prog 58 #[.slice A n c, .slice D k d] w fun e w' => e = .returned (.tuple #[.slice A n c, .bool false]) ∧ w = w' := by
  have H := Lib.hid (hass_c A D n c k d B B' l r w h1 h2 hn hk false (by
    cases h : (decide (k ≤ n) && decide (l.drop (n - k) = r)) with
    | false => rfl
    | true => simp at h; exact absurd h ho))
  clear h1 h2 ho hk
  go_enter Try.func58, Try.ntmps58
  go_wp2_with fail
  refine H.out.mono ?_
  rintro e w' ⟨rfl, rfl⟩
  go_wp2
  go_ret2
  exact ⟨rfl, rfl⟩
end Go.Proofs.Ytplkjljhpmldfaa
