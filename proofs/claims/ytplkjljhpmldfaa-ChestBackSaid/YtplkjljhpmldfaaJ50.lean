/-
  Joined: Zk.
-/
import Derived.Test.YtplkjljhpmldfaaJ38
import Derived.Test.YtplkjljhpmldfaaJ34
/-
  chest.Index: what the call returns and leaves.
-/
namespace Go.Proofs.Ytplkjljhpmldfaa
open Go.RowKit

theorem ints_made (N : Nat) : madeCells (Value.int .i64 0).cells N = zent N := by
  apply Array.toList_inj.1
  apply List.ext_getElem?
  intro j
  have hc : (Value.int .i64 0).cells = #[.int .i64 0] := rfl
  rw [hc]
  by_cases hj : j < N
  · simp [madeCells, zent, hj, Nat.mod_one]
  · simp [madeCells, zent, hj]
/-- 'make' of n numbers. -/
theorem make_ints (w : World) (n : Nat) (L : Int) (hL : L = (n : Int)) (hn : n ≤ 100000) :
    (Instr.makeSlice 37 (.int .i64 L) (.int .i64 L)).run Try.prog w = .ok (.slice (some ⟨w.heap.size, 0, none⟩) n n) (w.alloc (.cells (zent n) 3)) := by
  subst hL
  obtain ⟨i, hi, hz0, hz1, hz2⟩ := info_parts ity.inf
  have h := run_make (P := Try.prog) w 37 3 i _ Try.underlying37 hi hz0 .i64 .i64 (n : Int) (n : Int) (by omega) (by omega) (by rw [hz2]; omega) (by omega)
  simp only [Int.toNat_natCast, hz1, Nat.mul_one, ints_made] at h
  exact h
/-- A row under way. -/
def rowU (Z : List Int) (k N : Nat) : List Int := Z.take k ++ List.replicate (N - k) 0
theorem rowU_zero (Z : List Int) (N : Nat) : ivs (rowU Z 0 N) = List.replicate N (.int .i64 0) := by simp [rowU, ivs]
theorem rowU_all {Z : List Int} {N : Nat} (h : Z.length = N) : rowU Z N N = Z := by
  unfold rowU
  rw [List.take_of_length_le (by omega), Nat.sub_self, List.replicate_zero, List.append_nil]
theorem rowU_old {Z : List Int} {k N : Nat} (h : Z.length = N) (hk : k < N) : (ivs (rowU Z k N))[k]? = some (.int .i64 0) := by
  obtain ⟨j, hj⟩ : ∃ j, N - k = j + 1 := ⟨N - k - 1, by omega⟩
  refine ivs_get _ _ _ ?_
  unfold rowU
  rw [List.getElem?_append_right (by rw [List.length_take]; omega), List.length_take, Nat.min_eq_left (by omega), Nat.sub_self, hj]
  rfl
theorem rowU_set {Z : List Int} {k N : Nat} {x : Int} (h : Z.length = N) (hk : Z[k]? = some x) : (ivs (rowU Z k N)).set k (.int .i64 x) = ivs (rowU Z (k + 1) N) := by
  obtain ⟨hk1, rfl⟩ := List.getElem?_eq_some_iff.1 hk
  obtain ⟨j, hj⟩ : ∃ j, N - k = j + 1 := ⟨N - k - 1, by omega⟩
  unfold rowU ivs
  rw [show N - (k + 1) = j by omega, hj, List.take_succ_eq_append_getElem hk1, List.replicate_succ]
  simp only [List.map_append, List.map_cons, List.map_nil, List.append_assoc]
  rw [List.set_append_right _ _ (by rw [List.length_map, List.length_take]; omega), List.length_map, List.length_take, Nat.min_eq_left (by omega), Nat.sub_self]
  rfl
theorem zent_toList (n : Nat) : (zent n).toList = List.replicate n (.int .i64 0) := by simp [zent]
/-- Places, numbers. -/
def zsA (X : List (Nat × Nat × Nat)) : List Int := X.map fun x => (x.1 : Int)
def zsC (X : List (Nat × Nat × Nat)) : List Int := X.map fun x => (x.2.2 : Int)
/-- What Index comes to. -/
def RetId (w : World) (t : Option (List (Nat × Nat))) (e : Ending) (w' : World) : Prop :=
  Below w.heap.size w w' ∧ match t with
  | some L => ∃ A c D d, e = .returned (.tuple #[.slice A L.length c, .slice D L.length d, .int .i64 0]) ∧ Rc 1 w' w'.heap.size A L.length c (ivs (zsA (Hm.plc 0 L))) ∧ Rc 1 w' w'.heap.size D L.length d (ivs (zsC (Hm.plc 0 L)))
  | none => e = .returned (.tuple #[.slice none 0 0, .slice none 0 0, .int .i64 3])
def IdRel (base : Nat) (w : World) (X : List (Nat × Nat × Nat)) (N : Nat) (i : Value) (wr : World) : Prop :=
  ∃ k : Nat, i = .int .i64 (k : Int) ∧ k ≤ N ∧ Oc 1 wr 3 base (some ⟨base, 0, none⟩) N N (ivs (rowU (zsA X) k N)) ∧ Oc 1 wr 3 base (some ⟨base + 1, 0, none⟩) N N (ivs (rowU (zsC X) k N)) ∧ base + 2 ≤ wr.heap.size ∧ Below base w wr

set_option maxRecDepth 100000 in
set_option maxHeartbeats 4000000 in
/-- Index -/
theorem index_c (A : Option Addr) (n c : Nat) (l : List UInt8) (w : World) (hr : Rb w w.heap.size A n c l) (hn : n ≤ 900000) :
    Calls Try.prog 19 #[.slice A n c] w (RetId w (Hm.ix l)) := by
  have hix := fun (At : Option Addr) (W : World) (hT : Rn W W.heap.size At 256 256 Cm.tab) (hW : Rb W W.heap.size A n c l) => indexOf_c At A 256 n c l W hT hW hn
  have Hr := Lib.hid hr; have Hix := Lib.hid hix
  clear hr hix
  rcases hI : Hm.ix l with _ | L
  · have HI := Lib.hid hI
    clear hI
    go_enter Try.func19, Try.ntmps19
    go_wp2_with fail
    refine (table_c w).mono ?_
    rintro e w1 ⟨rfl, hT, hb1, hz1⟩
    have hr1 := (Hr.out.below hb1).more hb1.size
    have HT := Lib.hid hT; have Hr1 := Lib.hid hr1
    clear hT hr1
    go_wp2_with fail
    refine (Hix.out _ _ HT.out Hr1.out).mono ?_
    rw [HI.out]
    rintro e w2 ⟨hb2, rfl⟩
    go_wp2
    go_ret3
    exact ⟨hb1.trans (hb2.mono hb1.size), rfl⟩
  · obtain ⟨hL5, htot, hok⟩ := Hm.ix_inv hI
    obtain ⟨X, hX⟩ : ∃ X, X = Hm.plc 0 L := ⟨_, rfl⟩
    have hXl : X.length = L.length := by rw [hX, Hm.plc_len]
    obtain ⟨N, hNX⟩ : ∃ N, X.length = N := ⟨_, rfl⟩
    rw [← hXl, hNX] at hL5
    rw [hNX] at hXl
    have hA : (zsA X).length = N := by unfold zsA; rw [List.length_map, hNX]
    have hC : (zsC X).length = N := by unfold zsC; rw [List.length_map, hNX]
    have HI := Lib.hid hI; have HX := Lib.hid hX; have HNX := Lib.hid hNX; have HXl := Lib.hid hXl.symm; have HA := Lib.hid hA; have HC := Lib.hid hC
    have hmk := fun W => make_ints W N (N : Int) rfl (by omega)
    clear hI htot hok hX hXl hNX hA hC
    go_enter Try.func19, Try.ntmps19
    go_wp2_with fail
    refine (table_c w).mono ?_
    rintro e w1 ⟨rfl, hT, hb1, hz1⟩
    have hr1 := (Hr.out.below hb1).more hb1.size
    have HT := Lib.hid hT; have Hr1 := Lib.hid hr1
    clear hT hr1
    go_wp2_with fail
    refine (Hix.out _ _ HT.out Hr1.out).mono ?_
    rw [HI.out]
    rintro e w2 ⟨hb2, A2, c2, rfl, hre⟩
    rw [← HX.out, HXl.out] at hre
    rw [HXl.out]
    have b2 := hb1.trans (hb2.mono hb1.size)
    have z2 := b2.size
    have Hre := Lib.hid hre
    clear hre Hr1 HT
    go_wp2
    go_loopw [27] (fun i wr => IdRel w2.heap.size w2 X N i wr) (fun i _ => N - (intOf i).toNat)
    case atStart =>
      have h1 := Oc.lit (z := 1) w2 3 (zent N) N (by simp [zent]) (by simp [maxLen]; omega)
      have h2 := Oc.lit (z := 1) (w2.alloc (.cells (zent N) 3)) 3 (zent N) N (by simp [zent]) (by simp [maxLen]; omega)
      rw [zent_toList, ← rowU_zero (zsA X)] at h1
      rw [zent_toList, ← rowU_zero (zsC X), World.size_alloc] at h2
      exact ⟨0, rfl, Nat.zero_le _, h1.alloc _, h2.mono (by omega), by simp, ((Below.refl _ _).alloc (Nat.le_refl _) _).alloc (by simp) _⟩
    case round =>
      obtain ⟨k, rfl, hk, hrowA, hrowC, hsz, hbel⟩ := hrel
      clear hmk
      by_cases hlt : k < N
      · have hrew := Hre.out.below hbel
        obtain ⟨eb, eo, x, rfl, heb, hx, e0, e1, e2⟩ := hrew.at_ hlt
        have hxA : (zsA X)[k]? = some (x.1 : Int) := by simp [zsA, hx]
        have hxC : (zsC X)[k]? = some (x.2.2 : Int) := by simp [zsC, hx]
        have ca0 : wr.cell? ⟨w2.heap.size, k, none⟩ = some (.int .i64 0) := by rw [World.ownsRow.cellAt hrowA _ (by omega)]; exact rowU_old HA.out hlt
        have fa0 := World.ownsRow.frozenAt hrowA k
        have cc0 : wr.cell? ⟨w2.heap.size + 1, k, none⟩ = some (.int .i64 0) := by rw [World.ownsRow.cellAt hrowC _ (by omega)]; exact rowU_old HC.out hlt
        have fc0 := World.ownsRow.frozenAt hrowC k
        have q2 : w2.heap.size < wr.heap.size := by omega
        have q3 : w2.heap.size + 1 < wr.heap.size := by omega
        obtain ⟨w5, hw5⟩ : ∃ w5, w5 = wr.setCell ⟨w2.heap.size, k, none⟩ (.int .i64 (x.1 : Int)) := ⟨_, rfl⟩
        obtain ⟨hA5, gA5⟩ := World.ownsRow.stored hrowA k (.int .i64 (x.1 : Int))
        rw [← hw5] at hA5 gA5
        rw [rowU_set HA.out hxA] at hA5
        have hC5 : Oc 1 w5 3 w2.heap.size (some ⟨w2.heap.size + 1, 0, none⟩) N N (ivs (rowU (zsC X) k N)) := World.ownsRow.kept hrowC gA5 (by rw [ownBlock_slice]; exact .inr (by simp [ob]))
        have z5 : w5.heap.size = wr.heap.size := by rw [hw5]; simp
        obtain ⟨w6, hw6⟩ : ∃ w6, w6 = w5.setCell ⟨w2.heap.size + 1, k, none⟩ (.int .i64 (x.2.2 : Int)) := ⟨_, rfl⟩
        obtain ⟨hC6, gC6⟩ := World.ownsRow.stored hC5 k (.int .i64 (x.2.2 : Int))
        rw [← hw6] at hC6 gC6
        rw [rowU_set HC.out hxC] at hC6
        have hA6 : Oc 1 w6 3 w2.heap.size (some ⟨w2.heap.size, 0, none⟩) N N (ivs (rowU (zsA X) (k + 1) N)) := World.ownsRow.kept hA5 gC6 (by rw [ownBlock_slice]; exact .inr (by simp [ob]))
        have z6 : w6.heap.size = w5.heap.size := by rw [hw6]; simp
        have b6 : Below w2.heap.size w2 w6 := by
          rw [hw6, hw5]
          exact (hbel.setCell (Nat.le_refl _) _).setCell (by show w2.heap.size ≤ w2.heap.size + 1; omega) _
        have W5 := Lib.hid hw5; have W6 := Lib.hid hw6; have HA6 := Lib.hid hA6; have HC6 := Lib.hid hC6; have B6 := Lib.hid b6; have Z6 := Lib.hid z6; have Z5 := Lib.hid z5
        clear hw5 hw6 hA5 hC5 hA6 hC6 gA5 gC6 hrowA hrowC hrew hx hxA hxC b6 z5 z6
        go_wp2
        rw [← W5.out, ← W6.out]
        have z5 := Z5.out
        have z6 := Z6.out
        go_roundw
        case rel => exact ⟨k + 1, by go_num, by omega, HA6.out.alloc _, HC6.out.alloc _, by simp; omega, B6.out.alloc (by omega) _⟩
        case measure => simp [intOf]; omega
      · obtain rfl : k = N := by omega
        rw [rowU_all HA.out] at hrowA
        rw [rowU_all HC.out] at hrowC
        have h1 := hrowA.rc
        have h2 := hrowC.rc
        rw [HX.out] at h1 h2
        have H1 := Lib.hid h1; have H2 := Lib.hid h2
        clear h1 h2 hrowA hrowC
        go_wp2
        go_ret3
        refine ⟨b2.trans (hbel.mono z2), ?_⟩
        show ∃ A c D d, _ ∧ Rc 1 wr wr.heap.size A L.length c _ ∧ Rc 1 wr wr.heap.size D L.length d _
        rw [HXl.out]
        exact ⟨_, _, _, _, rfl, H1.out, H2.out⟩
end Go.Proofs.Ytplkjljhpmldfaa
