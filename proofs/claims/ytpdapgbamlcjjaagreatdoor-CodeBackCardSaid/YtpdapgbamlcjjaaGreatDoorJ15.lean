/-
  Joined: Rz4 Rz5 U1 U2 U3 U4 U5 D1.
-/
import Derived.Test.YtpdapgbamlcjjaaGreatDoorJ11
import Derived.Test.YtpdapgbamlcjjaaGreatDoorJ14
import Derived.Laws.Rows
import Derived.Test.YtpdapgbamlcjjaaGreatDoorJ13
import Derived.Lib.LaidTab
import Derived.Lib.ItoaNum
import Derived.Lib.AtoiAllCases
/-
  strings.(*genericReplacer).Replace, build where a key has two bytes, code.unquoted.
-/
namespace Go.Proofs.YtpdapgbamlcjjaaGreatDoor
open Go.RowKit Vl

set_option maxRecDepth 100000 in
set_option maxHeartbeats 4000000 in
theorem repG_c (X : ByteArray) (hX : X.size ≤ 1000000) (gb g : Nat) (w : World) (hG : Gsr w gb g) :
    Calls Tryz.prog 149 #[pt g, .string X] w (RetV w (st (Cd.unr X.data.toList))) := by
  obtain ⟨l, hl⟩ : ∃ l, l = X.data.toList := ⟨_, rfl⟩
  rw [← hl]
  have hmk := wty.make w 0 0 (X.size : Int) X.size rfl rfl (Nat.zero_le _) (by omega)
  obtain ⟨w1, hw1⟩ : ∃ w1, w1 = w.alloc (.cells (zrow X.size) 5) := ⟨_, rfl⟩
  rw [← hw1] at hmk
  have own1 : Own w1 5 w.heap.size (some ⟨w.heap.size, 0, none⟩) X.size [] := by rw [hw1]; exact World.ownsRow_made w (zrow X.size) X.size (Nat.le_refl _) (by simp only [maxLen]; omega) (by simp [zrow])
  have z1 : w1.heap.size = w.heap.size + 1 := by rw [hw1]; simp
  have b1 : Below w.heap.size w w1 := by rw [hw1]; exact (Below.refl _ _).alloc (Nat.le_refl _) _
  obtain ⟨w2, hw2⟩ : ∃ w2, w2 = w1.alloc (.cells #[.slice (some ⟨w.heap.size, 0, none⟩) 0 X.size] 185) := ⟨_, rfl⟩
  have b2 : Below w1.heap.size w1 w2 := by rw [hw2]; exact (Below.refl _ _).alloc (Nat.le_refl _) _
  have hW : Ww w2 w.heap.size w1.heap.size [] := ⟨⟨some ⟨w.heap.size, 0, none⟩, X.size, by rw [hw2]; exact heap_alloc_new w1 _, own1.keep b2⟩, by omega⟩
  have bb : Below w.heap.size w w2 := b1.trans (b2.mono (by omega))
  have hws := gws_c gb g w1.heap.size X hX w2 w.heap.size (fun w' hb => hG.keep (bb.trans hb).size (fun k _ hk2 => (bb.trans hb).block k hk2)) hW
  rw [← hl] at hws
  have Hws := Lib.hid hws; have W2 := Lib.hid hw2; have BB := Lib.hid bb; have Z1 := Lib.hid z1
  clear hws hw2 bb hW b2 b1 own1 hw1 hl z1 hG
  go_enter Tryz.func149, Tryz.ntmps149
  go_wp2_with (rw [← W2.out])
  refine Hws.out.mono ?_
  rintro e w3 ⟨z, rfl, ⟨⟨A, c, hh, own⟩, -⟩, hb⟩
  have q0 : w3.cell? ⟨w1.heap.size, 0, none⟩ = some (.slice A (Cd.unr l).length c) := by simp [World.cell?, hh]
  have hcv := wty.conv own.rb
  have BB3 := Lib.hid (BB.out.trans hb)
  clear hh own hb Hws
  go_wp2
  go_ret
  exact ⟨rfl, BB3.out⟩

def B9Rel (a i : Value) : Prop := i = .int .i64 0 ∧ a = .bool true
set_option maxRecDepth 100000 in
set_option maxHeartbeats 4000000 in
theorem buildG_c (R : Nat) (A : Option Addr) (c : Nat) (w : World) (h4 : w.cell? ⟨R, 4, none⟩ = some (.slice A 6 c)) (hr : Rc 1 w w.heap.size A 6 c (lvs LU)) :
    Calls Tryz.prog 75 #[.pointer (some ⟨R, 0, none⟩)] w fun e w' => ∃ g, e = .returned (.iface 121 (.pointer (some ⟨g, 0, none⟩))) ∧ Gsr w' w.heap.size g ∧ Below w.heap.size w w' := by
  obtain ⟨b, off, hA, hb, hc⟩ := hr.2.2.2 (by omega)
  have hmg := makeG_c A c w hr
  subst hA
  have c0 : w.cell? ⟨b, off, none⟩ = some (.string ⟨#[92, 92]⟩) := hc 0 _ rfl
  have Hmg := Lib.hid hmg
  clear hc hr hmg
  go_enter Tryz.func75, Tryz.ntmps75
  go_wp2
  go_loop [4, 5] (fun a i => B9Rel a i) (fun _ i => 0)
  case atStart => exact ⟨rfl, rfl⟩
  case round =>
    obtain ⟨rfl, rfl⟩ := hrel
    go_wp2_with fail
    refine Hmg.out.mono ?_
    rintro e w1 ⟨g, rfl, hg, hb1⟩
    go_wp2
    go_ret
    exact ⟨g, rfl, hg, hb1⟩
end Go.Proofs.YtpdapgbamlcjjaaGreatDoor

/-
  code.unquoted.
-/
namespace Go.Proofs.YtpdapgbamlcjjaaGreatDoor
open Go.RowKit Vl

/-- What stands between quotes, turned back. -/
def unqt (s : List UInt8) : List UInt8 := Cd.unr (Lib.trimSuffix (Lib.trimPrefix s [34]) [34])
theorem unqt_qt (x : List UInt8) : unqt (Cd.qt x) = x := by
  have h1 : Lib.trimPrefix (Cd.qt x) [34] = Cd.escs x ++ [34] := by
    unfold Lib.trimPrefix Lib.hasPrefix Cd.qt
    simp
  have h2 : Lib.trimSuffix (Cd.escs x ++ [34]) [34] = Cd.escs x := by
    unfold Lib.trimSuffix Lib.hasSuffix
    simp
  unfold unqt
  rw [h1, h2, Cd.unr_escs]
theorem trim_len (s : List UInt8) : (Lib.trimSuffix (Lib.trimPrefix s [34]) [34]).length ≤ s.length := by
  have h1 : (Lib.trimPrefix s [34]).length ≤ s.length := by unfold Lib.trimPrefix; split <;> simp
  have h2 : ∀ t : List UInt8, (Lib.trimSuffix t [34]).length ≤ t.length := fun t => by
    unfold Lib.trimSuffix; split
    · rw [List.length_take]; omega
    · exact Nat.le_refl _
  have := h2 (Lib.trimPrefix s [34])
  omega
theorem unqt_len (s : List UInt8) : (unqt s).length ≤ s.length := by
  have h3 := Cd.unr_len _ (Lib.trimSuffix (Lib.trimPrefix s [34]) [34]) (Nat.le_refl _)
  have := trim_len s
  unfold unqt
  omega
theorem lu_arr : (#[.string ⟨#[92, 92]⟩, .string ⟨#[92]⟩, .string ⟨#[92, 34]⟩, .string ⟨#[34]⟩, .string ⟨#[92, 110]⟩, .string ⟨#[10]⟩] : Array Value).toList = lvs LU := rfl

set_option maxRecDepth 100000 in
set_option maxHeartbeats 2000000 in
theorem unquoted_c (s : List UInt8) (hs : s.length ≤ 1000000) (w : World) : Calls Tryz.prog 44 #[st s] w (RetV w (st (unqt s))) := by
  obtain ⟨T1, hT1⟩ : ∃ T1, T1 = Lib.trimPrefix s [34] := ⟨_, rfl⟩
  obtain ⟨T2, hT2⟩ : ∃ T2, T2 = Lib.trimSuffix T1 [34] := ⟨_, rfl⟩
  have c1 := fun w => Tryz.strings_TrimPrefix ⟨s.toArray⟩ ⟨#[34]⟩ w
  have hl1 : T1.length ≤ s.length := by rw [hT1]; unfold Lib.trimPrefix; split <;> simp
  have c2 := fun w => Tryz.strings_TrimSuffix ⟨T1.toArray⟩ ⟨#[34]⟩ w (by show T1.length ≤ _; omega)
  have e1 : Lib.trimPrefix (ByteArray.mk s.toArray).data.toList (ByteArray.mk #[34]).data.toList = T1 := by rw [hT1]
  have e2 : Lib.trimSuffix (ByteArray.mk T1.toArray).data.toList (ByteArray.mk #[34]).data.toList = T2 := by rw [hT2]
  simp only [e1] at c1
  simp only [e2] at c2
  have hlen := trim_len s
  rw [← hT1, ← hT2] at hlen
  obtain ⟨X, hX⟩ : ∃ X : ByteArray, X = ⟨T2.toArray⟩ := ⟨_, rfl⟩
  have hXs : X.size = T2.length := by rw [hX]; rfl
  have hXl : X.data.toList = T2 := by rw [hX]
  rw [← hX] at c2
  obtain ⟨w0, hw0⟩ : ∃ w0, w0 = w.alloc (.cells #[.string ⟨#[92, 92]⟩, .string ⟨#[92]⟩, .string ⟨#[92, 34]⟩, .string ⟨#[34]⟩, .string ⟨#[92, 110]⟩, .string ⟨#[10]⟩] 9) := ⟨_, rfl⟩
  have b0 : Below w.heap.size w w0 := by rw [hw0]; exact (Below.refl _ _).alloc (Nat.le_refl _) _
  have r0 : Rc 1 w0 (w.heap.size + 1) (some ⟨w.heap.size, 0, none⟩) 6 6 (lvs LU) := by rw [hw0, ← lu_arr]; exact Rc.lit w 9 _ 6 rfl (by simp [maxLen])
  have hN := newR_c LU (some ⟨w.heap.size, 0, none⟩) 6 _ w0 r0
  have HN := Lib.hid hN; have W0 := Lib.hid hw0; have B0 := Lib.hid b0
  obtain ⟨E, hE⟩ : ∃ E, E = unqt s := ⟨_, rfl⟩
  have hE2 : E = Cd.unr T2 := by rw [hE, hT2, hT1]; rfl
  rw [← hE]
  have HE := Lib.hid hE2; have HX := Lib.hid hXl; have C1 := Lib.hid c1; have C2 := Lib.hid c2
  clear hN hw0 b0 r0 hX hE hE2 hXl c1 c2 e1 e2 hT1 hT2 hl1
  go_enter Tryz.func44, Tryz.ntmps44
  go_wp2_with fail
  refine (C1.out _).mono ?_
  rintro e w' ⟨rfl, rfl⟩
  go_wp2_with fail
  refine (C2.out _).mono ?_
  rintro e w'' ⟨rfl, rfl⟩
  go_wp2_with (rw [← W0.out])
  refine HN.out.mono ?_
  rintro e w1 ⟨R, A, c, rfl, hge, h5, hrow, b1⟩
  have hlt := h5.lt
  have hrow1 := rc_onlyset hrow (k := 1) (.int .i32 1)
  have h51 := h5.set 1 (.int .i32 1)
  simp only [if_pos, reduceIte, Nat.reduceEqDiff] at h51
  have hB := buildG_c R A c (w1.setCell ⟨R, 1, none⟩ (.int .i32 1)) h51.c4 (hrow1.more (by simp; omega))
  have hrep := replaceG_c R X (st E) w1 (fun w' g => Gsr w' (w1.setCell ⟨R, 1, none⟩ (.int .i32 1)).heap.size g) _ _ _ h5 hB
    (fun a b g h ho => h.keep ho.1 fun k hk1 hk2 => ho.2 k hk2 (by simp at hk1; omega))
    (fun a g h => by rw [HE.out, ← HX.out]; exact repG_c X (by omega) _ g a h)
  have Hrep := Lib.hid hrep; have BB := Lib.hid (B0.out.trans (b1.mono B0.out.size))
  have HR := Lib.hid (show w''.heap.size ≤ R from Nat.le_trans B0.out.size hge)
  clear hrep hB hrow hrow1 h5 h51 hlt hge b1 HN
  go_wp2_with fail
  refine Hrep.out.mono ?_
  rintro e w2 ⟨rfl, b2⟩
  have bb := BB.out.trans (b2.mono HR.out)
  clear b2 Hrep
  go_wp2
  go_ret
  exact ⟨rfl, bb⟩
end Go.Proofs.YtpdapgbamlcjjaaGreatDoor

/-
  code.names, Name, numberOf.
-/
namespace Go.Proofs.YtpdapgbamlcjjaaGreatDoor
open Go.RowKit Vl Cd

/-- An instruction as a value. -/
abbrev iv (x : Ins) : Value := .agg #[.int .i64 x.op, .int .i64 x.n, st x.s]
/-- All names, as cells. -/
def nmA : Array Value := (lvs nms).toArray
theorem nmA_size : nmA.size = 24 := rfl
theorem nmA_at {k : Nat} (h : k < 24) : nmA[k]? = some (st (nmk k)) := by
  have : ∀ k, k < 24 → nms[k]? = some (nmk k) := by decide +kernel
  unfold nmA
  rw [List.getElem?_toArray]
  exact lvs_get nms k _ (this k h)
theorem nmA_one : nmA.all (·.oneCell') = true := by kernel_rfl
theorem info49 : (Tryz.prog.info? 49).map (·.size) = some nmA.size := by kernel_rfl
def zA : Array Value := #[em, em, em, em, em, em, em, em, em, em, em, em, em, em, em, em, em, em, em, em, em, em, em, em]
theorem zero49 : zA.size = nmA.size := rfl
theorem idx49 (k : Nat) (hk : k < 24) (W : World) : (Instr.index 49 (.agg nmA) (.int .i64 (k : Int))).run Tryz.prog W = .ok (st (nmk k)) W := by
  have h1 := nmA_at hk
  obtain ⟨i, hi, -, hz, -⟩ := info_parts sty.inf
  simp [Instr.index, asIntOf, run_underlying Tryz.underlying49, sizeOf, typeInfo, part, hi, hz, h1, hk]

set_option maxRecDepth 100000 in
set_option maxHeartbeats 2000000 in
theorem names_c (w : World) : Calls Tryz.prog 33 #[] w fun e w' => e = .returned (.agg nmA) ∧ Below w.heap.size w w' := by
  obtain ⟨w1, hw1⟩ : ∃ w1, w1 = w.alloc (.cells nmA 49) := ⟨_, rfl⟩
  have hs : (w.alloc (.cells zA 49)).setRow w.heap.size nmA = w1 := by rw [World.setRow_alloc_new, ← hw1]
  have hg : (w.alloc (.cells zA 49)).heap[w.heap.size]? = some (.cells zA 49 (0, 0)) := heap_alloc_last _ _
  have hg1 : w1.heap[w.heap.size]? = some (.cells nmA 49 (0, 0)) := by rw [hw1]; exact heap_alloc_last _ _
  have b1 : Below w.heap.size w w1 := by rw [hw1]; exact (Below.refl _ _).alloc (Nat.le_refl _) _
  have HS := Lib.hid hs; have HG := Lib.hid hg; have HG1 := Lib.hid hg1; have B1 := Lib.hid b1
  clear hw1 hs hg hg1 b1
  go_enter Tryz.func33, Tryz.ntmps33
  go_wp2_with (refine wpList_store_row rfl 49 (.tmp 0) (.tmp 1) rfl w.heap.size nmA ?hx ?hy 49 zA ?hg info49 zero49 nmA_one ?_; (case hx => rfl); (case hy => exact congrArg Value.agg (by kernel_rfl)); (case hg => exact HG.out); change wpList _ _ _ _ _ (World.setRow (w.alloc (.cells zA 49)) w.heap.size nmA); rw [HS.out])
  refine bodyPost_ret (v := .agg nmA) ?_ rfl ⟨rfl, B1.out⟩
  exact results_cell_row Tryz.results33 _ _ w.heap.size 49 nmA (0, 0) (.array 24 9) rfl HG1.out Tryz.underlying49 rfl info49

set_option maxRecDepth 100000 in
set_option maxHeartbeats 2000000 in
theorem name_c (op : Int) (hop : I op) (w : World) : Calls Tryz.prog 15 #[.int .i64 op] w (RetV w (st (nm op))) := by
  by_cases h0 : op < 0
  · have e : nm op = [] := by unfold nm; rw [if_pos (.inl h0)]
    have d0 : decide (op < 0) = true := decide_eq_true h0
    rw [e]
    go_enter Tryz.func15, Tryz.ntmps15
    go_wp2
    go_ret
    exact ⟨rfl, Below.refl _ _⟩
  · have d0 : decide (op < 0) = false := decide_eq_false h0
    by_cases h1 : 23 < op
    · have e : nm op = [] := by unfold nm; rw [if_pos (.inr h1)]
      have d1 : decide (23 < op) = true := decide_eq_true h1
      rw [e]
      go_enter Tryz.func15, Tryz.ntmps15
      go_wp2
      go_ret
      exact ⟨rfl, Below.refl _ _⟩
    · have d1 : decide (23 < op) = false := decide_eq_false h1
      obtain ⟨k, rfl⟩ : ∃ k : Nat, op = (k : Int) := ⟨op.toNat, by omega⟩
      have hk : k < 24 := by omega
      have hix := idx49 k hk
      rw [nm_nat hk]
      clear h0 h1 hop
      go_enter Tryz.func15, Tryz.ntmps15
      go_wp2_with fail
      refine (names_c w).mono ?_
      rintro e w1 ⟨rfl, b1⟩
      go_wp2
      go_ret
      exact ⟨rfl, b1⟩
end Go.Proofs.YtpdapgbamlcjjaaGreatDoor

/-
  slices.Index of texts; code.numberOf.
-/
namespace Go.Proofs.YtpdapgbamlcjjaaGreatDoor
open Go.RowKit Vl Cd

def IxRel (n : Nat) (L : List (List UInt8)) (s : List UInt8) (t : Value) : Prop := ∃ k : Nat, k ≤ n ∧ t = .int .i64 (k : Int) ∧ ∀ j, j < k → L[j]? ≠ some s
set_option maxRecDepth 100000 in
set_option maxHeartbeats 1000000 in
theorem index_c (A : Option Addr) (n c B : Nat) (L : List (List UInt8)) (s : List UInt8) (w : World) (hr : Rc 1 w B A n c (lvs L)) (hn : n ≤ 1000000) :
    Calls Tryz.prog 45 #[.slice A n c, st s] w fun e w' => ∃ r : Int, e = .returned (.int .i64 r) ∧ w = w' ∧ ((∃ k : Nat, k < n ∧ r = (k : Int) ∧ L[k]? = some s) ∨ (r = -1 ∧ ∀ j, j < n → L[j]? ≠ some s)) := by
  obtain ⟨X, hX⟩ : ∃ X : ByteArray, X = ⟨s.toArray⟩ := ⟨_, rfl⟩
  show Calls _ _ #[_, .string ⟨s.toArray⟩] _ _
  rw [← hX]
  have HX := Lib.hid hX; have Hr := Lib.hid hr
  clear hX hr
  go_enter Tryz.func45, Tryz.ntmps45
  go_wp2
  go_loop [8] (fun t => IxRel n L s t) (fun t => n - (intOf t).toNat)
  case atStart => exact ⟨0, by omega, rfl, fun j h => by omega⟩
  case round =>
    obtain ⟨k, hk, rfl, hno⟩ := hrel
    by_cases hlt : k < n
    · obtain ⟨b, off, x, rfl, hb, hc, hx, -⟩ := lvs_at Hr.out hlt
      have hXl : X.toList = s := by rw [Lib.toList_data, HX.out]
      have HNo := Lib.hid hno; have Hx := Lib.hid hx
      clear hno hx
      by_cases he : x = s
      · have dt : (X.toList == x) = true := by rw [hXl]; simp [he]
        have He := Lib.hid he
        clear he hXl
        go_wp2
        go_ret
        exact ⟨(k : Int), rfl, rfl, .inl ⟨k, hlt, rfl, by rw [Hx.out, He.out]⟩⟩
      · have dt : (X.toList == x) = false := by rw [hXl]; exact beq_eq_false_iff_ne.2 (fun e => he e.symm)
        have He := Lib.hid he
        clear he hXl
        go_wp2
        first | go_round | refine ⟨?rel, ?measure⟩
        case rel => exact ⟨k + 1, by omega, by go_num, fun j hj => by
          by_cases hjk : j = k
          · rw [hjk, Hx.out]; exact fun e => He.out (Option.some.inj e)
          · exact HNo.out j (by omega)⟩
        case measure => simp [intOf]; omega
    · obtain rfl : k = n := by omega
      have HNo := Lib.hid hno
      clear hno
      go_wp2
      go_ret
      exact ⟨-1, rfl, rfl, .inr ⟨rfl, HNo.out⟩⟩

theorem nmA_list : nmA.toList = lvs nms := rfl
set_option maxRecDepth 100000 in
set_option maxHeartbeats 2000000 in
theorem numberOf_c (s : List UInt8) (w : World) : Calls Tryz.prog 30 #[st s] w fun e w' => ∃ r : Int, e = .returned (.int .i64 r) ∧ -1 ≤ r ∧ r ≤ 23 ∧ (∀ op : Int, 0 ≤ op → op ≤ 23 → nm op = s → r = op) ∧ Below w.heap.size w w' := by
  have hN := names_c w
  have key : ∀ w1 : World, Below w.heap.size w w1 → ∃ w2, Hid (w2 = w1.alloc (.cells nmA 49)) ∧ Hid (Below w.heap.size w w2) ∧
      Hid (Calls Tryz.prog 45 #[.slice (some ⟨w1.heap.size, 0, none⟩) 24 24, st s] w2 fun e w' => ∃ r : Int, e = .returned (.int .i64 r) ∧ w2 = w' ∧ ((∃ k : Nat, k < 24 ∧ r = (k : Int) ∧ nms[k]? = some s) ∨ (r = -1 ∧ ∀ j, j < 24 → nms[j]? ≠ some s))) := fun w1 b1 => by
    refine ⟨_, Lib.hid rfl, Lib.hid (b1.trans ((Below.refl _ _).alloc b1.size _)), Lib.hid ?_⟩
    refine index_c _ 24 24 (w1.heap.size + 1) nms s _ ?_ (by omega)
    rw [← nmA_list]
    exact Rc.lit w1 49 nmA 24 rfl (by simp [maxLen])
  have Key := Lib.hid key; have HN := Lib.hid hN
  clear key hN
  go_enter Tryz.func30, Tryz.ntmps30
  go_wp2_with fail
  refine HN.out.mono ?_
  rintro e w1 ⟨rfl, b1⟩
  obtain ⟨w2, W2, B2, HI⟩ := Key.out w1 b1
  have hs : (w1.alloc (.cells zA 49)).setRow w1.heap.size nmA = w2 := by rw [World.setRow_alloc_new, ← W2.out]
  have hg : (w1.alloc (.cells zA 49)).heap[w1.heap.size]? = some (.cells zA 49 (0, 0)) := heap_alloc_last _ _
  have HS := Lib.hid hs; have HG := Lib.hid hg
  clear hs hg
  go_wp2_with (refine wpList_store_row rfl 49 (.tmp 3) (.tmp 4) rfl w1.heap.size nmA ?hx ?hy 49 zA ?hg info49 zero49 nmA_one ?_; (case hx => rfl); (case hy => rfl); (case hg => exact HG.out); change wpList _ _ _ _ _ (World.setRow (w1.alloc (.cells zA 49)) w1.heap.size nmA); rw [HS.out])
  refine HI.out.mono ?_
  rintro e w3 ⟨r, rfl, rfl, hr⟩
  have Hr := Lib.hid hr
  clear hr
  go_wp2
  go_ret
  refine ⟨r, rfl, ?_, ?_, fun op h0 h1 hop => ?_, B2.out⟩
  · rcases Hr.out with ⟨k, hk, rfl, -⟩ | ⟨rfl, -⟩ <;> omega
  · rcases Hr.out with ⟨k, hk, rfl, -⟩ | ⟨rfl, -⟩ <;> omega
  · obtain ⟨j, rfl⟩ : ∃ j : Nat, op = (j : Int) := ⟨op.toNat, by omega⟩
    rw [nm_nat (by omega)] at hop
    have hat : ∀ k, k < 24 → nms[k]? = some (nmk k) := by decide +kernel
    rcases Hr.out with ⟨k, hk, rfl, h2⟩ | ⟨rfl, h2⟩
    · rw [hat k hk] at h2
      have := Option.some.inj h2
      rw [nmk_inj k hk j (by omega) (this.trans hop.symm)]
    · exact absurd ((hat j (by omega)).trans (congrArg some hop)) (h2 j (by omega))
end Go.Proofs.YtpdapgbamlcjjaaGreatDoor

/-
  Boxes of three cells; the library's variables; code.May, code.hasOperand.
-/
namespace Go.Proofs.YtpdapgbamlcjjaaGreatDoor
open Go.RowKit Vl Cd

/-- A block of three cells. -/
structure Bx (w : World) (g : Nat) (v0 v1 v2 : Value) : Prop where
  c0 : w.cell? ⟨g, 0, none⟩ = some v0
  c1 : w.cell? ⟨g, 1, none⟩ = some v1
  c2 : w.cell? ⟨g, 2, none⟩ = some v2
  f0 : w.frozen? ⟨g, 0, none⟩ = false
  f1 : w.frozen? ⟨g, 1, none⟩ = false
  f2 : w.frozen? ⟨g, 2, none⟩ = false
  lt : g < w.heap.size
theorem Bx.made (w : World) (T : TypeId) (v0 v1 v2 : Value) : Bx (w.alloc (.cells #[v0, v1, v2] T)) w.heap.size v0 v1 v2 := ⟨by simp, by simp, by simp, by simp, by simp, by simp, by simp⟩
theorem Bx.keep {w w' : World} {g : Nat} {v0 v1 v2 : Value} (h : Bx w g v0 v1 v2) (hs : w.heap.size ≤ w'.heap.size) (hg : w'.heap[g]? = w.heap[g]?) : Bx w' g v0 v1 v2 := by
  have c : ∀ k, w'.cell? ⟨g, k, none⟩ = w.cell? ⟨g, k, none⟩ := fun k => by unfold World.cell?; rw [hg]
  have f : ∀ k, w'.frozen? ⟨g, k, none⟩ = w.frozen? ⟨g, k, none⟩ := fun k => by unfold World.frozen?; rw [hg]
  exact ⟨(c 0).trans h.c0, (c 1).trans h.c1, (c 2).trans h.c2, (f 0).trans h.f0, (f 1).trans h.f1, (f 2).trans h.f2, Nat.lt_of_lt_of_le h.lt hs⟩
theorem Bx.below {w w' : World} {g B : Nat} {v0 v1 v2 : Value} (h : Bx w g v0 v1 v2) (hb : Below B w w') (hg : g < B) : Bx w' g v0 v1 v2 := h.keep hb.size (hb.block g hg)
def put3 (w : World) (g : Nat) (v0 v1 v2 : Value) : World := ((w.setCell ⟨g, 0, none⟩ v0).setCell ⟨g, 1, none⟩ v1).setCell ⟨g, 2, none⟩ v2
theorem put3_below (w : World) (g : Nat) (v0 v1 v2 : Value) : Below g w (put3 w g v0 v1 v2) :=
  (((Below.refl g w).setCell (Nat.le_refl _) _).setCell (Nat.le_refl _) _).setCell (Nat.le_refl _) _
theorem put3_box {w : World} {g : Nat} {a b c : Value} (h : Bx w g a b c) (v0 v1 v2 : Value) : Bx (put3 w g v0 v1 v2) g v0 v1 v2 := by
  unfold put3
  have z : (((w.setCell ⟨g, 0, none⟩ v0).setCell ⟨g, 1, none⟩ v1).setCell ⟨g, 2, none⟩ v2).heap.size = w.heap.size := by simp
  have f : ∀ j, (((w.setCell ⟨g, 0, none⟩ v0).setCell ⟨g, 1, none⟩ v1).setCell ⟨g, 2, none⟩ v2).frozen? ⟨g, j, none⟩ = w.frozen? ⟨g, j, none⟩ := fun j => by simp
  have c0 : (w.setCell ⟨g, 0, none⟩ v0).cell? ⟨g, 0, none⟩ = some v0 := World.cell?_setCell_same w _ _ h.c0
  have c1 : (w.setCell ⟨g, 0, none⟩ v0).cell? ⟨g, 1, none⟩ = some b := (World.cell?_setCell_other w _ _ _ (by simp)).trans h.c1
  have c2 : (w.setCell ⟨g, 0, none⟩ v0).cell? ⟨g, 2, none⟩ = some c := (World.cell?_setCell_other w _ _ _ (by simp)).trans h.c2
  have d0 := (World.cell?_setCell_other (w.setCell ⟨g, 0, none⟩ v0) ⟨g, 1, none⟩ ⟨g, 0, none⟩ v1 (by simp)).trans c0
  have d1 : ((w.setCell ⟨g, 0, none⟩ v0).setCell ⟨g, 1, none⟩ v1).cell? ⟨g, 1, none⟩ = some v1 := World.cell?_setCell_same _ _ _ c1
  have d2 := (World.cell?_setCell_other (w.setCell ⟨g, 0, none⟩ v0) ⟨g, 1, none⟩ ⟨g, 2, none⟩ v1 (by simp)).trans c2
  exact ⟨(World.cell?_setCell_other _ ⟨g, 2, none⟩ ⟨g, 0, none⟩ v2 (by simp)).trans d0, (World.cell?_setCell_other _ ⟨g, 2, none⟩ ⟨g, 1, none⟩ v2 (by simp)).trans d1, World.cell?_setCell_same _ _ _ d2, (f 0).trans h.f0, (f 1).trans h.f1, (f 2).trans h.f2, by rw [z]; exact h.lt⟩

/-- What stays of the library's variables. -/
structure Gl (w : World) : Prop where
  mx : ∃ m, w.cell? ⟨0, 0, none⟩ = some (.int .i64 m)
  sy : ∃ v, w.cell? ⟨1, 0, none⟩ = some v ∧ (v = .nilIface ∨ ∃ te pe, v = .iface te pe)
  rn : ∃ v, w.cell? ⟨2, 0, none⟩ = some v ∧ (v = .nilIface ∨ ∃ te pe, v = .iface te pe)
  tab : Lib.TabIs Tryz.prog w "internal/strconv.uint64pow10" .u64 Lib.pow10Tab
  lt : 5 < w.heap.size
theorem Gl.below {w w' : World} {B : Nat} (h : Gl w) (hb : Below B w w') (hB : 5 < B) : Gl w' := by
  refine ⟨?_, ?_, ?_, ?_, Nat.lt_of_lt_of_le h.lt hb.size⟩
  · obtain ⟨m, hm⟩ := h.mx
    exact ⟨m, (hb.cell (p := ⟨0, 0, none⟩) (Nat.lt_of_lt_of_le (by decide) hB)).trans hm⟩
  · obtain ⟨m, hm, hv⟩ := h.sy
    exact ⟨m, (hb.cell (p := ⟨1, 0, none⟩) (Nat.lt_of_lt_of_le (by decide) hB)).trans hm, hv⟩
  · obtain ⟨m, hm, hv⟩ := h.rn
    exact ⟨m, (hb.cell (p := ⟨2, 0, none⟩) (Nat.lt_of_lt_of_le (by decide) hB)).trans hm, hv⟩
  · have t := h.tab
    unfold Lib.TabIs World.var? at t ⊢
    rw [show Tryz.prog.globalNamed "internal/strconv.uint64pow10" = some 3 by kernel_rfl] at t ⊢
    rw [Option.bind_some] at t ⊢
    rw [hb.block 3 (Nat.lt_of_lt_of_le (by decide) hB)]
    exact t
theorem Gl.below' {w w' : World} (h : Gl w) (hb : Below w.heap.size w w') : Gl w' := h.below hb h.lt
theorem Gl.alloc {w : World} (h : Gl w) (o : Obj) : Gl (w.alloc o) := h.below' ((Below.refl _ _).alloc (Nat.le_refl _) _)

theorem em_of {X : ByteArray} {s : List UInt8} (h : X = ⟨s.toArray⟩) : X.toList.isEmpty = (s == []) := by
  rw [Lib.toList_data, h]; cases s <;> rfl
theorem hide_st (s : List UInt8) : ∃ X : ByteArray, X = ⟨s.toArray⟩ ∧ X.size = s.length ∧ X.toList.isEmpty = (s == []) ∧ X.data.toList = s :=
  ⟨_, rfl, rfl, em_of rfl, by simp⟩

set_option maxRecDepth 100000 in
theorem hasOperand_c (op : Int) (w : World) : Calls Tryz.prog 24 #[.int .i64 op] w fun e w' => e = .returned (.bool (hasO op)) ∧ w = w' := by
  obtain ⟨o, ho⟩ : ∃ o, o = hasO op := ⟨_, rfl⟩
  rw [← ho]
  unfold hasO at ho
  have Ho := Lib.hid ho
  clear ho
  by_cases h0 : op = 0
  · subst h0
    go_enter Tryz.func24, Tryz.ntmps24
    go_wp2
    go_ret
    exact ⟨by rw [Ho.out]; rfl, rfl⟩
  · have d0 : (op == 0) = false := beq_eq_false_iff_ne.2 h0
    by_cases h1 : op = 1
    · subst h1
      go_enter Tryz.func24, Tryz.ntmps24
      go_wp2
      go_ret
      exact ⟨by rw [Ho.out]; rfl, rfl⟩
    · have d1 : (op == 1) = false := beq_eq_false_iff_ne.2 h1
      go_enter Tryz.func24, Tryz.ntmps24
      go_wp2
      go_ret
      exact ⟨by rw [Ho.out, d0, d1]; rfl, rfl⟩

set_option maxRecDepth 100000 in
set_option maxHeartbeats 1000000 in
theorem may_c (x : Ins) (hop : I x.op) (w : World) : Calls Tryz.prog 13 #[iv x] w (RetV w (.bool (may x))) := by
  obtain ⟨op, n, s⟩ := x
  obtain ⟨X, hX, hXs, hXe, -⟩ := hide_st s
  obtain ⟨Y, hY, -, hYe, -⟩ := hide_st (nm op)
  have hnm := fun W => (show Calls Tryz.prog 15 #[.int .i64 op] W (RetV W (.string Y)) from by rw [hY]; exact name_c op hop W)
  obtain ⟨o, ho⟩ : ∃ o, o = may ⟨op, n, s⟩ := ⟨_, rfl⟩
  show Calls Tryz.prog 13 #[.agg #[.int .i64 op, .int .i64 n, .string ⟨s.toArray⟩]] w _
  rw [← ho, ← hX]
  unfold may at ho
  dsimp only at ho
  rw [← hXe, ← hXs] at ho
  obtain ⟨w0, hw0⟩ : ∃ w0, w0 = w.alloc (.cells #[.int .i64 op, .int .i64 n, .string X] 23) := ⟨_, rfl⟩
  have b0 : Below w.heap.size w w0 := by rw [hw0]; exact (Below.refl _ _).alloc (Nat.le_refl _) _
  have x0 : Bx w0 w.heap.size (.int .i64 op) (.int .i64 n) (.string X) := by rw [hw0]; exact Bx.made _ _ _ _ _
  have W0 := Lib.hid hw0; have B0 := Lib.hid b0; have X0 := Lib.hid x0; have Ho := Lib.hid ho; have Hnm := Lib.hid hnm
  clear hw0 b0 x0 ho hX hXs hXe hY hnm
  obtain ⟨c0, c1, c2, -, -, -, hlt⟩ := X0.out
  by_cases h0 : op = 0
  · subst h0
    go_enter Tryz.func13, Tryz.ntmps13
    go_wp2_with (rw [← W0.out])
    go_ret
    exact ⟨by rw [Ho.out]; rfl, B0.out⟩
  · have d0 : (op == 0) = false := beq_eq_false_iff_ne.2 h0
    have H0 := Lib.hid h0
    clear h0
    by_cases h1 : op = 1
    · subst h1
      by_cases hn : n = 0
      · subst hn
        go_enter Tryz.func13, Tryz.ntmps13
        go_wp2_with (rw [← W0.out])
        go_ret
        exact ⟨by rw [Ho.out]; simp; try omega, B0.out⟩
      · have d1 : (n == 0) = false := beq_eq_false_iff_ne.2 hn
        clear hn
        go_enter Tryz.func13, Tryz.ntmps13
        go_wp2_with (rw [← W0.out])
        go_ret
        exact ⟨by rw [Ho.out, d1]; simp, B0.out⟩
    · have d1 : (op == 1) = false := beq_eq_false_iff_ne.2 h1
      have H1 := Lib.hid h1
      clear h1
      by_cases h2 : op = 2
      · subst h2
        by_cases hn : 0 ≤ n
        · have e1 : decide (0 ≤ n) = true := decide_eq_true hn
          by_cases hm : n < 50
          · have e2 : decide (n < 50) = true := decide_eq_true hm
            clear hn hm
            go_enter Tryz.func13, Tryz.ntmps13
            go_wp2_with (rw [← W0.out])
            go_ret
            exact ⟨by rw [Ho.out, e1, e2]; simp, B0.out⟩
          · have e2 : decide (n < 50) = false := decide_eq_false hm
            clear hn hm
            go_enter Tryz.func13, Tryz.ntmps13
            go_wp2_with (rw [← W0.out])
            go_ret
            exact ⟨by rw [Ho.out, e1, e2]; simp, B0.out⟩
        · have e1 : decide (0 ≤ n) = false := decide_eq_false hn
          clear hn
          go_enter Tryz.func13, Tryz.ntmps13
          go_wp2_with (rw [← W0.out])
          go_ret
          exact ⟨by rw [Ho.out, e1]; simp, B0.out⟩
      · have d2 : (op == 2) = false := beq_eq_false_iff_ne.2 h2
        have ho := Ho.out
        rw [if_neg H0.out, if_neg H1.out, if_neg h2] at ho
        have hemp : (nm op == []) = !(decide (0 ≤ op) && decide (op ≤ 23)) := by
          by_cases hr : op < 0 ∨ 23 < op
          · have e : nm op = [] := by unfold nm; rw [if_pos hr]
            have : (decide (0 ≤ op) && decide (op ≤ 23)) = false := by simp; omega
            rw [e, this]; rfl
          · have e : nm op = nmk op.toNat := by unfold nm; rw [if_neg hr]
            have := (nmk_plain op.toNat (by omega)).2.1
            have h2 : (decide (0 ≤ op) && decide (op ≤ 23)) = true := by simp; omega
            rw [e, h2]
            cases hh : nmk op.toNat with
            | nil => rw [hh] at this; simp at this
            | cons a b => rfl
        rw [hemp] at hYe
        have H2 := Lib.hid h2
        have HO := Lib.hid ho
        clear h2 ho hemp Ho
        generalize hb : (decide (0 ≤ op) && decide (op ≤ 23)) = b at HO hYe
        cases b
        · have hYe : Y.toList.isEmpty = true := hYe
          clear hb
          go_enter Tryz.func13, Tryz.ntmps13
          go_wp2_with (rw [← W0.out])
          refine (Hnm.out w0).mono ?_
          rintro e w1 ⟨rfl, b1⟩
          have x1 := X0.out.below b1 hlt
          have B1 := Lib.hid (B0.out.trans (b1.mono B0.out.size))
          clear c0 c1 c2 b1
          obtain ⟨c0, c1, c2, -, -, -, -⟩ := x1
          go_wp2
          go_ret
          exact ⟨by rw [HO.out]; simp, B1.out⟩
        · have hYe : Y.toList.isEmpty = false := hYe
          clear hb
          by_cases hn : n = 0
          · subst hn
            go_enter Tryz.func13, Tryz.ntmps13
            go_wp2_with (rw [← W0.out])
            refine (Hnm.out w0).mono ?_
            rintro e w1 ⟨rfl, b1⟩
            have x1 := X0.out.below b1 hlt
            have B1 := Lib.hid (B0.out.trans (b1.mono B0.out.size))
            clear c0 c1 c2 b1
            obtain ⟨c0, c1, c2, -, -, -, -⟩ := x1
            go_wp2
            go_ret
            exact ⟨by rw [HO.out]; simp, B1.out⟩
          · have d3 : (n == 0) = false := beq_eq_false_iff_ne.2 hn
            clear hn
            go_enter Tryz.func13, Tryz.ntmps13
            go_wp2_with (rw [← W0.out])
            refine (Hnm.out w0).mono ?_
            rintro e w1 ⟨rfl, b1⟩
            have x1 := X0.out.below b1 hlt
            have B1 := Lib.hid (B0.out.trans (b1.mono B0.out.size))
            clear c0 c1 c2 b1
            obtain ⟨c0, c1, c2, -, -, -, -⟩ := x1
            go_wp2
            go_ret
            exact ⟨by rw [HO.out, d3]; simp, B1.out⟩
end Go.Proofs.YtpdapgbamlcjjaaGreatDoor

/-
  code.operandOf, code.Line.
-/
namespace Go.Proofs.YtpdapgbamlcjjaaGreatDoor
open Go.RowKit Vl Cd

theorem decDigits_figs : ∀ (k n : Nat), n ≤ k → Lib.decDigits n = figs n
  | k, n, hk => by
    by_cases h : n < 10
    · rw [figs_small h, Lib.decDigits_one h]
    · cases k with
      | zero => omega
      | succ k => rw [figs_big h, Lib.decDigits, dif_neg h, decDigits_figs k (n / 10) (by omega)]
theorem itoa_figures (n : Int) : Lib.itoa n = figures n := by
  unfold Lib.itoa figures
  by_cases h : n < 0
  · rw [if_pos h, if_pos h, decDigits_figs _ _ (Nat.le_refl _), show n.natAbs = (-n).toNat by omega]
  · rw [if_neg h, if_neg h, decDigits_figs _ _ (Nat.le_refl _)]
theorem ba_app (a b : List UInt8) : (ByteArray.mk a.toArray) ++ (ByteArray.mk b.toArray) = ⟨(a ++ b).toArray⟩ := by
  apply ByteArray.ext
  rw [ByteArray.data_append]
  simp
theorem below_grow (w : World) (k : Nat) (os : Array Obj) : Below w.heap.size w (Sort.grow (w.drewN k) os) := by
  refine ⟨rfl, rfl, rfl, ?_, fun j hj => ?_⟩
  · simp [Sort.grow]
  · simp [Sort.grow]
    exact Array.getElem?_append_left hj
theorem itoa_c (n : Int) (hn : I n) (w : World) (hg : Gl w) : Calls Tryz.prog 40 #[.int .i64 n] w (RetV w (st (figures n))) := by
  unfold I at hn
  refine (Tryz.strconv_Itoa n hn.1 (by omega) w hg.tab).mono ?_
  rintro e w' ⟨rfl, k, os, rfl⟩
  rw [itoa_figures]
  exact ⟨rfl, below_grow w k os⟩

set_option maxRecDepth 100000 in
set_option maxHeartbeats 1000000 in
theorem operandOf_c (x : Ins) (hn : I x.n) (hs : x.s.length ≤ 1000000) (w : World) (hg : Gl w) : Calls Tryz.prog 25 #[iv x] w (RetV w (st (opd x))) := by
  obtain ⟨op, n, s⟩ := x
  obtain ⟨w0, hw0⟩ : ∃ w0, w0 = w.alloc (.cells #[.int .i64 op, .int .i64 n, .string ⟨s.toArray⟩] 23) := ⟨_, rfl⟩
  have b0 : Below w.heap.size w w0 := by rw [hw0]; exact (Below.refl _ _).alloc (Nat.le_refl _) _
  have x0 : Bx w0 w.heap.size (.int .i64 op) (.int .i64 n) (.string ⟨s.toArray⟩) := by rw [hw0]; exact Bx.made _ _ _ _ _
  have W0 := Lib.hid hw0; have B0 := Lib.hid b0; have G0 := Lib.hid (hg.below' b0)
  obtain ⟨c0, c1, c2, -, -, -, hlt⟩ := x0
  have Hn := Lib.hid hn; have Hs := Lib.hid hs
  clear hw0 b0 hn hs hg
  by_cases h1 : op = 1
  · subst h1
    have e : opd ⟨1, n, s⟩ = qt s := rfl
    rw [e]
    go_enter Tryz.func25, Tryz.ntmps25
    go_wp2_with (rw [← W0.out])
    refine (quoted_c s Hs.out w0).mono ?_
    rintro e w1 ⟨rfl, b1⟩
    have B1 := Lib.hid (B0.out.trans (b1.mono B0.out.size))
    go_wp2
    go_ret
    exact ⟨rfl, B1.out⟩
  · have d1 : (op == 1) = false := beq_eq_false_iff_ne.2 h1
    have e : opd ⟨op, n, s⟩ = figures n := if_neg h1
    rw [e]
    go_enter Tryz.func25, Tryz.ntmps25
    go_wp2_with (rw [← W0.out])
    refine (itoa_c n Hn.out w0 G0.out).mono ?_
    rintro e w1 ⟨rfl, b1⟩
    have B1 := Lib.hid (B0.out.trans (b1.mono B0.out.size))
    go_wp2
    go_ret
    exact ⟨rfl, B1.out⟩

/-- What 'Line' hands over. -/
def lnV (x : Ins) : Value := if may x then .tuple #[st (ln x), .int .i64 0] else .tuple #[st [], .int .i64 1]
set_option maxRecDepth 100000 in
set_option maxHeartbeats 4000000 in
theorem line_c (x : Ins) (hop : I x.op) (hn : I x.n) (w : World) (hg : Gl w) : Calls Tryz.prog 9 #[iv x] w (RetV w (lnV x)) := by
  have hmay := fun W => may_c x hop W
  have hho := fun W => hasOperand_c x.op W
  have hnm := fun W => name_c x.op hop W
  have hopd := fun (hs : x.s.length ≤ 1000) W hG => operandOf_c x hn (by omega) W hG
  have hms : may x = true → x.s.length ≤ 1000 := fun h => (may_s h).1
  have hln : ln x = (if hasO x.op then nm x.op ++ 32 :: opd x else nm x.op) := rfl
  have hlv : lnV x = if may x then .tuple #[st (ln x), .int .i64 0] else .tuple #[st [], .int .i64 1] := rfl
  have hol : may x = true → (opd x).length ≤ 2002 := fun h => opd_len hn h
  have hnl := (nm_plain x.op).1
  obtain ⟨L, hL⟩ : ∃ L, L = lnV x := ⟨_, rfl⟩
  rw [← hL] at hlv ⊢
  generalize hM : may x = M at *
  generalize hN : nm x.op = N at *
  generalize hO : opd x = O at *
  generalize hH : hasO x.op = H at *
  generalize ln x = Q at *
  clear hM hN hO hH hL
  obtain ⟨op, n, s⟩ := x
  dsimp only at *
  obtain ⟨w0, hw0⟩ : ∃ w0, w0 = w.alloc (.cells #[.int .i64 op, .int .i64 n, .string ⟨s.toArray⟩] 23) := ⟨_, rfl⟩
  have b0 : Below w.heap.size w w0 := by rw [hw0]; exact (Below.refl _ _).alloc (Nat.le_refl _) _
  have x0 : Bx w0 w.heap.size (.int .i64 op) (.int .i64 n) (.string ⟨s.toArray⟩) := by rw [hw0]; exact Bx.made _ _ _ _ _
  have W0 := Lib.hid hw0; have B0 := Lib.hid b0; have G0 := Lib.hid hg; have X0 := Lib.hid x0
  have Hmay := Lib.hid hmay; have Hho := Lib.hid hho; have Hnm := Lib.hid hnm; have Hopd := Lib.hid hopd; have Hms := Lib.hid hms; have Hln := Lib.hid hln; have Hlv := Lib.hid hlv; have Hol := Lib.hid hol; have Hnl := Lib.hid hnl
  obtain ⟨c0, c1, c2, -, -, -, hlt⟩ := x0
  clear hw0 b0 hop hn hg hmay hho hnm hopd hms hln hlv hol hnl
  go_enter Tryz.func9, Tryz.ntmps9
  go_wp2_with (rw [← W0.out])
  refine (Hmay.out w0).mono ?_
  rintro e w1 ⟨rfl, b1⟩
  have X1 := Lib.hid (X0.out.below b1 hlt)
  have B1 := Lib.hid (B0.out.trans (b1.mono B0.out.size))
  clear c0 c1 c2 b1 hlt
  obtain ⟨c0, c1, c2, -, -, -, hlt⟩ := X1.out
  cases M
  · go_wp2
    go_ret2
    exact ⟨by rw [Hlv.out]; rfl, B1.out⟩
  · have Hs := Lib.hid (Hms.out rfl); have Hl := Lib.hid (Hol.out rfl)
    go_wp2_with fail
    refine (Hho.out w1).mono ?_
    rintro e w2 ⟨rfl, rfl⟩
    cases H
    · go_wp2_with fail
      refine (Hnm.out w1).mono ?_
      rintro e w2 ⟨rfl, b2⟩
      have B2 := Lib.hid (B1.out.trans (b2.mono B1.out.size))
      clear b2
      go_wp2
      go_ret2
      exact ⟨by rw [Hlv.out, Hln.out]; rfl, B2.out⟩
    · have k1 : ¬ 9223372036854775807 < N.length + 1 := by have := Hnl.out; omega
      have k2 : ¬ 9223372036854775807 < N.length + 1 + O.length := by have := Hnl.out; have := Hl.out; omega
      go_wp2_with fail
      go_region_held3 (fun w' => w'.cell? ⟨w.heap.size, 0, none⟩ = some (.int .i64 op) ∧ w'.cell? ⟨w.heap.size, 1, none⟩ = some (.int .i64 n) ∧ w'.cell? ⟨w.heap.size, 2, none⟩ = some (.string ⟨s.toArray⟩)) (go_keep) (first | (go_at_call 15; refine (Hnm.out _).mono ?_; rintro e w4 ⟨rfl, b4⟩; have hA : Below w1.heap.size w1 w4 := (below_drewN (Below.refl _ _) 1).trans b4; have e1 := (X1.out.below hA hlt).c0; have e2 := (X1.out.below hA hlt).c1; have e3 := (X1.out.below hA hlt).c2) | (go_at_call 25; refine (Hopd.out Hs.out _ (G0.out.below (B1.out.trans (hA.mono B1.out.size)) G0.out.lt)).mono ?_; rintro e w5 ⟨rfl, b5⟩; have hB : Below w1.heap.size w1 w5 := hA.trans (b5.mono hA.size); have e1 := (X1.out.below hB hlt).c0; have e2 := (X1.out.below hB hlt).c1; have e3 := (X1.out.below hB hlt).c2))
      have B2 := Lib.hid (B1.out.trans (hB.mono B1.out.size))
      go_wp2
      go_ret2
      refine ⟨?_, B2.out⟩
      rw [Hlv.out, Hln.out, show (ByteArray.mk #[32]) = ⟨[(32 : UInt8)].toArray⟩ from rfl, ba_app, ba_app]
      simp
end Go.Proofs.YtpdapgbamlcjjaaGreatDoor

/-
  code.withOperand.
-/
namespace Go.Proofs.YtpdapgbamlcjjaaGreatDoor
open Go.RowKit Vl Cd

theorem pu_app : ∀ (l r : List UInt8) (a u : Nat), Lib.parseUint10 a l = .ok u → Lib.parseUint10 a (l ++ r) = Lib.parseUint10 u r
  | [], r, a, u, h => by simp only [Lib.parseUint10] at h; injection h with h; rw [List.nil_append, h]
  | c :: l, r, a, u, h => by
    rw [List.cons_append]
    simp only [Lib.parseUint10] at h ⊢
    split at h
    · rename_i h1
      rw [if_pos h1]
      split at h
      · cases h
      · rename_i h2
        rw [if_neg h2]
        split at h
        · cases h
        · rename_i h3
          rw [if_neg h3]
          exact pu_app l r _ u h
    · cases h
theorem pu_figs : ∀ (k n : Nat), n ≤ k → n ≤ 9223372036854775808 → Lib.parseUint10 0 (figs n) = .ok n
  | k, n, hk, hn => by
    by_cases h : n < 10
    · rw [figs_small h]
      simp only [Lib.parseUint10, dig_ok n h]
      rw [if_pos (by omega), if_neg (by omega), if_neg (by omega)]
      congr 1; omega
    · cases k with
      | zero => omega
      | succ k =>
        rw [figs_big h, pu_app _ _ _ _ (pu_figs k (n / 10) (by omega) (by omega))]
        simp only [Lib.parseUint10, dig_ok (n % 10) (by omega)]
        rw [if_pos (by omega), if_neg (by omega), if_neg (by omega)]
        congr 1; omega
theorem figs_cons (n : Nat) : ∃ c r, figs n = c :: r ∧ c.toNat ≠ 43 ∧ c.toNat ≠ 45 := by
  cases h : figs n with
  | nil =>
    by_cases h1 : n < 10
    · rw [figs_small h1] at h; cases h
    · rw [figs_big h1] at h; simp at h
  | cons c r =>
    have := figs_plain n n (Nat.le_refl _) c (by rw [h]; simp)
    exact ⟨c, r, rfl, by omega, by omega⟩
theorem atoi_figures {n : Int} (h : I n) : Lib.atoiAll (figures n) = .ok n := by
  unfold I at h
  unfold figures
  by_cases h0 : n < 0
  · rw [if_pos h0, Lib.atoiAll_minus]
    have : Lib.parseMag (figs (-n).toNat) = .ok (-n).toNat := by
      unfold Lib.parseMag
      obtain ⟨c, r, e, -, -⟩ := figs_cons (-n).toNat
      rw [if_neg (by rw [e]; simp), pu_figs _ _ (Nat.le_refl _) (by omega)]
    rw [this]
    show (if _ then _ else _) = _
    rw [if_neg (by omega)]
    congr 1; omega
  · rw [if_neg h0]
    have : Lib.parseMag (figs n.toNat) = .ok n.toNat := by
      unfold Lib.parseMag
      obtain ⟨c, r, e, -, -⟩ := figs_cons n.toNat
      rw [if_neg (by rw [e]; simp), pu_figs _ _ (Nat.le_refl _) (by omega)]
    obtain ⟨c, r, e, h1, h2⟩ := figs_cons n.toNat
    rw [e, Lib.atoiAll_plain c r h1 h2, ← e, this]
    show (if _ then _ else _) = _
    rw [if_neg (by omega)]
    congr 1; omega
/-- strconv.Atoi at any text. -/
theorem atoi_c (s : List UInt8) (hs : s.length ≤ 1000000) (w : World) (hg : Gl w) :
    Calls Tryz.prog 43 #[st s] w fun e w' => ∃ (v : Int) (q : Value), e = .returned (.tuple #[.int .i64 v, q]) ∧ I v ∧ (∀ n, I n → figures n = s → v = n) ∧ Below w.heap.size w w' := by
  have hX : (ByteArray.mk s.toArray).data.toList = s := by simp
  have hz : (ByteArray.mk s.toArray).size = s.length := rfl
  cases h : Lib.atoiAll s with
  | ok v =>
    refine (Tryz.strconv_Atoi_ok ⟨s.toArray⟩ (by omega) v (by rw [hX]; exact h) w).mono ?_
    rintro e w' ⟨rfl, hw⟩
    have hb := Lib.atoiAll_bounds h
    refine ⟨v, .nilIface, rfl, (by unfold I; omega), fun n hn e => ?_, ?_⟩
    · rw [← e, atoi_figures hn] at h; injection h with h; exact h.symm
    · rcases hw with rfl | ⟨t, rfl⟩
      · exact Below.refl _ _
      · exact ⟨rfl, rfl, rfl, by rw [Lib.bytesWorld_size]; omega, fun j hj => Lib.bytesWorld_at_old w 5 t j hj⟩
  | «syntax» =>
    obtain ⟨ev, hv, hev⟩ := hg.sy
    refine (Tryz.strconv_Atoi_syntax ⟨s.toArray⟩ (by omega) (by rw [hX]; exact h) ev w hv hev).mono ?_
    rintro e w' ⟨N, rfl, -, -, hb⟩
    exact ⟨0, _, rfl, (by unfold I; omega), fun n hn e => (by rw [← e, atoi_figures hn] at h; cases h), hb⟩
  | range =>
    obtain ⟨ev, hv, hev⟩ := hg.rn
    refine (Tryz.strconv_Atoi_range ⟨s.toArray⟩ (by omega) (by rw [hX]; exact h) ev w hv hev).mono ?_
    rintro e w' ⟨N, rfl, -, -, hb⟩
    have hq := Lib.atoiSat_bounds s
    exact ⟨Lib.atoiSat _, _, rfl, (by rw [hX]; unfold I; omega), fun n hn e => (by rw [← e, atoi_figures hn] at h; cases h), hb⟩

/-- What 'withOperand' gives: the instruction with this operand, where there is one. -/
def With (op : Int) (s : List UInt8) (y : Ins) : Prop := y.op = op ∧ I y.n ∧ ∀ z, Gd z → z.op = op → (hasO op = true → opd z = s) → y = z
theorem withN {op v : Int} (ho : op = 0 ∨ op = 2) {z : Ins} (hz : Gd z) (h : z.op = op) (hv : v = z.n) : (⟨op, v, []⟩ : Ins) = z := by
  obtain ⟨a, b, c⟩ := z
  dsimp only at h hv
  subst h hv
  have := (may_s hz.1).2 (by dsimp only; omega)
  dsimp only at this
  rw [this]
theorem withT {x : List UInt8} {z : Ins} (hz : Gd z) (h : z.op = 1) (hv : x = z.s) : (⟨1, 0, x⟩ : Ins) = z := by
  obtain ⟨a, b, c⟩ := z
  dsimp only at h hv
  subst h hv
  have := may_n hz.1 (by dsimp only; omega) (by dsimp only; omega)
  dsimp only at this
  rw [this]
theorem withO {op : Int} (h0 : op ≠ 0) (h1 : op ≠ 1) (h2 : op ≠ 2) {z : Ins} (hz : Gd z) (h : z.op = op) : (⟨op, 0, []⟩ : Ins) = z := by
  obtain ⟨a, b, c⟩ := z
  dsimp only at h
  subst h
  have e1 := may_n hz.1 (by dsimp only; omega) (by dsimp only; omega)
  have e2 := (may_s hz.1).2 (by dsimp only; omega)
  dsimp only at e1 e2
  rw [e1, e2]
theorem Bx.other {w : World} {g : Nat} {v0 v1 v2 : Value} (h : Bx w g v0 v1 v2) {b : Nat} (k : Nat) (v : Value) (hne : b ≠ g) : Bx (w.setCell ⟨b, k, none⟩ v) g v0 v1 v2 := by
  have c : ∀ j, (w.setCell ⟨b, k, none⟩ v).cell? ⟨g, j, none⟩ = w.cell? ⟨g, j, none⟩ := fun j => World.cell?_setCell_other w _ _ _ (by simp <;> omega)
  have f : ∀ j, (w.setCell ⟨b, k, none⟩ v).frozen? ⟨g, j, none⟩ = w.frozen? ⟨g, j, none⟩ := fun j => by simp
  exact ⟨(c 0).trans h.c0, (c 1).trans h.c1, (c 2).trans h.c2, (f 0).trans h.f0, (f 1).trans h.f1, (f 2).trans h.f2, by simpa using h.lt⟩
theorem Bx.set1 {w : World} {g : Nat} {v0 v1 v2 : Value} (h : Bx w g v0 v1 v2) (v : Value) : Bx (w.setCell ⟨g, 1, none⟩ v) g v0 v v2 := by
  have f : ∀ j, (w.setCell ⟨g, 1, none⟩ v).frozen? ⟨g, j, none⟩ = w.frozen? ⟨g, j, none⟩ := fun j => by simp
  exact ⟨(World.cell?_setCell_other w _ _ _ (by simp)).trans h.c0, World.cell?_setCell_same w _ _ h.c1, (World.cell?_setCell_other w _ _ _ (by simp)).trans h.c2, (f 0).trans h.f0, (f 1).trans h.f1, (f 2).trans h.f2, by simpa using h.lt⟩
theorem Bx.set2 {w : World} {g : Nat} {v0 v1 v2 : Value} (h : Bx w g v0 v1 v2) (v : Value) : Bx (w.setCell ⟨g, 2, none⟩ v) g v0 v1 v := by
  have f : ∀ j, (w.setCell ⟨g, 2, none⟩ v).frozen? ⟨g, j, none⟩ = w.frozen? ⟨g, j, none⟩ := fun j => by simp
  exact ⟨(World.cell?_setCell_other w _ _ _ (by simp)).trans h.c0, (World.cell?_setCell_other w _ _ _ (by simp)).trans h.c1, World.cell?_setCell_same w _ _ h.c2, (f 0).trans h.f0, (f 1).trans h.f1, (f 2).trans h.f2, by simpa using h.lt⟩

set_option maxRecDepth 100000 in
set_option maxHeartbeats 2000000 in
theorem withOperand_c (op : Int) (s : List UInt8) (hs : s.length ≤ 1000000) (w : World) (hg : Gl w) :
    Calls Tryz.prog 29 #[.int .i64 op, st s] w fun e w' => ∃ y, e = .returned (iv y) ∧ With op s y ∧ Below w.heap.size w w' := by
  obtain ⟨w1, hw1⟩ : ∃ w1, w1 = w.alloc (.cells #[.int .i64 0, .int .i64 0, .string ⟨#[]⟩] 23) := ⟨_, rfl⟩
  have z1 : w1.heap.size = w.heap.size + 1 := by rw [hw1]; simp
  have b1 : Below w.heap.size w w1 := by rw [hw1]; exact (Below.refl _ _).alloc (Nat.le_refl _) _
  have r1 : Bx w1 w.heap.size (.int .i64 0) (.int .i64 0) (.string ⟨#[]⟩) := by rw [hw1]; exact Bx.made _ _ _ _ _
  obtain ⟨w2, hw2⟩ : ∃ w2, w2 = w1.alloc (.cells #[.int .i64 op, .int .i64 0, .string ⟨#[]⟩] 23) := ⟨_, rfl⟩
  have b12 : Below w1.heap.size w1 w2 := by rw [hw2]; exact (Below.refl _ _).alloc (Nat.le_refl _) _
  have x2 : Bx w2 w1.heap.size (.int .i64 op) (.int .i64 0) (.string ⟨#[]⟩) := by rw [hw2]; exact Bx.made _ _ _ _ _
  rw [z1] at x2
  have R2 := Lib.hid (r1.below b12 r1.lt)
  have X2 := Lib.hid x2
  have B2 := Lib.hid (b1.trans (b12.mono (by omega)))
  have G2 := Lib.hid (hg.below' B2.out)
  have W1 := Lib.hid hw1; have W2 := Lib.hid hw2; have Z1 := Lib.hid z1; have Hs := Lib.hid hs
  clear hw1 hw2 z1 b1 r1 b12 x2 hs hg
  by_cases h0 : op = 0
  · subst h0
    go_enter Tryz.func29, Tryz.ntmps29
    go_wp2_with fail
    rw [← W1.out, ← W2.out]
    refine (atoi_c s Hs.out w2 G2.out).mono ?_
    rintro e w3 ⟨v, q, rfl, hI, hz, b3⟩
    obtain ⟨w4, hw4⟩ : ∃ w4, w4 = w3.setCell ⟨w.heap.size + 1, 1, none⟩ (.int .i64 v) := ⟨_, rfl⟩
    have xr3 := R2.out.below b3 R2.out.lt
    have xx3 := X2.out.below b3 X2.out.lt
    have R4 := Lib.hid (show Bx w4 w.heap.size _ _ _ by rw [hw4]; exact xr3.other (b := w.heap.size + 1) 1 _ (by omega))
    have X4 := Lib.hid (show Bx w4 (w.heap.size + 1) _ _ _ by rw [hw4]; exact xx3.set1 _)
    have bq : Below w.heap.size w w3 := B2.out.trans (b3.mono B2.out.size)
    have B4 := Lib.hid (show Below w.heap.size w w4 by rw [hw4]; exact bq.setCell (show w.heap.size ≤ w.heap.size + 1 from by omega) _)
    have W4 := Lib.hid hw4; have HI := Lib.hid hI; have HZ := Lib.hid hz
    clear bq xr3 hw4 hI hz b3
    obtain ⟨c0, c1, c2, f0, f1, f2, hlt⟩ := xx3
    obtain ⟨x0, x1, x2, -, -, -, -⟩ := X4.out
    obtain ⟨r0, r1, r2, g0, g1, g2, -⟩ := R4.out
    go_wp2_with (rw [← W4.out])
    change bodyPost _ _ _ _ _ (put3 w4 w.heap.size _ _ _)
    have s0 := fun v0 v1 v2 => (put3_box R4.out v0 v1 v2).c0
    have s1 := fun v0 v1 v2 => (put3_box R4.out v0 v1 v2).c1
    have s2 := fun v0 v1 v2 => (put3_box R4.out v0 v1 v2).c2
    refine bodyPost_ret (v := iv ⟨0, v, []⟩) ?_ rfl ⟨⟨0, v, []⟩, rfl, ⟨rfl, HI.out, fun z hz ho hd => withN (.inl rfl) hz ho (HZ.out _ hz.2 (by rw [← hd rfl]; exact (if_neg (by omega)).symm))⟩, B4.out.trans ((put3_below _ _ _ _ _).mono (by omega))⟩
    simp [results, Tryz.results29, go_sem, s0, s1, s2]
  have d0 : (op == 0) = false := beq_eq_false_iff_ne.2 h0
  by_cases h2 : op = 2
  · subst h2
    clear h0
    go_enter Tryz.func29, Tryz.ntmps29
    go_wp2_with fail
    rw [← W1.out, ← W2.out]
    refine (atoi_c s Hs.out w2 G2.out).mono ?_
    rintro e w3 ⟨v, q, rfl, hI, hz, b3⟩
    obtain ⟨w4, hw4⟩ : ∃ w4, w4 = w3.setCell ⟨w.heap.size + 1, 1, none⟩ (.int .i64 v) := ⟨_, rfl⟩
    have xr3 := R2.out.below b3 R2.out.lt
    have xx3 := X2.out.below b3 X2.out.lt
    have R4 := Lib.hid (show Bx w4 w.heap.size _ _ _ by rw [hw4]; exact xr3.other (b := w.heap.size + 1) 1 _ (by omega))
    have X4 := Lib.hid (show Bx w4 (w.heap.size + 1) _ _ _ by rw [hw4]; exact xx3.set1 _)
    have bq : Below w.heap.size w w3 := B2.out.trans (b3.mono B2.out.size)
    have B4 := Lib.hid (show Below w.heap.size w w4 by rw [hw4]; exact bq.setCell (show w.heap.size ≤ w.heap.size + 1 from by omega) _)
    have W4 := Lib.hid hw4; have HI := Lib.hid hI; have HZ := Lib.hid hz
    clear bq xr3 hw4 hI hz b3
    obtain ⟨c0, c1, c2, f0, f1, f2, hlt⟩ := xx3
    obtain ⟨x0, x1, x2, -, -, -, -⟩ := X4.out
    obtain ⟨r0, r1, r2, g0, g1, g2, -⟩ := R4.out
    go_wp2_with (rw [← W4.out])
    change bodyPost _ _ _ _ _ (put3 w4 w.heap.size _ _ _)
    have s0 := fun v0 v1 v2 => (put3_box R4.out v0 v1 v2).c0
    have s1 := fun v0 v1 v2 => (put3_box R4.out v0 v1 v2).c1
    have s2 := fun v0 v1 v2 => (put3_box R4.out v0 v1 v2).c2
    refine bodyPost_ret (v := iv ⟨2, v, []⟩) ?_ rfl ⟨⟨2, v, []⟩, rfl, ⟨rfl, HI.out, fun z hz ho hd => withN (.inr rfl) hz ho (HZ.out _ hz.2 (by rw [← hd rfl]; exact (if_neg (by omega)).symm))⟩, B4.out.trans ((put3_below _ _ _ _ _).mono (by omega))⟩
    simp [results, Tryz.results29, go_sem, s0, s1, s2]
  have d2 : (op == 2) = false := beq_eq_false_iff_ne.2 h2
  by_cases h1 : op = 1
  · subst h1
    clear h0 h2
    go_enter Tryz.func29, Tryz.ntmps29
    go_wp2_with fail
    rw [← W1.out, ← W2.out]
    refine (unquoted_c s Hs.out w2).mono ?_
    rintro e w3 ⟨rfl, b3⟩
    obtain ⟨w4, hw4⟩ : ∃ w4, w4 = w3.setCell ⟨w.heap.size + 1, 2, none⟩ (.string ⟨(unqt s).toArray⟩) := ⟨_, rfl⟩
    have xr3 := R2.out.below b3 R2.out.lt
    have xx3 := X2.out.below b3 X2.out.lt
    have R4 := Lib.hid (show Bx w4 w.heap.size _ _ _ by rw [hw4]; exact xr3.other (b := w.heap.size + 1) 2 _ (by omega))
    have X4 := Lib.hid (show Bx w4 (w.heap.size + 1) _ _ _ by rw [hw4]; exact xx3.set2 _)
    have bq : Below w.heap.size w w3 := B2.out.trans (b3.mono B2.out.size)
    have B4 := Lib.hid (show Below w.heap.size w w4 by rw [hw4]; exact bq.setCell (show w.heap.size ≤ w.heap.size + 1 from by omega) _)
    have W4 := Lib.hid hw4
    clear bq xr3 hw4 b3
    obtain ⟨c0, c1, c2, f0, f1, f2, hlt⟩ := xx3
    obtain ⟨x0, x1, x2, -, -, -, -⟩ := X4.out
    obtain ⟨r0, r1, r2, g0, g1, g2, -⟩ := R4.out
    go_wp2_with (rw [← W4.out])
    change bodyPost _ _ _ _ _ (put3 w4 w.heap.size _ _ _)
    have s0 := fun v0 v1 v2 => (put3_box R4.out v0 v1 v2).c0
    have s1 := fun v0 v1 v2 => (put3_box R4.out v0 v1 v2).c1
    have s2 := fun v0 v1 v2 => (put3_box R4.out v0 v1 v2).c2
    refine bodyPost_ret (v := iv ⟨1, 0, unqt s⟩) ?_ rfl ⟨⟨1, 0, unqt s⟩, rfl, ⟨rfl, by show I 0; unfold I; omega, fun z hz ho hd => withT hz ho (by rw [← hd rfl]; unfold opd; rw [if_pos ho, unqt_qt])⟩, B4.out.trans ((put3_below _ _ _ _ _).mono (by omega))⟩
    simp [results, Tryz.results29, go_sem, s0, s1, s2]
  have d1 : (op == 1) = false := beq_eq_false_iff_ne.2 h1
  · have hN := Lib.hid (And.intro h0 (And.intro h1 h2))
    clear h0 h1 h2
    obtain ⟨w4, hw4⟩ : ∃ w4, w4 = w2 := ⟨_, rfl⟩
    have X4 := Lib.hid (show Bx w4 _ _ _ _ by rw [hw4]; exact X2.out)
    have R4 := Lib.hid (show Bx w4 _ _ _ _ by rw [hw4]; exact R2.out)
    have B4 := Lib.hid (show Below w.heap.size w w4 by rw [hw4]; exact B2.out)
    have W4 := Lib.hid (show w4 = (w.alloc (.cells #[.int .i64 0, .int .i64 0, .string ⟨#[]⟩] 23)).alloc (.cells #[.int .i64 op, .int .i64 0, .string ⟨#[]⟩] 23) by rw [hw4, W2.out, W1.out])
    clear hw4
    obtain ⟨x0, x1, x2, -, -, -, -⟩ := X4.out
    obtain ⟨r0, r1, r2, g0, g1, g2, -⟩ := R4.out
    go_enter Tryz.func29, Tryz.ntmps29
    go_wp2_with (rw [← W4.out])
    change bodyPost _ _ _ _ _ (put3 w4 w.heap.size _ _ _)
    have s0 := fun v0 v1 v2 => (put3_box R4.out v0 v1 v2).c0
    have s1 := fun v0 v1 v2 => (put3_box R4.out v0 v1 v2).c1
    have s2 := fun v0 v1 v2 => (put3_box R4.out v0 v1 v2).c2
    refine bodyPost_ret (v := iv ⟨op, 0, []⟩) ?_ rfl ⟨⟨op, 0, []⟩, rfl, ⟨rfl, by show I 0; unfold I; omega, fun z hz ho hd => withO hN.out.1 hN.out.2.1 hN.out.2.2 hz ho⟩, B4.out.trans ((put3_below _ _ _ _ _).mono (by omega))⟩
    simp [results, Tryz.results29, go_sem, s0, s1, s2]
end Go.Proofs.YtpdapgbamlcjjaaGreatDoor

/-
  The document's figures, Figures.
-/
namespace Go.Proofs.YtpdapgbamlcjjaaGreatDoor
open Go.RowKit Vl Cd

set_option maxRecDepth 100000 in
set_option maxHeartbeats 1000000 in
theorem figures_c : ∀ (k n : Nat), n < 10 ^ (k + 1) → k ≤ 20 → n < 18446744073709551616 → ∀ w : World, Calls Tryz.prog 41 #[.int .u64 (n : Int)] w (RetV w (st (figs n))) := by
  intro k
  induction k with
  | zero =>
    intro n hn _ _ w
    have hn : n < 10 := by simpa using hn
    have hf := figs_small hn
    obtain ⟨x, hx⟩ : ∃ x, x = UInt8.ofNat (48 + n) := ⟨_, rfl⟩
    have hxn : x.toNat = 48 + n := by rw [hx]; exact dig_ok n hn
    rw [hf, ← hx]
    obtain ⟨w1, hw1⟩ : ∃ w1, w1 = w.alloc (.cells #[.int .u8 (48 + (n : Int))] 5) := ⟨_, rfl⟩
    have b1 : Below w.heap.size w w1 := by rw [hw1]; exact (Below.refl _ _).alloc (Nat.le_refl _) _
    have hr : Rb w1 (w.heap.size + 1) (some ⟨w.heap.size, 0, none⟩) 1 1 [x] := by rw [hw1]; exact Rb.oneI w _ _ x (by omega)
    have hc := bty.conv hr
    have W1 := Lib.hid hw1; have B1 := Lib.hid b1
    have e1 : (n : Int) % 10 = (n : Int) := by omega
    have e2 : IntKind.u64.wrap (48 + (n : Int)) = 48 + (n : Int) := IntWalk.u64_in _ (by omega)
    have e3 : IntKind.u8.wrap (48 + (n : Int)) = 48 + (n : Int) := IntWalk.u8_in _ (by omega)
    have d1 : decide ((n : Int) < 10) = true := by simp; omega
    have d2 : decide (n < 10) = true := decide_eq_true hn
    clear hf hx hxn hw1 b1 hr
    go_enter Tryz.func41, Tryz.ntmps41
    go_wp2_with (rw [← W1.out])
    go_ret
    exact ⟨rfl, B1.out⟩
  | succ k ih =>
    intro n hn hk hn64 w
    by_cases h10 : n < 10
    · exact ih n (Nat.lt_of_lt_of_le h10 (by rw [Nat.pow_succ]; have h := Nat.pow_pos (n := k) (show 0 < 10 by omega); omega)) (by omega) hn64 w
    · have hd : n / 10 < 10 ^ (k + 1) := by
        rw [Nat.pow_succ] at hn
        exact Nat.div_lt_of_lt_mul (by rw [Nat.mul_comm]; exact hn)
      have hf := figs_big h10
      have hDl := (digs_figs k (n / 10) hd).2.1
      obtain ⟨m, hm⟩ : ∃ m, m = n / 10 := ⟨_, rfl⟩
      rw [← hm] at hd hf hDl
      obtain ⟨x, hx⟩ : ∃ x, x = UInt8.ofNat (48 + n % 10) := ⟨_, rfl⟩
      have hxn : x.toNat = 48 + n % 10 := by rw [hx]; exact dig_ok _ (by omega)
      obtain ⟨D, hD⟩ : ∃ D, D = figs m := ⟨_, rfl⟩
      have hrec := fun W => ih m hd (by omega) (by omega) W
      rw [← hD] at hf hDl
      simp only [← hD] at hrec
      rw [hf, ← hx]
      obtain ⟨w1, hw1⟩ : ∃ w1, w1 = w.alloc (.cells #[.int .u8 (48 + (n : Int) % 10)] 5) := ⟨_, rfl⟩
      have b1 : Below w.heap.size w w1 := by rw [hw1]; exact (Below.refl _ _).alloc (Nat.le_refl _) _
      have hr : Rb w1 (w.heap.size + 1) (some ⟨w.heap.size, 0, none⟩) 1 1 [x] := by rw [hw1]; exact Rb.oneI w _ _ x (by omega)
      have hc := bty.conv hr
      have W1 := Lib.hid hw1; have B1 := Lib.hid b1; have Hrec := Lib.hid hrec
      have e2 : IntKind.u64.wrap (48 + (n : Int) % 10) = 48 + (n : Int) % 10 := IntWalk.u64_in _ (by omega)
      have e3 : IntKind.u8.wrap (48 + (n : Int) % 10) = 48 + (n : Int) % 10 := IntWalk.u8_in _ (by omega)
      have e4 : (n : Int) / 10 = (m : Int) := by omega
      have d1 : decide ((n : Int) < 10) = false := by simp; omega
      have d2 : decide (n < 10) = false := decide_eq_false h10
      have k1 : ¬ 9223372036854775807 < D.length + 1 := by omega
      clear hf hx hxn hw1 b1 hr hrec hD hm hd ih hn hDl
      go_enter Tryz.func41, Tryz.ntmps41
      go_wp2_with (rw [← W1.out])
      refine (Hrec.out w1).mono ?_
      rintro e w2 ⟨rfl, b2⟩
      have bb := B1.out.trans (b2.mono B1.out.size)
      clear b2 hc
      go_wp2
      go_ret
      refine ⟨?_, bb⟩
      first | rfl | simp
theorem pow20 : (10 : Nat) ^ (19 + 1) = 100000000000000000000 := by decide +kernel

set_option maxRecDepth 100000 in
set_option maxHeartbeats 1000000 in
theorem figuresI_c (n : Int) (hn : I n) (w : World) : Calls Tryz.prog 26 #[.int .i64 n] w (RetV w (st (figures n))) := by
  unfold I at hn
  by_cases h0 : n < 0
  · obtain ⟨m, hm⟩ : ∃ m, m = (-n).toNat := ⟨_, rfl⟩
    have hf : figures n = 45 :: figs m := by unfold figures; rw [if_pos h0, ← hm]
    have hrec := figures_c 19 m (by rw [pow20]; omega) (by omega) (by omega) w
    have hl := (digs_figs 19 m (by rw [pow20]; omega)).2.1
    obtain ⟨D, hD⟩ : ∃ D, D = figs m := ⟨_, rfl⟩
    rw [← hD] at hrec hf hl
    rw [hf]
    have d1 : decide (n < 0) = true := decide_eq_true h0
    have e1 : IntKind.u64.wrap n = 18446744073709551616 + n := by rw [IntKind.wrap_u64]; omega
    have e2 : IntKind.u64.wrap (0 - (18446744073709551616 + n)) = (m : Int) := by rw [IntKind.wrap_u64]; omega
    have e3 : IntKind.u64.wrap (-(18446744073709551616 + n)) = (m : Int) := by rw [IntKind.wrap_u64]; omega
    have k1 : ¬ 9223372036854775807 < 1 + D.length := by omega
    have k2 : ¬ 9223372036854775807 < D.length + 1 := by omega
    have Hrec := Lib.hid hrec
    clear hrec hf hl hD hm
    go_enter Tryz.func26, Tryz.ntmps26
    go_wp2_with fail
    refine Hrec.out.mono ?_
    rintro e w2 ⟨rfl, b2⟩
    go_wp2
    go_ret
    refine ⟨?_, b2⟩
    first | rfl | simp
  · obtain ⟨m, hm⟩ : ∃ m, m = n.toNat := ⟨_, rfl⟩
    have hf : figures n = figs m := by unfold figures; rw [if_neg h0, ← hm]
    have hrec := figures_c 19 m (by rw [pow20]; omega) (by omega) (by omega) w
    rw [hf]
    have d1 : decide (n < 0) = false := decide_eq_false h0
    have e1 : IntKind.u64.wrap n = (m : Int) := by rw [IntKind.wrap_u64]; omega
    have Hrec := Lib.hid hrec
    clear hrec hf hm
    go_enter Tryz.func26, Tryz.ntmps26
    go_wp2_with fail
    refine Hrec.out.mono ?_
    rintro e w2 ⟨rfl, b2⟩
    go_wp2
    go_ret
    exact ⟨rfl, b2⟩
end Go.Proofs.YtpdapgbamlcjjaaGreatDoor
