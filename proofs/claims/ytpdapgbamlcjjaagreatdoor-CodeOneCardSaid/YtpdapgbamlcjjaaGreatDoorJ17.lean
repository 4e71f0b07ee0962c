/-
  Joined: D5 D6.
-/
import Derived.Test.YtpdapgbamlcjjaaGreatDoorJ16
/-
  The document's unquoted.
-/
namespace Go.Proofs.YtpdapgbamlcjjaaGreatDoor
open Go.RowKit Vl Cd

theorem sidx (X : ByteArray) (j : Nat) (i : Int) (hj : i = (j : Int)) (h : j < X.size) (W : World) : (Instr.index 9 (.string X) (.int .i64 i)).run Tryz.prog W = .ok (.int .u8 ((X[j]'h).toNat : Int)) W := by
  subst hj
  simp [Instr.index, asIntOf, run_underlying Tryz.underlying9, h, go_sem]

/-- What is left of a quote, and what it will give. -/
def Lq (s : List UInt8) (k : Nat) (U : List UInt8) : Prop := ∀ x, s = qt x → ∃ r, s.drop k = escs r ++ [34] ∧ x = U ++ r
theorem Lq.start (s : List UInt8) : Lq s 1 [] := fun x h => ⟨x, by rw [h]; rfl, rfl⟩
theorem Lq.fin {s : List UInt8} {k : Nat} {U : List UInt8} (h : Lq s k U) (hk : s.length ≤ k + 1) : ∀ x, s = qt x → U = x := fun x e => by
  obtain ⟨r, h1, h2⟩ := h x e
  have := congrArg List.length h1
  rw [List.length_drop, List.length_append] at this
  have h3 := (escs_len r).2
  have : r.length = 0 := by simp only [List.length_cons, List.length_nil] at this; omega
  rw [h2, List.length_eq_zero_iff.1 this, List.append_nil]
theorem Lq.cases {s : List UInt8} {k : Nat} {U : List UInt8} {c : UInt8} {tl : List UInt8} (h : Lq s k U) (hk : k + 1 < s.length) (hd : s.drop k = c :: tl) {x : List UInt8} (e : s = qt x) :
    ∃ c0 r, esc c0 ++ (escs r ++ [34]) = c :: tl ∧ x = U ++ c0 :: r := by
  obtain ⟨r, h1, h2⟩ := h x e
  cases r with
  | nil =>
    have := congrArg List.length h1
    rw [List.length_drop] at this
    simp [escs] at this
    omega
  | cons c0 r => exact ⟨c0, r, by rw [← hd, h1, escs_cons, List.append_assoc], h2⟩
theorem Lq.plain {s : List UInt8} {k : Nat} {U : List UInt8} {c : UInt8} (h : Lq s k U) (hk : k + 1 < s.length) (hd : s.drop k = c :: s.drop (k + 1)) (hn : ¬ (c = 92 ∧ k + 2 < s.length)) : Lq s (k + 1) (U ++ [c]) := fun x e => by
  obtain ⟨c0, r, h1, h2⟩ := h.cases hk hd e
  have bad : ∀ d, 92 :: d :: (escs r ++ [34]) = c :: s.drop (k + 1) → False := fun d q => by
    injection q with q1 q2
    refine hn ⟨q1.symm, ?_⟩
    have := congrArg List.length q2
    rw [List.length_drop] at this
    simp at this
    omega
  unfold esc at h1
  split at h1
  · exact (bad 92 h1).elim
  · split at h1
    · exact (bad 34 h1).elim
    · split at h1
      · exact (bad 110 h1).elim
      · injection h1 with q1 q2
        exact ⟨r, q2.symm, by rw [h2, q1]; simp⟩
theorem Lq.esc_ {s : List UInt8} {k : Nat} {U : List UInt8} {d : UInt8} (h : Lq s k U) (hk : k + 1 < s.length) (hd : s.drop k = 92 :: d :: s.drop (k + 2)) : Lq s (k + 2) (U ++ [if d = 110 then 10 else d]) := fun x e => by
  obtain ⟨c0, r, h1, h2⟩ := h.cases hk hd e
  unfold esc at h1
  split at h1
  · rename_i hc
    injection h1 with _ q; injection q with q1 q2
    exact ⟨r, q2.symm, by rw [h2, ← q1, hc]; simp⟩
  · split at h1
    · rename_i hc
      injection h1 with _ q; injection q with q1 q2
      exact ⟨r, q2.symm, by rw [h2, ← q1, hc]; simp⟩
    · split at h1
      · rename_i hc
        injection h1 with _ q; injection q with q1 q2
        exact ⟨r, q2.symm, by rw [h2, ← q1, hc]; simp⟩
      · rename_i hc _ _
        injection h1 with q1 q2
        exact absurd q1 hc
def UqRel (w : World) (X : ByteArray) (t3 t4 : Value) (wr : World) : Prop :=
  ∃ (A : Option Addr) (c k : Nat) (U : List UInt8), k ≤ X.size + 1 ∧ t3 = .slice A U.length c ∧ t4 = .int .i64 (k : Int) ∧ U.length ≤ k ∧ Lq X.data.toList k U ∧ Own wr 5 w.heap.size A c U ∧ Below w.heap.size w wr
set_option maxRecDepth 100000 in
set_option maxHeartbeats 4000000 in
theorem runquoted_c (s : List UInt8) (hs1 : s.length ≤ 1000000) (w : World) : Calls Tryz.prog 31 #[st s] w fun e w' => ∃ u : List UInt8, e = .returned (st u) ∧ (∀ x, s = qt x → u = x) ∧ Below w.heap.size w w' := by
  obtain ⟨X, hX, hXs, -, hXl⟩ := hide_st s
  show Calls _ _ #[.string ⟨s.toArray⟩] _ _
  rw [← hX, ← hXl]
  have hz : X.size ≤ 1000000 := by omega
  have hXL : X.data.toList.length = X.size := by rw [hXl, hXs]
  have HXL := Lib.hid hXL
  clear hX hXs hXl hXL
  obtain ⟨w1, hw1⟩ : ∃ w1, w1 = w.alloc (.cells #[] 5) := ⟨_, rfl⟩
  have b1 : Below w.heap.size w w1 := by rw [hw1]; exact (Below.refl _ _).alloc (Nat.le_refl _) _
  have own1 : Own w1 5 w.heap.size (some ⟨w.heap.size, 0, none⟩) 0 [] := by rw [hw1]; exact Own.made0 w _
  have W1 := Lib.hid hw1; have B1 := Lib.hid b1; have Own1 := Lib.hid own1
  clear hw1 b1 own1
  go_enter Tryz.func31, Tryz.ntmps31
  go_wp2_with (rw [← W1.out])
  go_loopw [3, 4] (fun t3 t4 wr => UqRel w X t3 t4 wr) (fun _ t4 _ => X.size + 1 - (intOf t4).toNat)
  case atStart => exact ⟨_, _, 1, [], by omega, rfl, rfl, Nat.zero_le _, Lq.start _, Own1.out, B1.out⟩
  case round =>
    obtain ⟨A0, c0, k, U, hk, rfl, rfl, hul, hlq, hown, hbel⟩ := hrel
    have Own0 := Lib.hid hown; have Bel0 := Lib.hid hbel; have HUl := Lib.hid hul; have HLq := Lib.hid hlq
    clear hown hbel hul hlq
    by_cases hlt1 : k + 1 < X.size
    · have hlt : k < X.size := by omega
      have Hlt := Lib.hid hlt1
      have hd1 := str_drop X k hlt
      have hd2 := str_drop X (k + 1) hlt1
      have c1 : decide ((k : Int) + 1 < (X.size : Int)) = true := decide_eq_true (by omega)
      have hkl := Lib.hid (show k + 1 < X.data.toList.length by rw [HXL.out]; exact hlt1)
      obtain ⟨y, hy⟩ : ∃ y, y = X[k + 1]'hlt1 := ⟨_, rfl⟩
      obtain ⟨v, hv, hix⟩ : ∃ v : Int, v = (y.toNat : Int) ∧ ∀ W, (Instr.index 9 (.string X) (.int .i64 ((k : Int) + 1))).run Tryz.prog W = .ok (.int .u8 v) W := ⟨_, by rw [hy], sidx X (k + 1) ((k : Int) + 1) (by omega) hlt1⟩
      by_cases h1 : X[k] = 92
      · have hx : (X[k]).toNat = 92 := by rw [h1]; rfl
        have d1 : ((X[k]).toNat == 92) = true := beq_iff_eq.2 hx
        have d2 : (((X[k]).toNat : Int) == 92) = true := beq_iff_eq.2 (by omega)
        by_cases h2 : k + 2 < X.size
        · have c2 : decide ((k : Int) + 2 < (X.size : Int)) = true := decide_eq_true (by omega)
          have hI := HLq.out.esc_ hkl.out (show X.data.toList.drop k = 92 :: y :: X.data.toList.drop (k + 2) by rw [hd1, hd2, h1, hy])
          by_cases h3 : y = 110
          · have hx3 : v = 110 := by rw [hv, h3]; rfl
            have d4 : (v == 110) = true := beq_iff_eq.2 hx3
            rw [if_pos h3] at hI
            have HI := Lib.hid hI
            clear hI h1 h2 h3 hx hx3 hd1 hd2 hv hy
            obtain ⟨w5, hw5⟩ : ∃ w5, w5 = wr.alloc (.cells #[.int .u8 10] 5) := ⟨_, rfl⟩
            have b5 : Below wr.heap.size wr w5 := by rw [hw5]; exact (Below.refl _ _).alloc (Nat.le_refl _) _
            have hr5 : Rb w5 (wr.heap.size + 1) (some ⟨wr.heap.size, 0, none⟩) 1 1 [10] := by rw [hw5]; exact Rb.lit wr _ (0, 0) #[.int .u8 10] [10] 1 rfl rfl (by omega)
            have own5 : Own w5 5 w.heap.size A0 c0 U := by rw [hw5]; exact Own0.out.alloc _
            have bb5 := Bel0.out.trans (b5.mono Bel0.out.size)
            have W5 := Lib.hid hw5; have Hr5 := Lib.hid hr5; have Own5 := Lib.hid own5; have BB5 := Lib.hid bb5; have Z5 := Lib.hid bb5.size
            have SN := Lib.hid (show (U ++ [10]).length ≤ 140737488355328 by rw [List.length_append]; simp only [List.length_cons, List.length_nil]; have := HUl.out; omega)
            clear hw5 b5 hr5 own5 bb5
            go_wp2_with (at_builtin; rw [← W5.out]; go_must (refine bty.wpAppTo rfl (.tmp 33) (.tmp 35) rfl (l := U) (r := [10]) (N := U ++ [10]) rfl rfl Own5.out Hr5.out rfl ?pa1 ?pa2 ?_))
            case pa1 => exact SN.out
            case pa2 => exact Z5.out
            intro A6 c6 w6 own6 g6
            have b6 := g6.below Own5.out Z5.out
            have BB6 := Lib.hid (BB5.out.trans b6)
            have Own6 := Lib.hid own6
            clear own6 g6 b6
            go_wp2
            go_roundw
            case rel => exact ⟨A6, c6, k + 2, _, by have := Hlt.out; omega, by simp, by go_num, by rw [List.length_append]; simp only [List.length_cons, List.length_nil]; have := HUl.out; omega, HI.out, Own6.out, BB6.out⟩
            case measure => have := Hlt.out; simp [intOf]; omega
          · have hx3 : v ≠ 110 := fun q => h3 (UInt8.toNat_inj.1 (by show y.toNat = 110; omega))
            have d4 : (v == 110) = false := beq_eq_false_iff_ne.2 hx3
            rw [if_neg h3] at hI
            have HI := Lib.hid hI; have HV := Lib.hid hv
            clear hI h1 h2 h3 hx hx3 hd1 hd2 hy hv
            obtain ⟨w5, hw5⟩ : ∃ w5, w5 = wr.alloc (.cells #[.int .u8 v] 5) := ⟨_, rfl⟩
            have b5 : Below wr.heap.size wr w5 := by rw [hw5]; exact (Below.refl _ _).alloc (Nat.le_refl _) _
            have hr5 : Rb w5 (wr.heap.size + 1) (some ⟨wr.heap.size, 0, none⟩) 1 1 [y] := by rw [hw5]; exact Rb.oneI wr _ v y HV.out
            have own5 : Own w5 5 w.heap.size A0 c0 U := by rw [hw5]; exact Own0.out.alloc _
            have bb5 := Bel0.out.trans (b5.mono Bel0.out.size)
            have W5 := Lib.hid hw5; have Hr5 := Lib.hid hr5; have Own5 := Lib.hid own5; have BB5 := Lib.hid bb5; have Z5 := Lib.hid bb5.size
            have SN := Lib.hid (show (U ++ [y]).length ≤ 140737488355328 by rw [List.length_append]; simp only [List.length_cons, List.length_nil]; have := HUl.out; omega)
            clear hw5 b5 hr5 own5 bb5
            go_wp2_with (at_builtin; rw [← W5.out]; go_must (refine bty.wpAppTo rfl (.tmp 33) (.tmp 35) rfl (l := U) (r := [y]) (N := U ++ [y]) rfl rfl Own5.out Hr5.out rfl ?pb1 ?pb2 ?_))
            case pb1 => exact SN.out
            case pb2 => exact Z5.out
            intro A6 c6 w6 own6 g6
            have b6 := g6.below Own5.out Z5.out
            have BB6 := Lib.hid (BB5.out.trans b6)
            have Own6 := Lib.hid own6
            clear own6 g6 b6
            go_wp2
            go_roundw
            case rel => exact ⟨A6, c6, k + 2, _, by have := Hlt.out; omega, by simp, by go_num, by rw [List.length_append]; simp only [List.length_cons, List.length_nil]; have := HUl.out; omega, HI.out, Own6.out, BB6.out⟩
            case measure => have := Hlt.out; simp [intOf]; omega
        · have c2 : decide ((k : Int) + 2 < (X.size : Int)) = false := decide_eq_false (by omega)
          have hI := HLq.out.plain hkl.out hd1 (fun q => h2 (by have := q.2; rw [HXL.out] at this; exact this))
          have HI := Lib.hid hI
          clear hI h1 h2 hx hd1 hd2
          obtain ⟨w5, hw5⟩ : ∃ w5, w5 = wr.alloc (.cells #[.int .u8 ((X[k]).toNat : Int)] 5) := ⟨_, rfl⟩
          have b5 : Below wr.heap.size wr w5 := by rw [hw5]; exact (Below.refl _ _).alloc (Nat.le_refl _) _
          have hr5 : Rb w5 (wr.heap.size + 1) (some ⟨wr.heap.size, 0, none⟩) 1 1 [X[k]] := by rw [hw5]; exact Rb.one wr _ X[k]
          have own5 : Own w5 5 w.heap.size A0 c0 U := by rw [hw5]; exact Own0.out.alloc _
          have bb5 := Bel0.out.trans (b5.mono Bel0.out.size)
          have W5 := Lib.hid hw5; have Hr5 := Lib.hid hr5; have Own5 := Lib.hid own5; have BB5 := Lib.hid bb5; have Z5 := Lib.hid bb5.size
          have SN := Lib.hid (show (U ++ [X[k]]).length ≤ 140737488355328 by rw [List.length_append]; simp only [List.length_cons, List.length_nil]; have := HUl.out; omega)
          clear hw5 b5 hr5 own5 bb5
          go_wp2_with (at_builtin; rw [← W5.out]; go_must (refine bty.wpAppTo rfl (.tmp 33) (.tmp 35) rfl (l := U) (r := [X[k]]) (N := U ++ [X[k]]) rfl rfl Own5.out Hr5.out rfl ?pc1 ?pc2 ?_))
          case pc1 => exact SN.out
          case pc2 => exact Z5.out
          intro A6 c6 w6 own6 g6
          have b6 := g6.below Own5.out Z5.out
          have BB6 := Lib.hid (BB5.out.trans b6)
          have Own6 := Lib.hid own6
          clear own6 g6 b6
          go_wp2
          go_roundw
          case rel => exact ⟨A6, c6, k + 1, _, by have := Hlt.out; omega, by simp, by go_num, by rw [List.length_append]; simp only [List.length_cons, List.length_nil]; have := HUl.out; omega, HI.out, Own6.out, BB6.out⟩
          case measure => have := Hlt.out; simp [intOf]; omega
      · have hx : (X[k]).toNat ≠ 92 := fun q => h1 (UInt8.toNat_inj.1 q)
        have d1 : ((X[k]).toNat == 92) = false := beq_eq_false_iff_ne.2 hx
        have d2 : (((X[k]).toNat : Int) == 92) = false := beq_eq_false_iff_ne.2 (fun q => hx (by omega))
        have hI := HLq.out.plain hkl.out hd1 (fun q => h1 q.1)
        have HI := Lib.hid hI
        clear hI h1 hx hd1 hd2
        obtain ⟨w5, hw5⟩ : ∃ w5, w5 = wr.alloc (.cells #[.int .u8 ((X[k]).toNat : Int)] 5) := ⟨_, rfl⟩
        have b5 : Below wr.heap.size wr w5 := by rw [hw5]; exact (Below.refl _ _).alloc (Nat.le_refl _) _
        have hr5 : Rb w5 (wr.heap.size + 1) (some ⟨wr.heap.size, 0, none⟩) 1 1 [X[k]] := by rw [hw5]; exact Rb.one wr _ X[k]
        have own5 : Own w5 5 w.heap.size A0 c0 U := by rw [hw5]; exact Own0.out.alloc _
        have bb5 := Bel0.out.trans (b5.mono Bel0.out.size)
        have W5 := Lib.hid hw5; have Hr5 := Lib.hid hr5; have Own5 := Lib.hid own5; have BB5 := Lib.hid bb5; have Z5 := Lib.hid bb5.size
        have SN := Lib.hid (show (U ++ [X[k]]).length ≤ 140737488355328 by rw [List.length_append]; simp only [List.length_cons, List.length_nil]; have := HUl.out; omega)
        clear hw5 b5 hr5 own5 bb5
        go_wp2_with (at_builtin; rw [← W5.out]; go_must (refine bty.wpAppTo rfl (.tmp 33) (.tmp 35) rfl (l := U) (r := [X[k]]) (N := U ++ [X[k]]) rfl rfl Own5.out Hr5.out rfl ?pd1 ?pd2 ?_))
        case pd1 => exact SN.out
        case pd2 => exact Z5.out
        intro A6 c6 w6 own6 g6
        have b6 := g6.below Own5.out Z5.out
        have BB6 := Lib.hid (BB5.out.trans b6)
        have Own6 := Lib.hid own6
        clear own6 g6 b6
        go_wp2
        go_roundw
        case rel => exact ⟨A6, c6, k + 1, _, by have := Hlt.out; omega, by simp, by go_num, by rw [List.length_append]; simp only [List.length_cons, List.length_nil]; have := HUl.out; omega, HI.out, Own6.out, BB6.out⟩
        case measure => have := Hlt.out; simp [intOf]; omega
    · have c1 : decide ((k : Int) + 1 < (X.size : Int)) = false := decide_eq_false (by omega)
      have hf := HLq.out.fin (by rw [HXL.out]; omega)
      have HF := Lib.hid hf
      have hc := bty.conv Own0.out.rb
      clear hf hlt1
      go_wp2
      go_ret
      exact ⟨U, rfl, HF.out, Bel0.out⟩
end Go.Proofs.YtpdapgbamlcjjaaGreatDoor

/-
  The document's number.
-/
namespace Go.Proofs.YtpdapgbamlcjjaaGreatDoor
open Go.RowKit Vl Cd

theorem w64_def (x : Int) : w64 x = (x + 9223372036854775808) % 18446744073709551616 - 9223372036854775808 := by unfold w64; rw [IntKind.wrap_i64]
theorem w64_step (F c : Int) : w64 (w64 (w64 (10 * w64 F) + c) - 48) = w64 (10 * F + (c - 48)) := by
  simp only [w64_def]; omega
theorem w64_neg (F : Int) : w64 (-(w64 F)) = w64 (-F) ∧ w64 (0 - w64 F) = w64 (-F) := by
  constructor <;> (simp only [w64_def]; omega)
def NuRel (w : World) (X : ByteArray) (t3 t4 : Value) (wr : World) : Prop :=
  ∃ (k : Nat), k ≤ X.size ∧ t3 = .int .i64 (w64 (fold (X.data.toList.take k) 0)) ∧ t4 = .int .i64 (k : Int) ∧ wr = w
set_option maxRecDepth 100000 in
set_option maxHeartbeats 4000000 in
theorem rnumber_c (s : List UInt8) (hs1 : s.length ≤ 1000000) (w : World) : Calls Tryz.prog 32 #[st s] w fun e w' => e = .returned (.int .i64 (numb s)) ∧ w' = w := by
  obtain ⟨X, hX, hXs, -, hXl⟩ := hide_st s
  show Calls _ _ #[.string ⟨s.toArray⟩] _ _
  rw [← hX, ← hXl]
  have hz : X.size ≤ 1000000 := by omega
  have hXL : X.data.toList.length = X.size := by rw [hXl, hXs]
  have HXL := Lib.hid hXL
  clear hX hXs hXl hXL
  have h64 : ∀ x, IntKind.i64.wrap x = w64 x := fun _ => rfl
  have h64' : ∀ x, RowKit.wrap64 x = w64 x := fun x => (IntWalk.i64_left x).symm
  have H64 := Lib.hid h64; have H64' := Lib.hid h64'
  clear h64 h64'
  go_enter Tryz.func32, Tryz.ntmps32
  go_wp2
  go_loopw [3, 4] (fun t3 t4 wr => NuRel w X t3 t4 wr) (fun _ t4 _ => X.size - (intOf t4).toNat)
  case atStart => exact ⟨0, Nat.zero_le _, by rw [List.take_zero]; exact congrArg _ (by decide +kernel), rfl, rfl⟩
  case round =>
    obtain ⟨k, hk, rfl, rfl, rfl⟩ := hrel
    obtain ⟨F, hF⟩ : ∃ F, F = fold (X.data.toList.take k) 0 := ⟨_, rfl⟩
    rw [← hF]
    obtain ⟨N, hN⟩ : ∃ N, N = w64 F := ⟨_, rfl⟩
    rw [← hN]
    have HF := Lib.hid hF; have HN := Lib.hid hN
    clear hF hN
    by_cases hlt : k < X.size
    · have htk := str_take X k hlt
      by_cases h1 : X[k] = 45
      · have hx : (X[k]).toNat = 45 := by rw [h1]; rfl
        have d1 : ((X[k]).toNat == 45) = true := beq_iff_eq.2 hx
        have d2 : (((X[k]).toNat : Int) == 45) = true := beq_iff_eq.2 (by omega)
        have d3 : ((X[k]).toNat != 45) = false := by rw [bne, d1]; rfl
        have d4 : (((X[k]).toNat : Int) != 45) = false := by rw [bne, d2]; rfl
        have HE := Lib.hid (show N = w64 (fold (X.data.toList.take (k + 1)) 0) by rw [htk, fold_app, ← HF.out, fold, fold, if_pos h1, HN.out])
        clear h1 hx htk
        go_wp2
        go_roundw
        case rel => exact ⟨k + 1, hlt, by rw [← HE.out], by go_num, rfl⟩
        case measure => simp [intOf]; omega
      · have hx : (X[k]).toNat ≠ 45 := fun q => h1 (UInt8.toNat_inj.1 q)
        have d1 : ((X[k]).toNat == 45) = false := beq_eq_false_iff_ne.2 hx
        have d2 : (((X[k]).toNat : Int) == 45) = false := beq_eq_false_iff_ne.2 (fun q => hx (by omega))
        have d3 : ((X[k]).toNat != 45) = true := by rw [bne, d1]; rfl
        have d4 : (((X[k]).toNat : Int) != 45) = true := by rw [bne, d2]; rfl
        have HE := Lib.hid (show w64 (w64 (w64 (10 * N) + ((X[k]).toNat : Int)) - 48) = w64 (fold (X.data.toList.take (k + 1)) 0) by rw [htk, fold_app, ← HF.out, fold, fold, if_neg h1, HN.out, w64_step])
        have Hc := Lib.hid (show w64 ((X[k]).toNat : Int) = ((X[k]).toNat : Int) from w64_in (by have := (X[k]).toNat_lt; unfold I; omega))
        clear h1 hx htk
        go_wp2
        go_roundw
        case rel => exact ⟨k + 1, hlt, by rw [← HE.out]; first | rfl | simp only [H64'.out, Hc.out] | simp only [H64.out, H64'.out, Hc.out], by go_num, rfl⟩
        case measure => simp [intOf]; omega
    · obtain rfl : k = X.size := by omega
      rw [List.take_of_length_le (by rw [HXL.out]; exact Nat.le_refl _)] at HF
      by_cases h0 : 0 < X.size
      · have c1 : decide ((0 : Int) < (X.size : Int)) = true := decide_eq_true (by omega)
        have hd := str_drop X 0 h0
        rw [List.drop_zero] at hd
        have hh : X.data.toList.head? = some X[0] := by rw [hd]; rfl
        by_cases h1 : X[0] = 45
        · have hx : (X[0]).toNat = 45 := by rw [h1]; rfl
          have d1 : ((X[0]).toNat == 45) = true := beq_iff_eq.2 hx
          have d2 : (((X[0]).toNat : Int) == 45) = true := beq_iff_eq.2 (by omega)
          have hq := w64_neg F
          rw [← HN.out] at hq
          have HE := Lib.hid (show numb X.data.toList = w64 (-F) by unfold numb; rw [hh, h1, if_pos rfl, HF.out])
          have HQ := Lib.hid hq
          clear h1 hx hd hh hq
          go_wp2
          go_ret
          refine ⟨?_, rfl⟩
          rw [HE.out]
          first | (rw [← HQ.out.1]; rfl) | (rw [← HQ.out.2]; rfl) | (rw [← HQ.out.1]; simp only [H64'.out]; rfl) | (rw [← HQ.out.2]; simp only [H64.out, H64'.out]; rfl)
        · have hx : (X[0]).toNat ≠ 45 := fun q => h1 (UInt8.toNat_inj.1 q)
          have d1 : ((X[0]).toNat == 45) = false := beq_eq_false_iff_ne.2 hx
          have d2 : (((X[0]).toNat : Int) == 45) = false := beq_eq_false_iff_ne.2 (fun q => hx (by omega))
          have HE := Lib.hid (show numb X.data.toList = N by unfold numb; rw [hh, if_neg (fun q => h1 (Option.some.inj q)), HN.out, HF.out])
          clear h1 hx hd hh
          go_wp2
          go_ret
          exact ⟨by rw [HE.out]; rfl, rfl⟩
      · have c1 : decide ((0 : Int) < (X.size : Int)) = false := decide_eq_false (by omega)
        have hnil : X.data.toList = [] := List.length_eq_zero_iff.1 (by rw [HXL.out]; omega)
        have HE := Lib.hid (show numb X.data.toList = N by unfold numb; rw [HN.out, HF.out, hnil]; rfl)
        clear hnil
        go_wp2
        go_ret
        exact ⟨by rw [HE.out]; rfl, rfl⟩
end Go.Proofs.YtpdapgbamlcjjaaGreatDoor
