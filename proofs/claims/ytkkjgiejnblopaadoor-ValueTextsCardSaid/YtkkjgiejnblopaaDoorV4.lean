/-
  The document's slice, Hash, number.
-/
import Derived.Test.YtkkjgiejnblopaaDoorV3
import Derived.Test.YtkkjgiejnblopaaDoorC32
namespace Go.Proofs.YtkkjgiejnblopaaDoor
open Go.RowKit Vl

set_option maxRecDepth 100000 in
theorem slice_c (s : List UInt8) (hs : s.length ≤ 1000000) (f m : Int) (w : World) : Calls Tryd.prog 54 #[st s, .int .i64 f, .int .i64 m] w fun e w' => e = .returned (st (slc s f m)) ∧ w = w' := by
  obtain ⟨X, hX⟩ : ∃ X : ByteArray, X = ⟨s.toArray⟩ := ⟨_, rfl⟩
  have hXs : X.size = s.length := by rw [hX]; rfl
  obtain ⟨a, ha⟩ : ∃ a, a = (min (max f 0) (s.length : Int)).toNat := ⟨_, rfl⟩
  obtain ⟨k, hk⟩ : ∃ k, k = (min (max m 0) ((s.length : Int) - (a : Int))).toNat := ⟨_, rfl⟩
  have e1 : X.extract a (a + k) = ⟨(slc s f m).toArray⟩ := by rw [hX, ext_eq]; unfold slc; dsimp only; rw [← ha, ← hk]
  have e2 : min (max f 0) (X.size : Int) = (a : Int) := by omega
  have e3 : a ≤ X.size := by omega
  have e4 : IntKind.i64.wrap ((X.size : Int) - (a : Int)) = ((X.size - a : Nat) : Int) := by rw [IntWalk.i64_in _ (by omega)]; omega
  have e5 : min (max m 0) ((X.size - a : Nat) : Int) = (k : Int) := by omega
  have e5' : min (max m 0) ((X.size : Int) - (a : Int)) = (k : Int) := by omega
  have e6 : a + k ≤ X.size := by omega
  have e7 : X.size ≤ 1000000 := by omega
  have E1 := Lib.hid e1
  show Calls _ _ #[.string ⟨s.toArray⟩, _, _] _ _
  rw [← hX]
  clear e1 hs hXs hX ha hk
  go_enter Tryd.func54, Tryd.ntmps54
  go_wp2
  go_ret
  exact ⟨congrArg (fun x => Ending.returned (.string x)) E1.out, rfl⟩

theorem str_drop (s : ByteArray) (k : Nat) (h : k < s.size) : s.data.toList.drop k = s[k] :: s.data.toList.drop (k + 1) := by
  have h2 : k < s.data.toList.length := by rw [Array.length_toList]; exact h
  rw [List.drop_eq_getElem_cons h2]
  rfl
theorem hs_cons (c : UInt8) (l : List UInt8) (h : Nat) : hs (c :: l) h = hs l (hstep h c) := by unfold hs; exact List.foldl_cons ..
theorem hs_nil (h : Nat) : hs [] h = h := by unfold hs; exact List.foldl_nil ..
theorem hs_lt (M : Nat) (hM : ∀ h c, hstep h c < M) (l : List UInt8) : ∀ h : Nat, h < M → hs l h < M := by
  induction l with
  | nil => intro h hh; rw [hs_nil]; exact hh
  | cons c l ih => intro h _; rw [hs_cons]; exact ih _ (hM h c)
def HsRel (X : ByteArray) (n N : Nat) (h i : Value) : Prop := ∃ k q : Nat, k ≤ n ∧ h = .int .u32 (q : Int) ∧ i = .int .i64 (k : Int) ∧ Hid (hs (X.data.toList.drop k) q = N ∧ q < 4294967296)

set_option maxRecDepth 100000 in
set_option maxHeartbeats 1000000 in
theorem hash_c (s : List UInt8) (hs1 : s.length ≤ 1000000) (w : World) : Calls Tryd.prog 58 #[st s] w fun e w' => e = .returned (.int .i64 (Vl.hash s : Int)) ∧ w = w' := by
  obtain ⟨X, hX⟩ : ∃ X : ByteArray, X = ⟨s.toArray⟩ := ⟨_, rfl⟩
  have hXs : X.size = s.length := by rw [hX]; rfl
  have hXl : X.data.toList = s := by rw [hX]
  obtain ⟨N, hN⟩ : ∃ N, N = hs s 2166136261 := ⟨_, rfl⟩
  have hNl : N < 4294967296 := by rw [hN]; exact hs_lt _ hstep_lt _ _ (by omega)
  have hh : Vl.hash s = N % 2147483648 := by rw [hN]; unfold Vl.hash; rfl
  rw [hh]
  show Calls _ _ #[.string ⟨s.toArray⟩] _ _
  rw [← hX]
  have HN := Lib.hid (show hs (X.data.toList.drop 0) 2166136261 = N by rw [hXl, hN, List.drop_zero])
  have hz : X.size ≤ 1000000 := by omega
  clear hh hN hX hXs hXl
  go_enter Tryd.func58, Tryd.ntmps58
  go_wp2
  go_loop [3, 4] (fun h i => HsRel X X.size N h i) (fun _ i => X.size - (intOf i).toNat)
  case atStart => exact ⟨0, 2166136261, by omega, rfl, rfl, Lib.hid ⟨HN.out, by omega⟩⟩
  case round =>
    obtain ⟨k, q, hk, rfl, rfl, H⟩ := hrel
    by_cases hlt : k < X.size
    · have hb := (X[k]).toNat_lt
      have hq := H.out.2
      have e1 : bits .xor .u32 (q : Int) ((X[k]).toNat : Int) = ((q ^^^ (X[k]).toNat : Nat) : Int) := xor32 _ _ rfl rfl hq (by omega)
      have hd := str_drop X k hlt
      have Hd := Lib.hid hd
      clear hd hq
      go_wp2
      go_round
      case rel =>
        refine ⟨k + 1, hstep q X[k], by omega, ?_, by go_num, Lib.hid ⟨?_, hstep_lt _ _⟩⟩
        · unfold hstep
          first | rfl | (congr 1; simp [IntKind.wrap_u32]) | (simp [IntKind.wrap_u32]; omega)
        · have := H.out.1
          rw [Hd.out, hs_cons] at this
          exact this
      case measure => simp [intOf]; omega
    · obtain rfl : k = X.size := by omega
      have hNq : q = N := by
        have := H.out.1
        rw [List.drop_of_length_le (by rw [Array.length_toList]; exact Nat.le_refl _), hs_nil] at this
        exact this
      subst hNq
      go_wp2
      go_ret
      refine ⟨?_, rfl⟩
      first | rfl | (congr 2; omega)
end Go.Proofs.YtkkjgiejnblopaaDoor
