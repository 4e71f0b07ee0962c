/-
  The document's cut: what the call returns and leaves.
-/
import Derived.Test.YtihfejjkkgnneaaQ4
namespace Go.Proofs.Ytihfejjkkgnneaa
open Go.RowKit Go.Maps

/-- What stands between bytes of one kind, 'cur' being what is under way. -/
def cutGo (c : UInt8) : List UInt8 → List UInt8 → List (List UInt8)
  | cur, [] => [cur]
  | cur, x :: r => if x = c then cur :: cutGo c [] r else cutGo c (cur ++ [x]) r
theorem cg_nil (c : UInt8) (cur : List UInt8) : cutGo c cur [] = [cur] := by rw [cutGo]
theorem cg_cons (c : UInt8) (cur : List UInt8) (x : UInt8) (r : List UInt8) : cutGo c cur (x :: r) = if x = c then cur :: cutGo c [] r else cutGo c (cur ++ [x]) r := by rw [cutGo]
theorem cutGo_pre (c : UInt8) : ∀ (s cur : List UInt8), ∃ h t, Fm.cut c s = h :: t ∧ cutGo c cur s = (cur ++ h) :: t
  | [], cur => ⟨[], [], rfl, by rw [cg_nil]; simp⟩
  | x :: r, cur => by
    rw [cg_cons]
    by_cases hx : x = c
    · obtain ⟨h, t, h1, h2⟩ := cutGo_pre c r []
      refine ⟨[], Fm.cut c r, by rw [Fm.cut, if_pos hx], ?_⟩
      rw [if_pos hx, h2, h1]
      simp
    · obtain ⟨h, t, h1, h2⟩ := cutGo_pre c r (cur ++ [x])
      refine ⟨x :: h, t, by rw [Fm.cut, if_neg hx, h1], ?_⟩
      rw [if_neg hx, h2]
      simp
theorem cut_go (c : UInt8) (s : List UInt8) : Fm.cut c s = cutGo c [] s := by
  obtain ⟨h, t, h1, h2⟩ := cutGo_pre c s []
  rw [h1, h2, List.nil_append]

theorem ext_seg (s : ByteArray) (a b : Nat) : s.extract a b = ⟨(Fm.seg s a b).toArray⟩ := by
  apply str_eq
  rw [Fm.seg_extract]
theorem seg_self (s : ByteArray) (a : Nat) (_h : a ≤ s.size) : Fm.seg s a a = [] := by
  unfold Fm.seg
  exact List.drop_of_length_le (by rw [List.length_take]; omega)
theorem seg_next (s : ByteArray) (f k : Nat) (hf : f ≤ k) (hk : k < s.size) : Fm.seg s f (k + 1) = Fm.seg s f k ++ [s[k]] := by
  rw [← Fm.seg_app s f k (k + 1) hf (by omega) (by omega), Fm.seg_one s k hk]

def CutRel (base : Nat) (w : World) (c : UInt8) (s : ByteArray) (o f i : Value) (wr : World) : Prop :=
  ∃ A d L, ∃ m k : Nat, o = .slice A L.length d ∧ f = .int .i64 (m : Int) ∧ i = .int .i64 (k : Int) ∧ m ≤ k ∧ k ≤ s.size ∧ L.length ≤ k ∧ Oc 1 wr 9 base A L.length d (lvs L) ∧ Fm.cut c s.data.toList = L ++ cutGo c (Fm.seg s m k) (s.data.toList.drop k) ∧ Below base w wr

set_option maxRecDepth 100000 in
set_option maxHeartbeats 2000000 in
/-- the document's cut -/
theorem rcut_c (c : UInt8) (s : ByteArray) (w : World) (hs : s.size ≤ 100000) :
    Calls Try.prog 47 #[.string s, .int .u8 (c.toNat : Int)] w (RetW w.heap.size w (Fm.cut c s.data.toList)) := by
  go_enter Try.func47, Try.ntmps47
  go_wp2
  go_loopw [5, 6, 7] (fun o f i wr => CutRel w.heap.size w c s o f i wr) (fun _ _ i _ => s.size - (intOf i).toNat)
  case atStart => exact ⟨_, _, [], 0, 0, rfl, rfl, rfl, Nat.le_refl _, Nat.zero_le _, Nat.le_refl _, Oc.made0 1 _ _, by rw [cut_go, seg_self s 0 (Nat.zero_le _)]; simp, (Below.refl _ _).alloc (Nat.le_refl _) _⟩
  case round =>
    obtain ⟨A1, d1, L, m, k, rfl, rfl, rfl, hmk, hk, hLk, hown1, hC, hbel⟩ := hrel
    have hsz := hbel.size
    by_cases hlt : k < s.size
    · rw [str_next s k hlt, cg_cons] at hC
      by_cases hx : s[k] = c
      · have hb : ((s[k].toNat : Int) == (c.toNat : Int)) = true := by rw [hx]; simp
        rw [if_pos hx] at hC
        have hC2 : Fm.cut c s.data.toList = (L ++ [Fm.seg s m k]) ++ cutGo c (Fm.seg s (k + 1) (k + 1)) (s.data.toList.drop (k + 1)) := by
          rw [hC, seg_self s (k + 1) (by omega)]; simp
        have HC := Lib.hid hC2
        have He := Lib.hid (ext_seg s m k)
        clear hC hC2 hx
        go_wp2_with (at_builtin; go_must (refine Sl.wpAppN sty rfl (.tmp 20) (.tmp 25) rfl (n := L.length) (m := 1) (N := (L ++ [Fm.seg s m k]).length) (ws := lvs (L ++ [Fm.seg s m k])) rfl rfl (hown1.alloc _) (Rc.litAt (z := 1) _ _ _ 1 wr.heap.size rfl rfl (by simp [maxLen])) ?hs1 ?hs2 ?hs3 ?hs4 ?hs5 ?hs6 ?_))
        case hs1 => simp [Value.oneCell']
        case hs2 => simp
        case hs3 => simp [lvs]; exact He.out
        case hs4 => simp; omega
        case hs5 => simp; omega
        case hs6 => simp; omega
        intro A2 d2 w2 hown2 hb2
        have Hown2 := Lib.hid hown2; clear hown2
        have b2 : Below w.heap.size wr w2 := ((Below.refl _ _).alloc (by omega) _).trans hb2
        go_wp2
        go_roundw
        case rel => exact ⟨A2, d2, L ++ [Fm.seg s m k], k + 1, k + 1, by simp, by go_num, by go_num, Nat.le_refl _, by omega, by simp; omega, by simpa using Hown2.out, HC.out, hbel.trans b2⟩
        case measure => simp [intOf]; omega
      · have hb : ((s[k].toNat : Int) == (c.toNat : Int)) = false := u8_ne hx
        rw [if_neg hx, ← seg_next s m k hmk hlt] at hC
        have HC := Lib.hid hC; clear hC hx
        go_wp2
        go_roundw
        case rel => exact ⟨A1, d1, L, m, k + 1, rfl, rfl, by go_num, by omega, by omega, by omega, hown1, HC.out, hbel⟩
        case measure => simp [intOf]; omega
    · have hke : k = s.size := by omega
      rw [hke, List.drop_of_length_le (by rw [str_len]; omega), cg_nil] at hC
      have HC := Lib.hid hC
      have He := Lib.hid (ext_seg s m s.size)
      have hml : m ≤ s.size := by omega
      clear hC hke
      go_wp2_with (at_builtin; go_must (refine Sl.wpAppN sty rfl (.tmp 29) (.tmp 33) rfl (n := L.length) (m := 1) (N := (L ++ [Fm.seg s m s.size]).length) (ws := lvs (L ++ [Fm.seg s m s.size])) rfl rfl (hown1.alloc _) (Rc.litAt (z := 1) _ _ _ 1 wr.heap.size rfl rfl (by simp [maxLen])) ?hs7 ?hs8 ?hs9 ?hs10 ?hs11 ?hs12 ?_))
      case hs7 => simp [Value.oneCell']
      case hs8 => simp
      case hs9 => simp [lvs]; exact He.out
      case hs10 => simp; omega
      case hs11 => simp; omega
      case hs12 => simp; omega
      intro A2 d2 w2 hown2 hb2
      have Hown2 := Lib.hid hown2; clear hown2
      have b2 : Below w.heap.size wr w2 := ((Below.refl _ _).alloc (by omega) _).trans hb2
      go_wp2
      go_ret
      rw [HC.out]
      exact ⟨A2, d2, by simp, by simpa using Hown2.out, hbel.trans b2⟩
end Go.Proofs.Ytihfejjkkgnneaa
