/-
  The law's alive, small.
-/
import Derived.Test.YtpdapgbamlcjjaaGreatDoorJ19
namespace Go.Proofs.YtpdapgbamlcjjaaGreatDoor
open Go.RowKit Vl Cd

def aL : List (List UInt8) := [[102, 105, 101, 108, 100, 32, 48], [116, 101, 120, 116, 32, 34, 97, 34], [106, 111, 105, 110]]
def aP : List Ins := [⟨2, 0, []⟩, ⟨1, 0, [97]⟩, ⟨9, 0, []⟩]
theorem aP_read : aL.map pr = aP.map some := by
  have h1 : pr [102, 105, 101, 108, 100, 32, 48] = some ⟨2, 0, []⟩ := pr_some ⟨by decide +kernel, by unfold I; dsimp only; omega⟩ (by
    show nm 2 ++ 32 :: figures 0 = _
    have : figures 0 = [48] := by unfold figures; rw [if_neg (by omega)]; exact figs_small (n := 0) (by omega)
    rw [this]; decide +kernel)
  have h2 : pr [116, 101, 120, 116, 32, 34, 97, 34] = some ⟨1, 0, [97]⟩ := pr_some ⟨by decide +kernel, by unfold I; dsimp only; omega⟩ (by decide +kernel)
  have h3 : pr [106, 111, 105, 110] = some ⟨9, 0, []⟩ := pr_some ⟨by decide +kernel, by unfold I; dsimp only; omega⟩ (by decide +kernel)
  show [pr _, pr _, pr _] = _
  rw [h1, h2, h3]; rfl
theorem aL_seg : Seg [102, 105, 101, 108, 100, 32, 48, 10, 116, 101, 120, 116, 32, 34, 97, 34, 10, 106, 111, 105, 110, 10] aL [] := ⟨rfl, by decide +kernel, by simp⟩
theorem bL_seg : Seg [102, 105, 101, 108, 100, 32, 48] [] [102, 105, 101, 108, 100, 32, 48] := ⟨rfl, by simp, by decide +kernel⟩
theorem aL_rd : rd aL [] = (aP, 0) := rd_ok (by decide) rfl aP_read
theorem bL_rd : rd [] [102, 105, 101, 108, 100, 32, 48] = ([], 3) := rd_rest (by decide) (by simp)
set_option maxRecDepth 100000 in
set_option maxHeartbeats 4000000 in
theorem alive_c (w : World) (hg : Gl w) : Calls Tryz.prog 8 #[] w (RetV w (.bool true)) := by
  have h1 := read_c _ aL [] (by decide) aL_seg w hg
  have h2 := fun W hG => read_c _ [] _ (by decide) bL_seg W hG
  rw [aL_rd] at h1
  simp only [bL_rd] at h2
  have H1 := Lib.hid h1; have H2 := Lib.hid h2; have HG := Lib.hid hg
  clear h1 h2 hg
  go_enter Tryz.func8, Tryz.ntmps8
  go_wp2_with fail
  refine H1.out.mono ?_
  rintro e w1 ⟨A, n, c, rfl, hr, b1⟩
  have B1 := Lib.hid b1; have Hr := Lib.hid hr
  have hn : n = 3 := (ics_num hr).symm
  clear b1 hr
  go_wp2_with fail
  refine (H2.out w1 (HG.out.below' B1.out)).mono ?_
  rintro e w2 ⟨A2, n2, c2, rfl, -, b2⟩
  have B2 := Lib.hid (B1.out.trans (b2.mono B1.out.size))
  have hr2 := Hr.out.below b2
  subst hn
  obtain ⟨b, o, eA, -, hc⟩ := hr2.2.2.2 (by omega)
  have c1 := hc 5 (.string ⟨#[97]⟩) rfl
  have c3 := hc 6 (.int .i64 9) rfl
  subst eA
  clear b2 hc hr2
  go_wp2
  go_ret
  exact ⟨by first | rfl | simp, B2.out⟩

def SmRel (w : World) (n : Nat) (t3 t4 : Value) (wr : World) : Prop := ∃ (k : Nat) (v : Int), k ≤ n ∧ t3 = .int .i64 v ∧ t4 = .int .i64 (k : Int) ∧ wr = w
set_option maxRecDepth 100000 in
set_option maxHeartbeats 4000000 in
theorem small_c (A : Option Addr) (n c : Nat) (p : List Ins) (w : World) (hr : Rc 3 w w.heap.size A n c (ics p)) (hn : n ≤ maxLen) :
    Calls Tryz.prog 17 #[.slice A n c] w fun e w' => ∃ b : Bool, e = .returned (.bool b) ∧ (b = true → n ≤ 250) ∧ w' = w := by
  have Hr := Lib.hid hr
  simp only [maxLen] at hn
  clear hr
  go_enter Tryz.func17, Tryz.ntmps17
  go_wp2
  go_loopw [3, 4] (fun t3 t4 wr => SmRel w n t3 t4 wr) (fun _ t4 _ => n - (intOf t4).toNat)
  case atStart => exact ⟨0, 0, Nat.zero_le _, rfl, rfl, rfl⟩
  case round =>
    obtain ⟨k, v, hk, rfl, rfl, rfl⟩ := hrel
    by_cases hlt : k < n
    · obtain ⟨b, o, x, rfl, hb, a0, a1, a2, hx⟩ := ics_at Hr.out hlt
      clear hx
      go_wp2
      go_roundw
      case rel => exact ⟨k + 1, _, hlt, rfl, by go_num, rfl⟩
      case measure => simp [intOf]; omega
    · by_cases h1 : (n : Int) ≤ 250
      · have d1 : decide ((n : Int) ≤ 250) = true := decide_eq_true h1
        have H1 := Lib.hid (show n ≤ 250 by omega)
        clear h1
        go_wp2
        go_ret
        exact ⟨_, rfl, fun _ => H1.out, rfl⟩
      · have d1 : decide ((n : Int) ≤ 250) = false := decide_eq_false h1
        clear h1
        go_wp2
        go_ret
        exact ⟨false, rfl, fun h => (by cases h), rfl⟩
end Go.Proofs.YtpdapgbamlcjjaaGreatDoor
