/-
  The document's Encode: what the call returns and leaves.
-/
import Derived.Test.YtihfejjkkgnneaaR3
namespace Go.Proofs.Ytihfejjkkgnneaa
open Go.RowKit

theorem rput_n (A : Option Addr) (n c : Nat) (l X : List UInt8) (N : Nat) (w : World) (hr : Rb w w.heap.size A n c l) (hn : n ≤ 900000) (hN : N < 1000000) (hX : l ++ Vm.vb N = X) :
    Calls Try.prog 34 #[.slice A n c, .int .u64 (N : Int)] w (RetB w.heap.size w X) := by
  subst hX
  exact rput_c A n c l N w hr hn (by omega)
theorem rframe_n (A : Option Addr) (n c : Nat) (l X s : List UInt8) (w : World) (hr : Rb w w.heap.size A n c l) (hn : n ≤ 700000) (hs : s.length ≤ 100000) (hX : l ++ Fm.encF s = X) :
    Calls Try.prog 35 #[.slice A n c, .string ⟨s.toArray⟩] w (RetB w.heap.size w X) := by
  subst hX
  rw [← fr_of]
  exact rframe_c A n c l _ w hr hn (by simp [ByteArray.size]; omega)

def EncR (w : World) (l : List (List (List UInt8))) (n : Nat) (o i : Value) (wr : World) : Prop :=
  ∃ A c M, ∃ k : Nat, o = .slice A M.length c ∧ i = .int .i64 (k : Int) ∧ k ≤ n ∧ Own wr 5 w.heap.size A c M ∧ M ++ Fm.encRs (l.drop k) = Fm.enc l ∧ Below w.heap.size w wr
def EncF (w : World) (T : List UInt8) (r : List (List UInt8)) (m : Nat) (o i : Value) (wr : World) : Prop :=
  ∃ A c M, ∃ j : Nat, o = .slice A M.length c ∧ i = .int .i64 (j : Int) ∧ j ≤ m ∧ Own wr 5 w.heap.size A c M ∧ M ++ Fm.encFs (r.drop j) = T ∧ Below w.heap.size w wr

set_option maxRecDepth 100000 in
set_option maxHeartbeats 2000000 in
/-- the document's Encode -/
theorem rencode_c (A : Option Addr) (n c B : Nat) (l : List (List (List UInt8))) (w : World) (hr : RL w B A n c l) (hB : B ≤ w.heap.size) (hn : n ≤ 100000) (hsz : (Fm.enc l).length ≤ 600000) :
    Calls Try.prog 11 #[.slice A n c] w (RetE w.heap.size w (encS l)) := by
  have hl := hr.len
  have hw : IntKind.u64.wrap (n : Int) = (n : Int) := by rw [IntKind.wrap_u64]; omega
  by_cases hall : ∀ r ∈ l, Fm.May r
  · rw [encS_ok hall]
    have Hr := Lib.hid hr; have Hl := Lib.hid hl; have Hs := Lib.hid hsz; have Hd := Lib.hid (decide_eq_true hall).symm; have Hall := Lib.hid hall; clear hr hl hsz hall
    go_enter Try.func11, Try.ntmps11
    go_wp2_with fail
    refine (mayAll_c A n c B l _ Hr.out (by omega) true Hd.out).mono ?_
    rintro e w' ⟨rfl, rfl⟩
    go_wp2_with fail
    refine (rput_n none 0 0 [] (Vm.vb n) n _ (Rb.nil _ _) (by omega) (by omega) rfl).mono ?_
    rintro e w1 ⟨A1, c1, rfl, hown1, hb1⟩
    have Hown1 := Lib.hid hown1; clear hown1
    go_wp2
    go_loopw [4, 5] (fun o i wr => EncR w l n o i wr) (fun _ i _ => n - (intOf i).toNat)
    case atStart => exact ⟨A1, c1, Vm.vb n, 0, rfl, rfl, Nat.zero_le _, Hown1.out, by rw [List.drop_zero]; unfold Fm.enc; rw [Hl.out], hb1⟩
    case round =>
      obtain ⟨A3, c3, M, k, rfl, rfl, hk, hown3, hM, hbel3⟩ := hrel
      have hsz3 := hbel3.size
      have hrr := (Hr.out.more hB).below hbel3
      by_cases hlt : k < n
      · obtain ⟨b, off, D, m, d, r, rfl, hbB, hcell0, hx, hd, hrec⟩ := (Hr.out.more hB).at_ hlt
        have hcell := (hbel3.cell (p := ⟨b, off + k, none⟩) (show b < _ from hbB)).trans hcell0
        have Hcell0 := Lib.hid hcell0
        have hm := Hall.out r (List.mem_of_getElem? hx)
        have hrl := lvs_num hrec
        have hm50 : m ≤ 50 := by have := hm.1; omega
        have hw2 : IntKind.u64.wrap (m : Int) = (m : Int) := by rw [IntKind.wrap_u64]; omega
        rw [hd, encRs_cons, ← List.append_assoc] at hM
        obtain ⟨T, hT⟩ : ∃ T, M ++ Fm.encR r = T := ⟨_, rfl⟩
        rw [hT] at hM
        obtain ⟨X, hX⟩ : ∃ X, M ++ Vm.vb m = X := ⟨_, rfl⟩
        have hXT : X ++ Fm.encFs r = T := by rw [← hX, ← hT]; unfold Fm.encR; rw [hrl, List.append_assoc]
        have hTl : T.length ≤ 600000 := by
          have := congrArg List.length hM
          rw [List.length_append] at this
          have := Hs.out
          omega
        have hMl : M.length ≤ 600000 := by
          have := congrArg List.length hT
          rw [List.length_append] at this
          omega
        have HM := Lib.hid hM; have Hrec := Lib.hid hrec; have HX := Lib.hid hX; have HXT := Lib.hid hXT; have Hm := Lib.hid hm; have Hrl := Lib.hid hrl; have Hcell := Lib.hid hcell; clear hM hd hrr hrec hx hX hXT hm hT hrl hcell0
        go_wp2_with fail
        refine (rput_n A3 M.length c3 M X m _ hown3.rb (by omega) (by omega) HX.out).mono ?_
        rintro e w4 ⟨A4, c4, rfl, hown4, hb4⟩
        have hown4' := hown4.mono hsz3
        have b4 : Below w.heap.size w w4 := hbel3.trans (hb4.mono hsz3)
        have Hown4 := Lib.hid hown4'; clear hown4 hown4' hcell
        have hcell4 := (hb4.cell (p := ⟨b, off + k, none⟩) (show b < _ by omega)).trans Hcell.out
        have HB4 := Lib.hid hb4
        clear hb4
        go_wp2
        go_loopw [4, 6] (fun o i wr => EncF w T r m o i wr) (fun _ i _ => m - (intOf i).toNat)
        case atStart => exact ⟨A4, c4, X, 0, rfl, rfl, Nat.zero_le _, Hown4.out, by simpa using HXT.out, b4⟩
        case round =>
          obtain ⟨A5, c5, M2, j, rfl, rfl, hj, hown5, hM2, hbel5⟩ := hrel
          have hsz5 := hbel5.size
          have hcell5 := (hbel5.cell (p := ⟨b, off + k, none⟩) (show b < _ from hbB)).trans Hcell0.out
          clear hcell4
          by_cases hjt : j < m
          · obtain ⟨b2, off2, x, rfl, hb2, hcx, hx, hdx⟩ := lvs_at (Hrec.out.below hbel5) hjt
            have hx1000 : x.length ≤ 1000 := Hm.out.2 x (List.mem_of_getElem? hx)
            rw [hdx, encFs_cons, ← List.append_assoc] at hM2
            obtain ⟨X2, hX2⟩ : ∃ X2, M2 ++ Fm.encF x = X2 := ⟨_, rfl⟩
            rw [hX2] at hM2
            have hM2l : M2.length ≤ 600000 := by
              have h1 := congrArg List.length hM2
              have h2 := congrArg List.length hX2
              rw [List.length_append] at h1 h2
              omega
            have HM2 := Lib.hid hM2; have HX2 := Lib.hid hX2; clear hM2 hX2 hx hdx
            go_wp2_with fail
            refine (rframe_n A5 M2.length c5 M2 X2 x _ hown5.rb (by omega) (by omega) HX2.out).mono ?_
            rintro e w6 ⟨A6, c6, rfl, hown6, hb6⟩
            have hown6' := hown6.mono hsz5
            have b6 : Below w.heap.size w w6 := hbel5.trans (hb6.mono hsz5)
            have Hown6 := Lib.hid hown6'; clear hown6 hown6' hcx hcell5 hb6
            go_wp2
            go_roundw
            case rel => exact ⟨A6, c6, X2, j + 1, rfl, by go_num, by omega, Hown6.out, HM2.out, b6⟩
            case measure => simp [intOf]; omega
          · have hMT : M2 = T := by
              rw [← hM2, List.drop_of_length_le (by rw [Hrl.out]; omega)]
              simp [Fm.encFs]
            subst hMT
            clear hM2
            go_wp2
            go_roundw
            case rel => exact ⟨A5, c5, M2, k + 1, rfl, by go_num, by omega, hown5, HM.out, hbel5⟩
            case measure => simp [intOf]; omega
      · have hMT : M = Fm.enc l := by
          rw [← hM, List.drop_of_length_le (by rw [Hl.out]; omega)]
          simp [Fm.encRs]
        have HMT := Lib.hid hMT
        clear hM hrr hMT
        go_wp2
        go_ret2
        rw [← HMT.out]
        exact ⟨A3, c3, rfl, hown3, hbel3⟩
  · rw [encS_err hall]
    have Hr := Lib.hid hr; have Hd := Lib.hid (decide_eq_false hall).symm; clear hr hl hsz hall
    go_enter Try.func11, Try.ntmps11
    go_wp2_with fail
    refine (mayAll_c A n c B l _ Hr.out (by omega) false Hd.out).mono ?_
    rintro e w' ⟨rfl, rfl⟩
    go_wp2
    go_ret2
    exact ⟨none, 0, rfl, Own.nil _ _ _, Below.refl _ _⟩
end Go.Proofs.Ytihfejjkkgnneaa
