/-
  field.Encode; the document's Encode: what each call returns and leaves.
-/
import Derived.Test.YtihfejjkkgnneaaR2
namespace Go.Proofs.Ytihfejjkkgnneaa
open Go.RowKit

/-- The bytes of records, or the error. -/
def encS (l : List (List (List UInt8))) : List UInt8 × Nat := if ∀ r ∈ l, Fm.May r then (Fm.enc l, 0) else ([], 10)
theorem encS_ok {l : List (List (List UInt8))} (h : ∀ r ∈ l, Fm.May r) : encS l = (Fm.enc l, 0) := if_pos h
theorem encS_err {l : List (List (List UInt8))} (h : ¬ ∀ r ∈ l, Fm.May r) : encS l = ([], 10) := if_neg h
def RetE (base : Nat) (w : World) (t : List UInt8 × Nat) (e : Ending) (w' : World) : Prop :=
  ∃ A c, e = .returned (.tuple #[.slice A t.1.length c, .int .i64 (t.2 : Int)]) ∧ Own w' 5 base A c t.1 ∧ Below base w w'

def EncRel (base : Nat) (w : World) (l : List (List (List UInt8))) (n : Nat) (o i : Value) (wr : World) : Prop :=
  ∃ A c M, ∃ k : Nat, o = .slice A M.length c ∧ i = .int .i64 (k : Int) ∧ k ≤ n ∧ Own wr 5 base A c M ∧ M ++ Fm.encRs (l.drop k) = Fm.enc l ∧ (∀ (j : Nat) (r : List (List UInt8)), j < k → l[j]? = some r → Fm.May r) ∧ Below base w wr

theorem all_of {l : List (List (List UInt8))} {n : Nat} (hl : l.length = n) (h : ∀ (j : Nat) (r : List (List UInt8)), j < n → l[j]? = some r → Fm.May r) : ∀ r ∈ l, Fm.May r := fun r hr => by
  obtain ⟨j, hj, rfl⟩ := List.getElem_of_mem hr
  exact h j _ (by omega) (List.getElem?_eq_getElem hj)
theorem may_step {l : List (List (List UInt8))} {k : Nat} {s : List (List UInt8)} (h : ∀ (j : Nat) (r : List (List UInt8)), j < k → l[j]? = some r → Fm.May r) (hx : l[k]? = some s) (hm : Fm.May s) :
    ∀ (j : Nat) (r : List (List UInt8)), j < k + 1 → l[j]? = some r → Fm.May r := fun j r hj hs => by
  by_cases e : j = k
  · subst e
    rw [hx] at hs
    injection hs with hs
    rw [← hs]; exact hm
  · exact h j r (by omega) hs

set_option maxRecDepth 100000 in
set_option maxHeartbeats 1000000 in
/-- field.Encode -/
theorem encode_c (A : Option Addr) (n c B : Nat) (l : List (List (List UInt8))) (w : World) (hr : RL w B A n c l) (hB : B ≤ w.heap.size) (hn : n ≤ 100000) (hsz : (Fm.enc l).length ≤ 600000) :
    Calls Try.prog 10 #[.slice A n c] w (RetE w.heap.size w (encS l)) := by
  have hl := hr.len
  have hw : IntKind.u64.wrap (n : Int) = (n : Int) := by rw [IntKind.wrap_u64]; omega
  have Hr := Lib.hid hr; have Hl := Lib.hid hl; have Hs := Lib.hid hsz; clear hr hl hsz
  go_enter Try.func10, Try.ntmps10
  go_wp2_with fail
  refine (put_c none 0 0 [] n _ (Rb.nil _ _) (by omega) (by omega)).mono ?_
  rintro e w1 ⟨A1, c1, rfl, hown1, hb1⟩
  simp only [List.nil_append] at hown1
  have Hown1 := Lib.hid hown1; clear hown1
  go_wp2
  go_loopw [4, 13] (fun o i wr => EncRel w.heap.size w l n o i wr) (fun _ i _ => n - (intOf i).toNat)
  case atStart => exact ⟨A1, c1, Vm.vb n, 0, by simp, rfl, Nat.zero_le _, Hown1.out, by rw [List.drop_zero]; unfold Fm.enc; rw [Hl.out], fun j r hj => by omega, hb1⟩
  case round =>
    obtain ⟨A3, c3, M, k, rfl, rfl, hk, hown3, hM, hmay, hbel3⟩ := hrel
    have Hmay := Lib.hid hmay; clear hmay
    have hsz3 := hbel3.size
    have hrr := (Hr.out.more hB).below hbel3
    by_cases hlt : k < n
    · obtain ⟨b, off, D, m, d, r, rfl, hbB, hcell, hx, hd, hrec⟩ := hrr.at_ hlt
      rw [hd, encRs_cons, ← List.append_assoc] at hM
      have hMl := congrArg List.length hM
      rw [List.length_append] at hMl
      have hMs : (M ++ Fm.encR r).length ≤ 600000 := by have := Hs.out; omega
      have HM := Lib.hid hM; have Hrec := Lib.hid hrec; have HMs := Lib.hid hMs; have Hx := Lib.hid hx; clear hM hd hMl hrr hrec hMs hx
      by_cases hm : Fm.May r
      · have Hd := Lib.hid (decide_eq_true hm).symm; have Hm := Lib.hid hm; clear hm
        go_wp2_with fail
        refine (may_c D m d _ r _ Hrec.out true Hd.out).mono ?_
        rintro e w' ⟨rfl, rfl⟩
        go_wp2_with fail
        refine (addRecord_c A3 D c3 d m w.heap.size _ M r _ hown3 hsz3 Hrec.out (Nat.le_refl _) Hm.out HMs.out).mono ?_
        rintro e w5 ⟨A5, c5, rfl, hown5, hb5⟩
        have Hown5 := Lib.hid hown5; clear hown5
        go_wp2
        go_roundw
        case rel => exact ⟨A5, c5, M ++ Fm.encR r, k + 1, by simp, by go_num, by omega, Hown5.out, HM.out, may_step Hmay.out Hx.out Hm.out, hbel3.trans hb5⟩
        case measure => simp [intOf]; omega
      · have Hd := Lib.hid (decide_eq_false hm).symm; have Hm := Lib.hid hm; clear hm
        go_wp2_with fail
        refine (may_c D m d _ r _ Hrec.out false Hd.out).mono ?_
        rintro e w' ⟨rfl, rfl⟩
        go_wp2
        go_ret2
        rw [encS_err (fun h => Hm.out (h r (List.mem_of_getElem? Hx.out)))]
        exact ⟨none, 0, rfl, Own.nil _ _ _, hbel3⟩
    · have hMT : M = Fm.enc l := by
        rw [← hM, List.drop_of_length_le (by rw [Hl.out]; omega)]
        simp [Fm.encRs]
      have HMT := Lib.hid hMT
      clear hM hrr hMT
      have Hall := Lib.hid (all_of Hl.out (fun j r hj hx => Hmay.out j r (by omega) hx))
      go_wp2
      go_ret2
      rw [encS_ok Hall.out]
      rw [← HMT.out]
      exact ⟨A3, c3, rfl, hown3, hbel3⟩
end Go.Proofs.Ytihfejjkkgnneaa
