/-
  field's addRecord, Encode; the document's Encode: what each call returns and leaves.
-/
import Derived.Test.YtihfejjkkgnneaaR1
import Derived.Test.YtihfejjkkgnneaaTg
namespace Go.Proofs.Ytihfejjkkgnneaa
open Go.RowKit

theorem fr_of (x : List UInt8) : fr ⟨x.toArray⟩ = Fm.encF x := by
  unfold fr Fm.encF
  simp [ByteArray.size]
theorem encFs_cons (x : List UInt8) (t : List (List UInt8)) : Fm.encFs (x :: t) = Fm.encF x ++ Fm.encFs t := rfl
theorem encRs_cons (r : List (List UInt8)) (t : List (List (List UInt8))) : Fm.encRs (r :: t) = Fm.encR r ++ Fm.encRs t := rfl
theorem encF_len (x : List UInt8) : (Fm.encF x).length = (Vm.vb x.length).length + x.length := by unfold Fm.encF; simp

def AddRec (base : Nat) (w : World) (T : List UInt8) (r : List (List UInt8)) (n : Nat) (o i : Value) (wr : World) : Prop :=
  ∃ A c M, ∃ k : Nat, o = .slice A M.length c ∧ i = .int .i64 (k : Int) ∧ k ≤ n ∧ Own wr 5 base A c M ∧ M ++ Fm.encFs (r.drop k) = T ∧ Below base w wr

set_option maxRecDepth 100000 in
set_option maxHeartbeats 1000000 in
/-- addRecord -/
theorem addRecord_c (A D : Option Addr) (c d n base B : Nat) (L : List UInt8) (r : List (List UInt8)) (w : World) (hown : Own w 5 base A c L) (hb : base ≤ w.heap.size) (hr : Rc 1 w B D n d (lvs r)) (hB : B ≤ base) (hm : Fm.May r)
    (hsz : (L ++ Fm.encR r).length ≤ 600000) :
    Calls Try.prog 32 #[.slice A L.length c, .slice D n d] w (RetB base w (L ++ Fm.encR r)) := by
  have hl := lvs_num hr
  obtain ⟨T, hT⟩ : ∃ T, T = L ++ Fm.encR r := ⟨_, rfl⟩
  rw [← hT] at hsz ⊢
  have hn : n ≤ 50 := by have := hm.1; omega
  have hw : IntKind.u64.wrap (n : Int) = (n : Int) := by rw [IntKind.wrap_u64]; omega
  have hT2 : L ++ Vm.vb n ++ Fm.encFs r = T := by rw [hT]; unfold Fm.encR; rw [hl, List.append_assoc]
  have hlen := congrArg List.length hT2
  rw [List.length_append, List.length_append] at hlen
  have hv : L.length + (Vm.vb n).length ≤ 600000 := by omega
  have Hr := Lib.hid hr; have Hl := Lib.hid hl; have Hm := Lib.hid hm; have HT2 := Lib.hid hT2; clear hr hl hm hT2 hT hlen
  go_enter Try.func32, Try.ntmps32
  go_wp2_with fail
  refine (put_c none 0 0 [] n _ (Rb.nil _ _) (by omega) (by omega)).mono ?_
  rintro e w1 ⟨A1, c1, rfl, hown1, hb1⟩
  simp only [List.nil_append] at hown1
  have hsz1 := hb1.size
  go_wp2_with (at_builtin; go_must (refine bty.wpApp rfl (.tmp 7) (.tmp 11) rfl (l := L) (r := Vm.vb n) rfl ?e1 (hown.keep hb1) hown1.rb ?hs1 ?hs2 ?_))
  case e1 => rfl
  case hs1 => omega
  case hs2 => omega
  intro A2 c2 w2 hown2 hb2
  have hbel : Below base w w2 := (hb1.mono hb).trans hb2
  have Hown2 := Lib.hid hown2; clear hown2
  go_wp2
  go_loopw [0, 15] (fun o i wr => AddRec base w T r n o i wr) (fun _ i _ => n - (intOf i).toNat)
  case atStart => exact ⟨A2, c2, L ++ Vm.vb n, 0, by simp, rfl, Nat.zero_le _, Hown2.out, by simpa using HT2.out, hbel⟩
  case round =>
    obtain ⟨A3, c3, M, k, rfl, rfl, hk, hown3, hM, hbel3⟩ := hrel
    have hsz3 := hbel3.size
    have hrr := (Hr.out.more hB).below hbel3
    by_cases hlt : k < n
    · obtain ⟨b, off, x, rfl, hbB, hcell, hx, hd⟩ := lvs_at hrr hlt
      have hx1000 : x.length ≤ 1000 := Hm.out.2 x (List.mem_of_getElem? hx)
      rw [hd, encFs_cons, ← List.append_assoc] at hM
      have hMl := congrArg List.length hM
      rw [List.length_append, List.length_append] at hMl
      have hMs : M.length + (Fm.encF x).length ≤ 600000 := by omega
      have hfr := fr_of x
      have HM := Lib.hid hM; have Hrr := Lib.hid hrr; have Hfr := Lib.hid hfr; clear hM hd hx hMl hrr hfr
      go_wp2_with fail
      refine (frameP_c none 0 0 [] ⟨x.toArray⟩ _ (Rb.nil _ _) (by omega) (by simp [ByteArray.size]; omega)).mono ?_
      rintro e w4 ⟨A4, c4, rfl, hown4, hb4⟩
      simp only [List.nil_append] at hown4
      rw [Hfr.out] at hown4
      have hsz4 := hb4.size
      have Hown4 := Lib.hid hown4; clear hown4
      have hfl : (fr ⟨x.toArray⟩).length = (Fm.encF x).length := by rw [Hfr.out]
      simp only [List.nil_append, hfl]
      clear hfl
      go_wp2_with (at_builtin; go_must (refine bty.wpApp rfl (.tmp 19) (.tmp 21) rfl (l := M) (r := Fm.encF x) rfl ?e2 (hown3.keep hb4) Hown4.out.rb ?hs3 ?hs4 ?_))
      case e2 => rfl
      case hs3 => omega
      case hs4 => omega
      intro A5 c5 w5 hown5 hb5
      have Hown5 := Lib.hid hown5; clear hown5
      go_wp2
      go_roundw
      case rel => exact ⟨A5, c5, M ++ Fm.encF x, k + 1, by simp, by go_num, by omega, Hown5.out, HM.out, (hbel3.trans (hb4.mono (by omega))).trans hb5⟩
      case measure => simp [intOf]; omega
    · have hMT : M = T := by
        rw [← hM, List.drop_of_length_le (by rw [Hl.out]; omega)]
        simp [Fm.encFs]
      have HMT := Lib.hid hMT
      clear hM hrr hMT
      go_wp2
      go_ret
      rw [← HMT.out]
      exact ⟨A3, c3, rfl, hown3, hbel3⟩
end Go.Proofs.Ytihfejjkkgnneaa
