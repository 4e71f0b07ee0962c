/-
  Joined: R2 R3 R8.
-/
import Derived.Test.YtplkjljhpmldfaaJ5
import Derived.Test.YtplkjljhpmldfaaJ8
/-
  field's addRecord, Encode; the document's Encode: what each call returns and leaves.
-/
namespace Go.Proofs.Ytplkjljhpmldfaa
open Go.RowKit

theorem fr_of (x : List UInt8) : fr ⟨x.toArray⟩ = Fm.encF x := by
  unfold fr Fm.encF
  simp [ByteArray.size]
theorem encFs_cons (x : List UInt8) (t : List (List UInt8)) : Fm.encFs (x :: t) = Fm.encF x ++ Fm.encFs t := rfl
theorem encRs_cons (r : List (List UInt8)) (t : List (List (List UInt8))) : Fm.encRs (r :: t) = Fm.encR r ++ Fm.encRs t := rfl
theorem encF_len (x : List UInt8) : (Fm.encF x).length = (Vm.vb x.length).length + x.length := by unfold Fm.encF; simp

def AddRec (base : Nat) (w : World) (T : List UInt8) (r : List (List UInt8)) (n : Nat) (o i : Value) (wr : World) : Prop :=
  ∃ A c M, ∃ k : Nat, o = .slice A M.length c ∧ i = .int .i64 (k : Int) ∧ k ≤ n ∧ Own wr 5 base A c M ∧ M ++ Fm.encFs (r.drop k) = T ∧ Below base w wr

set_option maxRecDepth 100000 in
set_option maxHeartbeats 1000000 in
/-- addRecord -/
theorem addRecord_c (A D : Option Addr) (c d n base B : Nat) (L : List UInt8) (r : List (List UInt8)) (w : World) (hown : Own w 5 base A c L) (hb : base ≤ w.heap.size) (hr : Rc 1 w B D n d (lvs r)) (hB : B ≤ base) (hm : Fm.May r)
    (hsz : (L ++ Fm.encR r).length ≤ 600000) :
    Calls Try.prog 67 #[.slice A L.length c, .slice D n d] w (RetB base w (L ++ Fm.encR r)) := by
  have hl := lvs_num hr
  obtain ⟨T, hT⟩ : ∃ T, T = L ++ Fm.encR r := ⟨_, rfl⟩
  rw [← hT] at hsz ⊢
  have hn : n ≤ 50 := by have := hm.1; omega
  have hw : IntKind.u64.wrap (n : Int) = (n : Int) := by rw [IntKind.wrap_u64]; omega
  have hT2 : L ++ Vm.vb n ++ Fm.encFs r = T := by rw [hT]; unfold Fm.encR; rw [hl, List.append_assoc]
  have hlen := congrArg List.length hT2
  rw [List.length_append, List.length_append] at hlen
  have hv : L.length + (Vm.vb n).length ≤ 600000 := by omega
  have Hr := Lib.hid hr; have Hl := Lib.hid hl; have Hm := Lib.hid hm; have HT2 := Lib.hid hT2; clear hr hl hm hT2 hT hlen
  go_enter Try.func67, Try.ntmps67
  go_wp2_with fail
  refine (put_c none 0 0 [] n _ (Rb.nil _ _) (by omega) (by omega)).mono ?_
  rintro e w1 ⟨A1, c1, rfl, hown1, hb1⟩
  simp only [List.nil_append] at hown1
  have hsz1 := hb1.size
  go_wp2_with (at_builtin; go_must (refine bty.wpApp rfl (.tmp 7) (.tmp 11) rfl (l := L) (r := Vm.vb n) rfl ?e1 (hown.keep hb1) hown1.rb ?hs1 ?hs2 ?_))
  case e1 => rfl
  case hs1 => omega
  case hs2 => omega
  intro A2 c2 w2 hown2 hb2
  have hbel : Below base w w2 := (hb1.mono hb).trans hb2
  have Hown2 := Lib.hid hown2; clear hown2
  go_wp2
  go_loopw [0, 15] (fun o i wr => AddRec base w T r n o i wr) (fun _ i _ => n - (intOf i).toNat)
  case atStart => exact ⟨A2, c2, L ++ Vm.vb n, 0, by simp, rfl, Nat.zero_le _, Hown2.out, by simpa using HT2.out, hbel⟩
  case round =>
    obtain ⟨A3, c3, M, k, rfl, rfl, hk, hown3, hM, hbel3⟩ := hrel
    have hsz3 := hbel3.size
    have hrr := (Hr.out.more hB).below hbel3
    by_cases hlt : k < n
    · obtain ⟨b, off, x, rfl, hbB, hcell, hx, hd⟩ := lvs_at hrr hlt
      have hx1000 : x.length ≤ 1000 := Hm.out.2 x (List.mem_of_getElem? hx)
      rw [hd, encFs_cons, ← List.append_assoc] at hM
      have hMl := congrArg List.length hM
      rw [List.length_append, List.length_append] at hMl
      have hMs : M.length + (Fm.encF x).length ≤ 600000 := by omega
      have hfr := fr_of x
      have HM := Lib.hid hM; have Hrr := Lib.hid hrr; have Hfr := Lib.hid hfr; clear hM hd hx hMl hrr hfr
      go_wp2_with fail
      refine (frameP_c none 0 0 [] ⟨x.toArray⟩ _ (Rb.nil _ _) (by omega) (by simp [ByteArray.size]; omega)).mono ?_
      rintro e w4 ⟨A4, c4, rfl, hown4, hb4⟩
      simp only [List.nil_append] at hown4
      rw [Hfr.out] at hown4
      have hsz4 := hb4.size
      have Hown4 := Lib.hid hown4; clear hown4
      have hfl : (fr ⟨x.toArray⟩).length = (Fm.encF x).length := by rw [Hfr.out]
      simp only [List.nil_append, hfl]
      clear hfl
      go_wp2_with (at_builtin; go_must (refine bty.wpApp rfl (.tmp 19) (.tmp 21) rfl (l := M) (r := Fm.encF x) rfl ?e2 (hown3.keep hb4) Hown4.out.rb ?hs3 ?hs4 ?_))
      case e2 => rfl
      case hs3 => omega
      case hs4 => omega
      intro A5 c5 w5 hown5 hb5
      have Hown5 := Lib.hid hown5; clear hown5
      go_wp2
      go_roundw
      case rel => exact ⟨A5, c5, M ++ Fm.encF x, k + 1, by simp, by go_num, by omega, Hown5.out, HM.out, (hbel3.trans (hb4.mono (by omega))).trans hb5⟩
      case measure => simp [intOf]; omega
    · have hMT : M = T := by
        rw [← hM, List.drop_of_length_le (by rw [Hl.out]; omega)]
        simp [Fm.encFs]
      have HMT := Lib.hid hMT
      clear hM hrr hMT
      go_wp2
      go_ret
      rw [← HMT.out]
      exact ⟨A3, c3, rfl, hown3, hbel3⟩
end Go.Proofs.Ytplkjljhpmldfaa

/-
  field.Encode; the document's Encode: what each call returns and leaves.
-/
namespace Go.Proofs.Ytplkjljhpmldfaa
open Go.RowKit

/-- The bytes of records, or the error. -/
def encS (l : List (List (List UInt8))) : List UInt8 × Nat := if ∀ r ∈ l, Fm.May r then (Fm.enc l, 0) else ([], 10)
theorem encS_ok {l : List (List (List UInt8))} (h : ∀ r ∈ l, Fm.May r) : encS l = (Fm.enc l, 0) := if_pos h
theorem encS_err {l : List (List (List UInt8))} (h : ¬ ∀ r ∈ l, Fm.May r) : encS l = ([], 10) := if_neg h
def RetEn (base : Nat) (w : World) (t : List UInt8 × Nat) (e : Ending) (w' : World) : Prop :=
  ∃ A c, e = .returned (.tuple #[.slice A t.1.length c, .int .i64 (t.2 : Int)]) ∧ Own w' 5 base A c t.1 ∧ Below base w w'

def EncRel (base : Nat) (w : World) (l : List (List (List UInt8))) (n : Nat) (o i : Value) (wr : World) : Prop :=
  ∃ A c M, ∃ k : Nat, o = .slice A M.length c ∧ i = .int .i64 (k : Int) ∧ k ≤ n ∧ Own wr 5 base A c M ∧ M ++ Fm.encRs (l.drop k) = Fm.enc l ∧ (∀ (j : Nat) (r : List (List UInt8)), j < k → l[j]? = some r → Fm.May r) ∧ Below base w wr

theorem all_of {l : List (List (List UInt8))} {n : Nat} (hl : l.length = n) (h : ∀ (j : Nat) (r : List (List UInt8)), j < n → l[j]? = some r → Fm.May r) : ∀ r ∈ l, Fm.May r := fun r hr => by
  obtain ⟨j, hj, rfl⟩ := List.getElem_of_mem hr
  exact h j _ (by omega) (List.getElem?_eq_getElem hj)
theorem may_step {l : List (List (List UInt8))} {k : Nat} {s : List (List UInt8)} (h : ∀ (j : Nat) (r : List (List UInt8)), j < k → l[j]? = some r → Fm.May r) (hx : l[k]? = some s) (hm : Fm.May s) :
    ∀ (j : Nat) (r : List (List UInt8)), j < k + 1 → l[j]? = some r → Fm.May r := fun j r hj hs => by
  by_cases e : j = k
  · subst e
    rw [hx] at hs
    injection hs with hs
    rw [← hs]; exact hm
  · exact h j r (by omega) hs

set_option maxRecDepth 100000 in
set_option maxHeartbeats 1000000 in
/-- field.Encode -/
theorem encode_c (A : Option Addr) (n c B : Nat) (l : List (List (List UInt8))) (w : World) (hr : RL w B A n c l) (hB : B ≤ w.heap.size) (hn : n ≤ 100000) (hsz : (Fm.enc l).length ≤ 600000) :
    Calls Try.prog 46 #[.slice A n c] w (RetEn w.heap.size w (encS l)) := by
  have hl := hr.len
  have hw : IntKind.u64.wrap (n : Int) = (n : Int) := by rw [IntKind.wrap_u64]; omega
  have Hr := Lib.hid hr; have Hl := Lib.hid hl; have Hs := Lib.hid hsz; clear hr hl hsz
  go_enter Try.func46, Try.ntmps46
  go_wp2_with fail
  refine (put_c none 0 0 [] n _ (Rb.nil _ _) (by omega) (by omega)).mono ?_
  rintro e w1 ⟨A1, c1, rfl, hown1, hb1⟩
  simp only [List.nil_append] at hown1
  have Hown1 := Lib.hid hown1; clear hown1
  go_wp2
  go_loopw [4, 13] (fun o i wr => EncRel w.heap.size w l n o i wr) (fun _ i _ => n - (intOf i).toNat)
  case atStart => exact ⟨A1, c1, Vm.vb n, 0, by simp, rfl, Nat.zero_le _, Hown1.out, by rw [List.drop_zero]; unfold Fm.enc; rw [Hl.out], fun j r hj => by omega, hb1⟩
  case round =>
    obtain ⟨A3, c3, M, k, rfl, rfl, hk, hown3, hM, hmay, hbel3⟩ := hrel
    have Hmay := Lib.hid hmay; clear hmay
    have hsz3 := hbel3.size
    have hrr := (Hr.out.more hB).below hbel3
    by_cases hlt : k < n
    · obtain ⟨b, off, D, m, d, r, rfl, hbB, hcell, hx, hd, hrec⟩ := hrr.at_ hlt
      rw [hd, encRs_cons, ← List.append_assoc] at hM
      have hMl := congrArg List.length hM
      rw [List.length_append] at hMl
      have hMs : (M ++ Fm.encR r).length ≤ 600000 := by have := Hs.out; omega
      have HM := Lib.hid hM; have Hrec := Lib.hid hrec; have HMs := Lib.hid hMs; have Hx := Lib.hid hx; clear hM hd hMl hrr hrec hMs hx
      by_cases hm : Fm.May r
      · have Hd := Lib.hid (decide_eq_true hm).symm; have Hm := Lib.hid hm; clear hm
        go_wp2_with fail
        refine (may_c D m d _ r _ Hrec.out true Hd.out).mono ?_
        rintro e w' ⟨rfl, rfl⟩
        go_wp2_with fail
        refine (addRecord_c A3 D c3 d m w.heap.size _ M r _ hown3 hsz3 Hrec.out (Nat.le_refl _) Hm.out HMs.out).mono ?_
        rintro e w5 ⟨A5, c5, rfl, hown5, hb5⟩
        have Hown5 := Lib.hid hown5; clear hown5
        go_wp2
        go_roundw
        case rel => exact ⟨A5, c5, M ++ Fm.encR r, k + 1, by simp, by go_num, by omega, Hown5.out, HM.out, may_step Hmay.out Hx.out Hm.out, hbel3.trans hb5⟩
        case measure => simp [intOf]; omega
      · have Hd := Lib.hid (decide_eq_false hm).symm; have Hm := Lib.hid hm; clear hm
        go_wp2_with fail
        refine (may_c D m d _ r _ Hrec.out false Hd.out).mono ?_
        rintro e w' ⟨rfl, rfl⟩
        go_wp2
        go_ret2
        rw [encS_err (fun h => Hm.out (h r (List.mem_of_getElem? Hx.out)))]
        exact ⟨none, 0, rfl, Own.nil _ _ _, hbel3⟩
    · have hMT : M = Fm.enc l := by
        rw [← hM, List.drop_of_length_le (by rw [Hl.out]; omega)]
        simp [Fm.encRs]
      have HMT := Lib.hid hMT
      clear hM hrr hMT
      have Hall := Lib.hid (all_of Hl.out (fun j r hj hx => Hmay.out j r (by omega) hx))
      go_wp2
      go_ret2
      rw [encS_ok Hall.out]
      rw [← HMT.out]
      exact ⟨A3, c3, rfl, hown3, hbel3⟩
end Go.Proofs.Ytplkjljhpmldfaa

/-
  The document's Encode: what the call returns and leaves.
-/
namespace Go.Proofs.Ytplkjljhpmldfaa
open Go.RowKit

theorem rput_n (A : Option Addr) (n c : Nat) (l X : List UInt8) (N : Nat) (w : World) (hr : Rb w w.heap.size A n c l) (hn : n ≤ 900000) (hN : N < 1000000) (hX : l ++ Vm.vb N = X) :
    Calls Try.prog 31 #[.slice A n c, .int .u64 (N : Int)] w (RetB w.heap.size w X) := by
  subst hX
  exact rput_c A n c l N w hr hn (by omega)
theorem rframe_n (A : Option Addr) (n c : Nat) (l X s : List UInt8) (w : World) (hr : Rb w w.heap.size A n c l) (hn : n ≤ 700000) (hs : s.length ≤ 100000) (hX : l ++ Fm.encF s = X) :
    Calls Try.prog 53 #[.slice A n c, .string ⟨s.toArray⟩] w (RetB w.heap.size w X) := by
  subst hX
  rw [← fr_of]
  exact rframe_c A n c l _ w hr hn (by simp [ByteArray.size]; omega)

def EncR (w : World) (l : List (List (List UInt8))) (n : Nat) (o i : Value) (wr : World) : Prop :=
  ∃ A c M, ∃ k : Nat, o = .slice A M.length c ∧ i = .int .i64 (k : Int) ∧ k ≤ n ∧ Own wr 5 w.heap.size A c M ∧ M ++ Fm.encRs (l.drop k) = Fm.enc l ∧ Below w.heap.size w wr
def EncF (w : World) (T : List UInt8) (r : List (List UInt8)) (m : Nat) (o i : Value) (wr : World) : Prop :=
  ∃ A c M, ∃ j : Nat, o = .slice A M.length c ∧ i = .int .i64 (j : Int) ∧ j ≤ m ∧ Own wr 5 w.heap.size A c M ∧ M ++ Fm.encFs (r.drop j) = T ∧ Below w.heap.size w wr

set_option maxRecDepth 100000 in
set_option maxHeartbeats 2000000 in
/-- the document's Encode -/
theorem rencode_c (A : Option Addr) (n c B : Nat) (l : List (List (List UInt8))) (w : World) (hr : RL w B A n c l) (hB : B ≤ w.heap.size) (hn : n ≤ 100000) (hsz : (Fm.enc l).length ≤ 600000) :
    Calls Try.prog 32 #[.slice A n c] w (RetEn w.heap.size w (encS l)) := by
  have hl := hr.len
  have hw : IntKind.u64.wrap (n : Int) = (n : Int) := by rw [IntKind.wrap_u64]; omega
  by_cases hall : ∀ r ∈ l, Fm.May r
  · rw [encS_ok hall]
    have Hr := Lib.hid hr; have Hl := Lib.hid hl; have Hs := Lib.hid hsz; have Hd := Lib.hid (decide_eq_true hall).symm; have Hall := Lib.hid hall; clear hr hl hsz hall
    go_enter Try.func32, Try.ntmps32
    go_wp2_with fail
    refine (mayAll_c A n c B l _ Hr.out (by omega) true Hd.out).mono ?_
    rintro e w' ⟨rfl, rfl⟩
    go_wp2_with fail
    refine (rput_n none 0 0 [] (Vm.vb n) n _ (Rb.nil _ _) (by omega) (by omega) rfl).mono ?_
    rintro e w1 ⟨A1, c1, rfl, hown1, hb1⟩
    have Hown1 := Lib.hid hown1; clear hown1
    go_wp2
    go_loopw [4, 5] (fun o i wr => EncR w l n o i wr) (fun _ i _ => n - (intOf i).toNat)
    case atStart => exact ⟨A1, c1, Vm.vb n, 0, rfl, rfl, Nat.zero_le _, Hown1.out, by rw [List.drop_zero]; unfold Fm.enc; rw [Hl.out], hb1⟩
    case round =>
      obtain ⟨A3, c3, M, k, rfl, rfl, hk, hown3, hM, hbel3⟩ := hrel
      have hsz3 := hbel3.size
      have hrr := (Hr.out.more hB).below hbel3
      by_cases hlt : k < n
      · obtain ⟨b, off, D, m, d, r, rfl, hbB, hcell0, hx, hd, hrec⟩ := (Hr.out.more hB).at_ hlt
        have hcell := (hbel3.cell (p := ⟨b, off + k, none⟩) (show b < _ from hbB)).trans hcell0
        have Hcell0 := Lib.hid hcell0
        have hm := Hall.out r (List.mem_of_getElem? hx)
        have hrl := lvs_num hrec
        have hm50 : m ≤ 50 := by have := hm.1; omega
        have hw2 : IntKind.u64.wrap (m : Int) = (m : Int) := by rw [IntKind.wrap_u64]; omega
        rw [hd, encRs_cons, ← List.append_assoc] at hM
        obtain ⟨T, hT⟩ : ∃ T, M ++ Fm.encR r = T := ⟨_, rfl⟩
        rw [hT] at hM
        obtain ⟨X, hX⟩ : ∃ X, M ++ Vm.vb m = X := ⟨_, rfl⟩
        have hXT : X ++ Fm.encFs r = T := by rw [← hX, ← hT]; unfold Fm.encR; rw [hrl, List.append_assoc]
        have hTl : T.length ≤ 600000 := by
          have := congrArg List.length hM
          rw [List.length_append] at this
          have := Hs.out
          omega
        have hMl : M.length ≤ 600000 := by
          have := congrArg List.length hT
          rw [List.length_append] at this
          omega
        have HM := Lib.hid hM; have Hrec := Lib.hid hrec; have HX := Lib.hid hX; have HXT := Lib.hid hXT; have Hm := Lib.hid hm; have Hrl := Lib.hid hrl; have Hcell := Lib.hid hcell; clear hM hd hrr hrec hx hX hXT hm hT hrl hcell0
        go_wp2_with fail
        refine (rput_n A3 M.length c3 M X m _ hown3.rb (by omega) (by omega) HX.out).mono ?_
        rintro e w4 ⟨A4, c4, rfl, hown4, hb4⟩
        have hown4' := hown4.mono hsz3
        have b4 : Below w.heap.size w w4 := hbel3.trans (hb4.mono hsz3)
        have Hown4 := Lib.hid hown4'; clear hown4 hown4' hcell
        have hcell4 := (hb4.cell (p := ⟨b, off + k, none⟩) (show b < _ by omega)).trans Hcell.out
        have HB4 := Lib.hid hb4
        clear hb4
        go_wp2
        go_loopw [4, 6] (fun o i wr => EncF w T r m o i wr) (fun _ i _ => m - (intOf i).toNat)
        case atStart => exact ⟨A4, c4, X, 0, rfl, rfl, Nat.zero_le _, Hown4.out, by simpa using HXT.out, b4⟩
        case round =>
          obtain ⟨A5, c5, M2, j, rfl, rfl, hj, hown5, hM2, hbel5⟩ := hrel
          have hsz5 := hbel5.size
          have hcell5 := (hbel5.cell (p := ⟨b, off + k, none⟩) (show b < _ from hbB)).trans Hcell0.out
          clear hcell4
          by_cases hjt : j < m
          · obtain ⟨b2, off2, x, rfl, hb2, hcx, hx, hdx⟩ := lvs_at (Hrec.out.below hbel5) hjt
            have hx1000 : x.length ≤ 1000 := Hm.out.2 x (List.mem_of_getElem? hx)
            rw [hdx, encFs_cons, ← List.append_assoc] at hM2
            obtain ⟨X2, hX2⟩ : ∃ X2, M2 ++ Fm.encF x = X2 := ⟨_, rfl⟩
            rw [hX2] at hM2
            have hM2l : M2.length ≤ 600000 := by
              have h1 := congrArg List.length hM2
              have h2 := congrArg List.length hX2
              rw [List.length_append] at h1 h2
              omega
            have HM2 := Lib.hid hM2; have HX2 := Lib.hid hX2; clear hM2 hX2 hx hdx
            go_wp2_with fail
            refine (rframe_n A5 M2.length c5 M2 X2 x _ hown5.rb (by omega) (by omega) HX2.out).mono ?_
            rintro e w6 ⟨A6, c6, rfl, hown6, hb6⟩
            have hown6' := hown6.mono hsz5
            have b6 : Below w.heap.size w w6 := hbel5.trans (hb6.mono hsz5)
            have Hown6 := Lib.hid hown6'; clear hown6 hown6' hcx hcell5 hb6
            go_wp2
            go_roundw
            case rel => exact ⟨A6, c6, X2, j + 1, rfl, by go_num, by omega, Hown6.out, HM2.out, b6⟩
            case measure => simp [intOf]; omega
          · have hMT : M2 = T := by
              rw [← hM2, List.drop_of_length_le (by rw [Hrl.out]; omega)]
              simp [Fm.encFs]
            subst hMT
            clear hM2
            go_wp2
            go_roundw
            case rel => exact ⟨A5, c5, M2, k + 1, rfl, by go_num, by omega, hown5, HM.out, hbel5⟩
            case measure => simp [intOf]; omega
      · have hMT : M = Fm.enc l := by
          rw [← hM, List.drop_of_length_le (by rw [Hl.out]; omega)]
          simp [Fm.encRs]
        have HMT := Lib.hid hMT
        clear hM hrr hMT
        go_wp2
        go_ret2
        rw [← HMT.out]
        exact ⟨A3, c3, rfl, hown3, hbel3⟩
  · rw [encS_err hall]
    have Hr := Lib.hid hr; have Hd := Lib.hid (decide_eq_false hall).symm; clear hr hl hsz hall
    go_enter Try.func32, Try.ntmps32
    go_wp2_with fail
    refine (mayAll_c A n c B l _ Hr.out (by omega) false Hd.out).mono ?_
    rintro e w' ⟨rfl, rfl⟩
    go_wp2
    go_ret2
    exact ⟨none, 0, rfl, Own.nil _ _ _, Below.refl _ _⟩
end Go.Proofs.Ytplkjljhpmldfaa
