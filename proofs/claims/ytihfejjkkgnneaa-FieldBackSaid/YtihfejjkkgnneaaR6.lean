/-
  field's takeRecord: what the call returns and leaves.
-/
import Derived.Test.YtihfejjkkgnneaaR5
import Derived.Test.YtihfejjkkgnneaaAl
namespace Go.Proofs.Ytihfejjkkgnneaa
open Go.RowKit

/-- Behind what is done. -/
def preF (d : List (List UInt8)) : Except Nat (List (List UInt8) × List UInt8) → Except Nat (List (List UInt8) × List UInt8)
  | .error x => .error x
  | .ok (r, t) => .ok (d ++ r, t)
def Dst (m : Nat) (T : List UInt8) (k : Nat) (done : List (List UInt8)) (D : List UInt8) : Prop := Fm.decFs m T = preF done (Fm.decFs (m - k) D)
theorem Dst.start (m : Nat) (T : List UInt8) : Dst m T 0 [] T := by
  unfold Dst
  rw [Nat.sub_zero]
  cases Fm.decFs m T with
  | error x => rfl
  | ok p => rfl
theorem Dst.step {m k : Nat} {T D S R : List UInt8} {done : List (List UInt8)} (h : Dst m T k done D) (hk : k < m) (hf : Fm.takeF D = .ok (S, R)) : Dst m T (k + 1) (done ++ [S]) R := by
  unfold Dst at h ⊢
  obtain ⟨j, hj⟩ : ∃ j, m - k = j + 1 := ⟨m - k - 1, by omega⟩
  have hj2 : m - (k + 1) = j := by omega
  rw [h, hj, hj2]
  show preF done (Fm.decFs (j + 1) D) = _
  rw [Fm.decFs, hf]
  dsimp only
  cases Fm.decFs j R with
  | error x => rfl
  | ok p => obtain ⟨r, t⟩ := p; simp [preF]
theorem Dst.err {m k x : Nat} {T D : List UInt8} {done : List (List UInt8)} (h : Dst m T k done D) (hk : k < m) (hf : Fm.takeF D = .error x) : Fm.decFs m T = .error x := by
  unfold Dst at h
  obtain ⟨j, hj⟩ : ∃ j, m - k = j + 1 := ⟨m - k - 1, by omega⟩
  rw [h, hj, Fm.decFs, hf]
  rfl
theorem Dst.end_ {m : Nat} {T D : List UInt8} {done : List (List UInt8)} (h : Dst m T m done D) : Fm.decFs m T = .ok (done, D) := by
  unfold Dst at h
  rw [h, Nat.sub_self]
  simp [Fm.decFs, preF]

def RetTr (B : Nat) (w : World) (t : Except Nat (List (List UInt8) × List UInt8)) (e : Ending) (w' : World) : Prop :=
  Below w.heap.size w w' ∧ match t with
  | .ok (r, s) => ∃ A c D d, e = .returned (.tuple #[.slice A r.length c, .slice D s.length d, .int .i64 0]) ∧ Oc 1 w' 9 w.heap.size A r.length c (lvs r) ∧ Rb w' B D s.length d s
  | .error x => e = .returned (.tuple #[.slice none 0 0, .slice none 0 0, .int .i64 (x : Int)])

def TrRel (B base : Nat) (w : World) (g m : Nat) (T : List UInt8) (r i : Value) (wr : World) : Prop :=
  ∃ E d D done, ∃ k : Nat, r = .slice E D.length d ∧ i = .int .i64 (k : Int) ∧ k ≤ m ∧ done.length = k ∧ Rb wr B E D.length d D ∧ D.length ≤ 1000000 ∧
    Oc 1 wr 9 base (some ⟨g, 0, none⟩) m m (lvs (done ++ List.replicate (m - k) [])) ∧ Dst m T k done D ∧ Below base w wr

theorem lvs_set (done : List (List UInt8)) (S : List UInt8) (j : Nat) : (lvs (done ++ List.replicate (j + 1) [])).set done.length (.string ⟨S.toArray⟩) = lvs ((done ++ [S]) ++ List.replicate j []) := by
  simp [lvs, List.replicate_succ]
theorem lvs_old (done : List (List UInt8)) (j : Nat) : (lvs (done ++ List.replicate (j + 1) []))[done.length]? = some (.string ⟨#[]⟩) := by
  simp [lvs, List.replicate_succ]

set_option maxRecDepth 100000 in
set_option maxHeartbeats 2000000 in
/-- takeRecord -/
theorem takeRecord_c (A : Option Addr) (n c B : Nat) (l : List UInt8) (w : World) (hr : Rb w B A n c l) (hB : B ≤ w.heap.size) (hn : n ≤ 1000000) :
    Calls Try.prog 37 #[.slice A n c] w (RetTr B w (Fm.decR l)) := by
  have hl := hr.len
  rw [decR_cnt]
  cases hc : cnt l 50 with
  | error x =>
    have hx := cnt_x hc
    have Hr := Lib.hid hr; have Hc := Lib.hid hc; clear hr hc hl
    go_enter Try.func37, Try.ntmps37
    go_wp2_with fail
    refine (takeCount_err A n c B l 50 50 x _ Hr.out hB hn rfl (by omega) Hc.out).mono ?_
    rintro e w1 ⟨rfl, hb1⟩
    have hx2 := hx.1
    go_wp2
    go_ret3
    exact ⟨hb1, rfl⟩
  | ok p =>
    obtain ⟨m, T⟩ := p
    obtain ⟨hm, hTl⟩ := cnt_small hc
    have hT : T.length ≤ 1000000 := by omega
    show Calls _ _ _ _ (RetTr B w (Fm.decFs m T))
    have hmk := fun w => make_rec w m (m : Int) rfl (by omega)
    have Hr := Lib.hid hr; have Hc := Lib.hid hc; clear hr hc hl
    go_enter Try.func37, Try.ntmps37
    go_wp2_with fail
    refine (takeCount_ok A n c B l 50 50 m T _ Hr.out hB hn rfl (by omega) Hc.out).mono ?_
    rintro e w1 ⟨E, d, rfl, hrE, hb1⟩
    have z1 := hb1.size
    have HrE := Lib.hid hrE; clear hrE
    go_wp2
    go_loopw [6, 23] (fun r i wr => TrRel B w1.heap.size w1 w1.heap.size m T r i wr) (fun _ i _ => m - (intOf i).toNat)
    case atStart =>
      refine ⟨E, d, T, [], 0, rfl, rfl, Nat.zero_le _, rfl, HrE.out.alloc (by omega) _, hT, ?_, Dst.start m T, (Below.refl _ _).alloc (Nat.le_refl _) _⟩
      have h := Oc.lit (z := 1) w1 9 (srow m) m (by simp [srow]) (by simp [maxLen]; omega)
      have e : (srow m).toList = lvs ([] ++ List.replicate (m - 0) []) := by simp [srow, lvs]
      rw [e] at h
      exact h
    case round =>
      obtain ⟨E3, d3, D, done, k, rfl, rfl, hk, hdk, hr3, hDl, hrow, hst, hbel3⟩ := hrel
      have z3 := hbel3.size
      clear hmk
      by_cases hlt : k < m
      · cases hf : Fm.takeF D with
        | error x =>
          have hx := takeF_x hf
          have Hf := Lib.hid (hst.err hlt hf)
          have Hr3 := Lib.hid hr3; have Htf := Lib.hid hf; have Hrow := Lib.hid hrow; have Hdk := Lib.hid hdk; clear hst hf hr3 hrow hdk
          have hx2 : 2 ≤ x := by omega
          clear hx
          go_wp2_with fail
          refine (takeField_err E3 D.length d3 B D x _ Hr3.out (by omega) hDl Htf.out).mono ?_
          rintro e w4 ⟨rfl, hb4⟩
          have hrow4 := Oc.keep Hrow.out hb4
          have hcA : w4.cell? ⟨w1.heap.size, k, none⟩ = some (.string ⟨#[]⟩) := by
            obtain ⟨j, hj⟩ : ∃ j, m - k = j + 1 := ⟨m - k - 1, by omega⟩
            rw [World.ownsRow.cellAt hrow4 k (by omega), hj, ← Hdk.out]
            exact lvs_old done j
          have hfA := World.ownsRow.frozenAt hrow4 k
          have z4 := hb4.size
          have bz : Below w.heap.size w w4 := (hb1.trans (hbel3.mono z1)).trans (hb4.mono (by omega))
          clear hrow4
          go_wp2
          go_ret3
          rw [Hf.out]
          exact ⟨bz.setCell (by simpa using z1) _, rfl⟩
        | ok p =>
          obtain ⟨S, R⟩ := p
          obtain ⟨hRl, hSl⟩ := takeF_small hf
          have hRl2 : R.length ≤ 1000000 := by omega
          have Hst := Lib.hid (hst.step hlt hf)
          have Hr3 := Lib.hid hr3; have Htf := Lib.hid hf; have Hrow := Lib.hid hrow; have Hdk := Lib.hid hdk; clear hst hf hr3 hrow hdk
          go_wp2_with fail
          refine (takeField_ok E3 D.length d3 B D S R _ Hr3.out (by omega) hDl Htf.out).mono ?_
          rintro e w4 ⟨E4, d4, rfl, hr4, hb4⟩
          have hrow4 := Oc.keep Hrow.out hb4
          obtain ⟨j, hj⟩ : ∃ j, m - k = j + 1 := ⟨m - k - 1, by omega⟩
          have hcA : w4.cell? ⟨w1.heap.size, k, none⟩ = some (.string ⟨#[]⟩) := by
            rw [World.ownsRow.cellAt hrow4 k (by omega), hj, ← Hdk.out]
            exact lvs_old done j
          have hfA := World.ownsRow.frozenAt hrow4 k
          have hrow5 : Oc 1 (w4.setCell ⟨w1.heap.size, k, none⟩ (.string ⟨S.toArray⟩)) 9 w1.heap.size (some ⟨w1.heap.size, 0, none⟩) m m (lvs ((done ++ [S]) ++ List.replicate (m - (k + 1)) [])) := by
            have h5 := (World.ownsRow.stored hrow4 k (.string ⟨S.toArray⟩)).1
            have e : (lvs (done ++ List.replicate (m - k) [])).set k (.string ⟨S.toArray⟩) = lvs ((done ++ [S]) ++ List.replicate (m - (k + 1)) []) := by
              rw [show m - (k + 1) = j by omega, hj, ← Hdk.out]
              exact lvs_set done S j
            rw [e] at h5
            exact h5
          have z4 := hb4.size
          have b4 : Below w1.heap.size w1 w4 := hbel3.trans (hb4.mono (by omega))
          have Hr4 := Lib.hid hr4; have Hrow5 := Lib.hid hrow5; have Hj := Lib.hid hj; clear hrow4 hr4 hrow5 hj
          go_wp2
          go_roundw
          case rel => exact ⟨E4, d4, R, done ++ [S], k + 1, rfl, by go_num, by omega, by rw [List.length_append, Hdk.out]; rfl, Hr4.out.setCell (by show B ≤ w1.heap.size; omega) _, hRl2, Hrow5.out, Hst.out, b4.setCell (by simp) _⟩
          case measure => simp [intOf]; omega
      · have hkm : k = m := by omega
        subst hkm
        have Hf := Lib.hid hst.end_
        have hrow' := hrow.mono z1
        rw [Nat.sub_self, List.replicate_zero, List.append_nil] at hrow'
        have bz : Below w.heap.size w wr := hb1.trans (hbel3.mono z1)
        have Hrow := Lib.hid hrow'; have Hr3 := Lib.hid hr3; have Hdk := Lib.hid hdk; clear hst hrow hrow' hr3 hdk
        go_wp2
        go_ret3
        rw [Hf.out]
        refine ⟨bz, ?_⟩
        show ∃ A c E d, _ ∧ Oc 1 wr 9 w.heap.size A done.length c (lvs done) ∧ Rb wr B E D.length d D
        rw [Hdk.out]
        exact ⟨some ⟨w1.heap.size, 0, none⟩, k, E3, d3, rfl, Hrow.out, Hr3.out⟩

theorem takeRecord_ok (A : Option Addr) (n c B : Nat) (l s : List UInt8) (r : List (List UInt8)) (w : World) (hr : Rb w B A n c l) (hB : B ≤ w.heap.size) (hn : n ≤ 1000000) (h : Fm.decR l = .ok (r, s)) :
    Calls Try.prog 37 #[.slice A n c] w fun e w' => ∃ A c D d, e = .returned (.tuple #[.slice A r.length c, .slice D s.length d, .int .i64 0]) ∧ Oc 1 w' 9 w.heap.size A r.length c (lvs r) ∧ Rb w' B D s.length d s ∧ Below w.heap.size w w' :=
  (takeRecord_c A n c B l w hr hB hn).mono fun e w' hp => by
    rw [h] at hp
    obtain ⟨hb, A, c, D, d, h1, h2, h3⟩ := hp
    exact ⟨A, c, D, d, h1, h2, h3, hb⟩
theorem takeRecord_err (A : Option Addr) (n c B : Nat) (l : List UInt8) (x : Nat) (w : World) (hr : Rb w B A n c l) (hB : B ≤ w.heap.size) (hn : n ≤ 1000000) (h : Fm.decR l = .error x) :
    Calls Try.prog 37 #[.slice A n c] w fun e w' => e = .returned (.tuple #[.slice none 0 0, .slice none 0 0, .int .i64 (x : Int)]) ∧ Below w.heap.size w w' :=
  (takeRecord_c A n c B l w hr hB hn).mono fun e w' hp => by
    rw [h] at hp
    exact ⟨hp.2, hp.1⟩
theorem decFs_x : ∀ (k : Nat) (b : List UInt8) (x : Nat), Fm.decFs k b = .error x → x = 2 ∨ x = 3 ∨ x = 5
  | 0, b, x, h => by simp [Fm.decFs] at h
  | k + 1, b, x, h => by
    rw [Fm.decFs] at h
    cases hf : Fm.takeF b with
    | error y => rw [hf] at h; injection h with h; have := takeF_x hf; omega
    | ok p =>
      obtain ⟨s, b'⟩ := p
      rw [hf] at h
      dsimp only at h
      cases hd : Fm.decFs k b' with
      | error y => rw [hd] at h; injection h with h; have := decFs_x k b' y hd; omega
      | ok q => rw [hd] at h; cases h
theorem decFs_small : ∀ (k : Nat) (b : List UInt8) (r : List (List UInt8)) (t : List UInt8), Fm.decFs k b = .ok (r, t) → t.length ≤ b.length
  | 0, b, r, t, h => by simp [Fm.decFs] at h; rw [h.2]; exact Nat.le_refl _
  | k + 1, b, r, t, h => by
    rw [Fm.decFs] at h
    cases hf : Fm.takeF b with
    | error y => rw [hf] at h; cases h
    | ok p =>
      obtain ⟨s, b'⟩ := p
      rw [hf] at h
      dsimp only at h
      have h1 := (takeF_small hf).1
      cases hd : Fm.decFs k b' with
      | error y => rw [hd] at h; cases h
      | ok q =>
        obtain ⟨r', t'⟩ := q
        rw [hd] at h
        injection h with h
        injection h with _ h
        subst h
        have := decFs_small k b' r' _ hd
        omega
theorem decR_x {b : List UInt8} {x : Nat} (h : Fm.decR b = .error x) : 2 ≤ x ∧ x ≤ 5 := by
  rw [decR_cnt] at h
  cases hc : cnt b 50 with
  | error y => rw [hc] at h; injection h with h; have := cnt_x hc; omega
  | ok p =>
    rw [hc] at h
    have := decFs_x _ _ _ h
    omega
theorem decR_small {b t : List UInt8} {r : List (List UInt8)} (h : Fm.decR b = .ok (r, t)) : t.length ≤ b.length := by
  rw [decR_cnt] at h
  cases hc : cnt b 50 with
  | error y => rw [hc] at h; cases h
  | ok p =>
    obtain ⟨a, b'⟩ := p
    rw [hc] at h
    have h1 := (cnt_small hc).2
    have := decFs_small a b' r t h
    omega
end Go.Proofs.Ytihfejjkkgnneaa
