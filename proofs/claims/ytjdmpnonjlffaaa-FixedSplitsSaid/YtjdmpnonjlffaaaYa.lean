/-
  fixed's Whole; the document's: what each call returns and leaves.
-/
import Derived.Test.YtjdmpnonjlffaaaY7
import Derived.Test.YtjdmpnonjlffaaaY6
import Derived.Test.YtjdmpnonjlffaaaSh
namespace Go.Proofs.Ytjdmpnonjlffaaa
open Go.RowKit Go.Maps

theorem join_none (xs : List (List UInt8)) : Lib.join xs [] = xs.flatten := by
  cases xs with
  | nil => rfl
  | cons x r =>
    rw [Lib.join_cons]
    have : Lib.joinTail [] r = r.flatten := by
      unfold Lib.joinTail
      simp
    rw [this]; rfl
theorem app_eq (a b : List UInt8) : (ByteArray.mk a.toArray) ++ (ByteArray.mk b.toArray) = ByteArray.mk (a ++ b).toArray := by
  apply str_eq
  simp
def RetH (w : World) (t : List UInt8 × Nat) (e : Ending) (w' : World) : Prop :=
  e = .returned (.tuple #[.string ⟨t.1.toArray⟩, .int .i64 (t.2 : Int)]) ∧ Below w.heap.size w w'
def WhRel (base m : Nat) (ws : List Int) (r : List (List UInt8)) (w : World) (i : Value) (wr : World) : Prop :=
  ∃ j : Nat, i = .int .i64 (j : Int) ∧ j ≤ m ∧ (r.take j).map (fun f => (f.length : Int)) = ws.take j ∧ Below base w wr

set_option maxRecDepth 100000 in
set_option maxHeartbeats 2000000 in
theorem whole_c (A : Option Addr) (n c : Nat) (r : List (List UInt8)) (A' : Option Addr) (m d : Nat) (ws : List Int) (w : World) (hr : Rc 1 w w.heap.size A n c (lvs r)) (hc : Rc 1 w w.heap.size A' m d (ivs ws)) (hz : r.flatten.length ≤ 1000000) (hzn : n ≤ 1000000) :
    Calls Try.prog 23 #[.slice A n c, .slice A' m d] w (RetH w (Fx.whS ws r)) := by
  have hl : ws.length = m := by have := hc.len1; rw [ivs_length] at this; exact this
  have hrl := lvs_num hr
  have hmax : m ≤ 9223372036854775807 := by have h2 := hc.2.1; have h3 := hc.2.2.1; unfold maxLen at h3; omega
  cases hw : Fx.wok ws with
  | false =>
    have Hf := Lib.hid (Fx.whS_arg (r := r) hw); have Hc := Lib.hid hc; clear hr hc hl hrl
    go_enter Try.func23, Try.ntmps23
    go_wp2_with fail
    refine (arw_c A' m d _ ws false hw.symm _ Hc.out).mono ?_
    rintro e w1 ⟨rfl, rfl⟩
    go_wp2
    go_ret2
    rw [Hf.out]
    exact ⟨rfl, Below.refl _ _⟩
  | true =>
    have hm := Fx.wok_len hw
    rw [hl] at hm
    obtain ⟨hm1, hm2⟩ := hm
    by_cases hnm : n = m
    · subst hnm
      have Hr := Lib.hid hr; have Hc := Lib.hid hc; have Hl := Lib.hid hl; have Hrl := Lib.hid hrl; have Hw := Lib.hid hw; have Hz := Lib.hid hz; clear hr hc hl hrl hw hz
      have dn : ((n : Int) != (n : Int)) = false := by simp
      go_enter Try.func23, Try.ntmps23
      go_wp2_with fail
      refine (arw_c A' n d _ ws true Hw.out.symm _ Hc.out).mono ?_
      rintro e w1 ⟨rfl, rfl⟩
      go_wp2
      go_loopw [19] (fun i wr => WhRel w.heap.size n ws r w i wr) (fun i _ => n - (intOf i).toNat)
      case atStart => exact ⟨0, rfl, Nat.zero_le _, by simp, Below.refl _ _⟩
      case round =>
        clear dn
        obtain ⟨j, rfl, hj, hall, hbel⟩ := hrel
        have z3 := hbel.size
        rename World => wr
        by_cases hlt : j < n
        · obtain ⟨b, off, x, rfl, hb, hcell, hx⟩ := (Hc.out.below hbel).int hlt
          obtain ⟨b2, off2, f, rfl, hb2, hc2, hf, _⟩ := lvs_at (Hr.out.below hbel) hlt
          obtain ⟨w5, h5⟩ : ∃ w5, w5 = wr.alloc (.cells #[.int .i64 x] 3) := ⟨_, rfl⟩
          have b5 : Below wr.heap.size wr w5 := by rw [h5]; exact (Below.refl _ _).alloc (Nat.le_refl _) _
          have hbx : w5.cell? ⟨wr.heap.size, 0, none⟩ = some (.int .i64 x) := by rw [h5]; simp
          have hc25 : w5.cell? ⟨b2, off2 + j, none⟩ = some (.string ⟨f.toArray⟩) := (b5.cell (p := ⟨b2, off2 + j, none⟩) (by show b2 < _; omega)).trans hc2
          have b5w := hbel.trans (b5.mono z3)
          have hfit := fit_c x wr
          rw [← h5] at hfit
          have Hfit := Lib.hid hfit; have Hbx := Lib.hid hbx
          clear hfit h5 hbx hc2
          by_cases hs : (f.length : Int) = x
          · have Hn := Lib.hid (Fx.wid_next hx hf hs hall)
            have Ho := Lib.hid (decide_eq_true hs).symm
            clear hall hx hf hs
            go_wp2_with fail
            refine Hfit.out.mono ?_
            rintro e w6 ⟨rfl, rfl⟩
            go_wp2_with fail
            refine (fits_c f x wr.heap.size true Ho.out _ Hbx.out).mono ?_
            rintro e w6 ⟨rfl, rfl⟩
            go_wp2
            go_roundw
            case rel => exact ⟨j + 1, by go_num, hlt, Hn.out, b5w⟩
            case measure => simp [intOf]; omega
          · have Hf := Lib.hid (Fx.whS_no Hw.out (Fx.wid_at hx hf hs))
            have Ho := Lib.hid (decide_eq_false hs).symm
            clear hall hx hf hs
            go_wp2_with fail
            refine Hfit.out.mono ?_
            rintro e w6 ⟨rfl, rfl⟩
            go_wp2_with fail
            refine (fits_c f x wr.heap.size false Ho.out _ Hbx.out).mono ?_
            rintro e w6 ⟨rfl, rfl⟩
            go_wp2
            go_ret2
            rw [Hf.out]
            exact ⟨rfl, b5w⟩
        · have hfin : Fx.whS ws r = (r.flatten, 0) := Fx.whS_ok Hw.out (by
            rw [List.take_of_length_le (by rw [Hrl.out]; omega), List.take_of_length_le (by rw [Hl.out]; omega)] at hall
            exact hall)
          have hr3 := Hr.out.below hbel
          obtain ⟨bk, o, hA, hbk, hcells⟩ := hr3.2.2.2 (by omega)
          subst hA
          have hcap := hr3.2.1
          have hxl : (r.map fun f => ByteArray.mk f.toArray).length = n := by rw [List.length_map, Hrl.out]
          have hjn : Lib.join ((r.map fun f => ByteArray.mk f.toArray).map (·.data.toList)) (ByteArray.mk #[]).data.toList = r.flatten := by
            rw [List.map_map]
            have : ((fun x : ByteArray => x.data.toList) ∘ fun f : List UInt8 => ByteArray.mk f.toArray) = id := by funext f; rfl
            rw [this, List.map_id]
            exact join_none r
          have hjoin := Try.strings_Join bk o c (r.map fun f => ByteArray.mk f.toArray) ⟨#[]⟩ wr (fun k x hx => by
            rw [List.getElem?_map, Option.map_eq_some_iff] at hx
            obtain ⟨f, hf, rfl⟩ := hx
            exact hcells k _ (lvs_get r k f hf)) (by omega) (by rw [hxl]; omega) (by rw [hxl]; exact hcap) (by rw [hjn]; have := Hz.out; omega)
          rw [hxl, hjn] at hjoin
          have Hfin := Lib.hid hfin; have Hj := Lib.hid hjoin
          clear hall hfin hjoin hr3 hcells hjn hxl
          go_wp2_with fail
          refine Hj.out.mono ?_
          rintro e w6 ⟨rfl, hb6⟩
          have bz := hbel.trans (hb6.mono z3)
          go_wp2
          go_ret2
          rw [Hfin.out]
          exact ⟨rfl, bz⟩
    · have Hf := Lib.hid (Fx.whS_no (r := r) hw (Fx.wid_len (by rw [hrl, hl]; exact hnm))); have Hc := Lib.hid hc; have Hw := Lib.hid hw; clear hr hc hl hrl hw
      have dn : ((n : Int) != (m : Int)) = true := by simp; omega
      go_enter Try.func23, Try.ntmps23
      go_wp2_with fail
      refine (arw_c A' m d _ ws true Hw.out.symm _ Hc.out).mono ?_
      rintro e w1 ⟨rfl, rfl⟩
      go_wp2
      go_ret2
      rw [Hf.out]
      exact ⟨rfl, Below.refl _ _⟩

def RwhRel (m : Nat) (ws : List Int) (r : List (List UInt8)) (w : World) (s i : Value) (wr : World) : Prop :=
  ∃ j q : Nat, ∃ D, s = .string ⟨List.toArray D⟩ ∧ D = (r.take j).flatten ∧ i = .int .i64 (j : Int) ∧ j ≤ m ∧ (r.take j).map (fun f => (f.length : Int)) = ws.take j ∧ wr = w.drewN q

set_option maxRecDepth 100000 in
set_option maxHeartbeats 2000000 in
theorem rwhole_c (A : Option Addr) (n c : Nat) (r : List (List UInt8)) (A' : Option Addr) (m d : Nat) (ws : List Int) (w : World) (hr : Rc 1 w w.heap.size A n c (lvs r)) (hc : Rc 1 w w.heap.size A' m d (ivs ws)) (hz : r.flatten.length ≤ 1000000) (hzn : n ≤ 1000000) :
    Calls Try.prog 24 #[.slice A n c, .slice A' m d] w (RetH w (Fx.whS ws r)) := by
  have hl : ws.length = m := by have := hc.len1; rw [ivs_length] at this; exact this
  have hrl := lvs_num hr
  have hmax : m ≤ 9223372036854775807 := by have h2 := hc.2.1; have h3 := hc.2.2.1; unfold maxLen at h3; omega
  have hdr : ∀ q, Below w.heap.size w (w.drewN q) := fun q => below_drewN (Below.refl _ _) q
  cases hw : Fx.wok ws with
  | false =>
    have Hf := Lib.hid (Fx.whS_arg (r := r) hw); have Hc := Lib.hid hc; clear hr hc hl hrl
    go_enter Try.func24, Try.ntmps24
    go_wp2_with fail
    refine (rws_c A' m d _ ws false hw.symm _ Hc.out).mono ?_
    rintro e w1 ⟨rfl, rfl⟩
    go_wp2
    go_ret2
    rw [Hf.out]
    exact ⟨rfl, Below.refl _ _⟩
  | true =>
    have hm := Fx.wok_len hw
    rw [hl] at hm
    obtain ⟨hm1, hm2⟩ := hm
    by_cases hnm : n = m
    · subst hnm
      have Hr := Lib.hid hr; have Hc := Lib.hid hc; have Hl := Lib.hid hl; have Hrl := Lib.hid hrl; have Hw := Lib.hid hw; have Hz := Lib.hid hz; have Hdr := Lib.hid hdr; clear hr hc hl hrl hw hz hdr
      have dn : ((n : Int) != (n : Int)) = false := by simp
      go_enter Try.func24, Try.ntmps24
      go_wp2_with fail
      refine (rws_c A' n d _ ws true Hw.out.symm _ Hc.out).mono ?_
      rintro e w1 ⟨rfl, rfl⟩
      go_wp2
      go_loopw [6, 7] (fun s i wr => RwhRel n ws r w s i wr) (fun _ i _ => n - (intOf i).toNat)
      case atStart => exact ⟨0, 0, [], rfl, by simp, rfl, Nat.zero_le _, by simp, rfl⟩
      case round =>
        clear dn
        obtain ⟨j, q, D, rfl, hD, rfl, hj, hall, rfl⟩ := hrel
        by_cases hlt : j < n
        · obtain ⟨b, off, x, rfl, hb, hcell, hx⟩ := Hc.out.int hlt
          obtain ⟨b2, off2, f, rfl, hb2, hc2, hf, _⟩ := lvs_at Hr.out hlt
          have hfl := Fx.flat_take r j f hf
          rw [← hD] at hfl
          have hle := Fx.flat_le r (j + 1)
          rw [hfl, List.length_append] at hle
          have hzz := Hz.out
          have hsum : ¬ 9223372036854775807 < D.length + f.length := by omega
          by_cases hs : (f.length : Int) = x
          · have Hn := Lib.hid (Fx.wid_next hx hf hs hall)
            have ds : ((f.length : Int) != x) = false := by simp [hs]
            have Hfl := Lib.hid hfl
            clear hall hx hf hs hD hfl hle hzz
            go_wp2_with fail
            go_quiet (fail)
            go_wp2
            go_roundw
            case rel => exact ⟨j + 1, _, D ++ f, by rw [app_eq], Hfl.out.symm, by go_num, hlt, Hn.out, rfl⟩
            case measure => simp [intOf]; omega
          · have Hf := Lib.hid (Fx.whS_no Hw.out (Fx.wid_at hx hf hs))
            have ds : ((f.length : Int) != x) = true := by simpa using hs
            clear hall hx hf hs hD hfl hle hzz
            go_wp2_with fail
            go_quiet (fail)
            go_wp2
            go_ret2
            rw [Hf.out]
            exact ⟨rfl, by rw [World.drewN_drewN]; exact Hdr.out _⟩
        · have hfin : Fx.whS ws r = (r.flatten, 0) := Fx.whS_ok Hw.out (by
            rw [List.take_of_length_le (by rw [Hrl.out]; omega), List.take_of_length_le (by rw [Hl.out]; omega)] at hall
            exact hall)
          rw [List.take_of_length_le (by rw [Hrl.out]; omega)] at hD
          subst hD
          have Hfin := Lib.hid hfin
          clear hall hfin
          go_wp2
          go_ret2
          rw [Hfin.out]
          exact ⟨rfl, Hdr.out _⟩
    · have Hf := Lib.hid (Fx.whS_no (r := r) hw (Fx.wid_len (by rw [hrl, hl]; exact hnm))); have Hc := Lib.hid hc; have Hw := Lib.hid hw; clear hr hc hl hrl hw
      have dn : ((n : Int) != (m : Int)) = true := by simp; omega
      go_enter Try.func24, Try.ntmps24
      go_wp2_with fail
      refine (rws_c A' m d _ ws true Hw.out.symm _ Hc.out).mono ?_
      rintro e w1 ⟨rfl, rfl⟩
      go_wp2
      go_ret2
      rw [Hf.out]
      exact ⟨rfl, Below.refl _ _⟩
end Go.Proofs.Ytjdmpnonjlffaaa
