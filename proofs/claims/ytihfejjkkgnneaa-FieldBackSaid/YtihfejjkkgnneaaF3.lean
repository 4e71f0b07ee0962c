/-
  field's original: the byte that a letter stands for, by a range over the map.
-/
import Derived.Test.YtihfejjkkgnneaaF2
import Derived.OpenShut
namespace Go.Proofs.Ytihfejjkkgnneaa
open Go.RowKit Go.Maps Go.ChangeShapes

/-- The byte that a letter stands for. -/
def orig (x : UInt8) : Option UInt8 := if x = 116 then some 9 else if x = 110 then some 10 else if x = 92 then some 92 else none
theorem orig_of {k c : UInt8} (h : letter k = some c) : orig c = some k := by
  unfold letter at h
  split at h
  · subst k; injection h with h; subst h; rfl
  · split at h
    · subst k; injection h with h; subst h; rfl
    · split at h
      · subst k; injection h with h; subst h; rfl
      · cases h
theorem orig_none {x : UInt8} (h1 : x ≠ 116) (h2 : x ≠ 110) (h3 : x ≠ 92) : orig x = none := by
  unfold orig; rw [if_neg h1, if_neg h2, if_neg h3]

/-- Of what has been gone through nothing is x. -/
def Gone (x : UInt8) (left : Lit → Bool) : Prop := ∀ k c : UInt8, letter k = some c → left (.int .u8 (k.toNat : Int)) = false → c ≠ x
theorem esD_left (k c : UInt8) (h : letter k = some c) : Maps.has esD (.int .u8 (k.toNat : Int)) = true := by rw [esD_has, h]; rfl
theorem Gone.start (x : UInt8) : Gone x (Maps.has esD) := fun k c hk hl => by rw [esD_left k c hk] at hl; cases hl
theorem Gone.step {x : UInt8} {left : Lit → Bool} (h : Gone x left) {j d : UInt8} (hj : letter j = some d) (hd : d ≠ x) : Gone x (fun z => left z && !z.sameKey (.int .u8 (j.toNat : Int))) := fun k c hk hl => by
  by_cases hkj : k = j
  · subst hkj
    rw [hj] at hk
    injection hk with hk
    rw [← hk]; exact hd
  · refine h k c hk ?_
    have e : (Lit.int .u8 (k.toNat : Int)).sameKey (.int .u8 (j.toNat : Int)) = false := by
      have hne : ((k.toNat : Int) == (j.toNat : Int)) = false := by
        rw [beq_eq_false_iff_ne]
        intro e
        exact hkj (UInt8.toNat_inj.1 (by omega))
      simp only [Lit.sameKey]
      first | exact hne | (simp; intro e; exact hkj (UInt8.toNat_inj.1 (by omega)))
    simpa [e] using hl
theorem Gone.end_ {x : UInt8} {left : Lit → Bool} (h : Gone x left) (hl : ∀ kl, left kl = false) : orig x = none :=
  orig_none (fun e => h 9 116 rfl (hl _) e.symm) (fun e => h 10 110 rfl (hl _) e.symm) (fun e => h 92 92 rfl (hl _) e.symm)
/-- What an entry tells. -/
theorem esD_entry {k c : Int} (hk : (Lit.int .u8 k).wf = true) (hc : (Lit.int .u8 c).wf = true) (hat : ∀ zd : DataW Unit, esD.atKey (.int .u8 k) zd = .lit (.int .u8 c)) :
    ∃ kk cc : UInt8, k = (kk.toNat : Int) ∧ c = (cc.toNat : Int) ∧ letter kk = some cc := by
  have bk := bounds_u8 hk
  have bc := bounds_u8 hc
  obtain ⟨kk, rfl⟩ : ∃ kk : UInt8, k = (kk.toNat : Int) := ⟨UInt8.ofNat k.toNat, by simp; omega⟩
  obtain ⟨cc, rfl⟩ : ∃ cc : UInt8, c = (cc.toNat : Int) := ⟨UInt8.ofNat c.toNat, by simp; omega⟩
  refine ⟨kk, cc, rfl, rfl, ?_⟩
  have h0 := hat (.lit (.int .u8 0))
  rw [esD_at] at h0
  simp only [DataW.lit.injEq, Lit.int.injEq, true_and] at h0
  cases hl : letter kk with
  | some d =>
    rw [hl] at h0
    have h0' : ((d.toNat : Nat) : Int) = (cc.toNat : Int) := h0
    have : d = cc := UInt8.toNat_inj.1 (by omega)
    rw [this]
  | none =>
    have h1 := has_true_of_atKey hat
    rw [esD_has, hl] at h1
    cases h1

def RetO (base : Nat) (w : World) (o : Option UInt8) (e : Ending) (w' : World) : Prop :=
  e = .returned (.tuple #[.int .u8 (((o.getD 0).toNat : Nat) : Int), .bool o.isSome]) ∧ Below base w w'
def OrigRel (b r : Nat) (x : UInt8) (w wr : World) : Prop :=
  ∃ (left : Lit → Bool) (cnt : Nat), wr.ranges Try.prog 5 (plainElem (H := Unit) Try.prog 5) b r 3 esD left cnt ∧ Gone x left ∧ Below w.heap.size w wr

set_option maxRecDepth 100000 in
set_option maxHeartbeats 1000000 in
/-- original -/
theorem original_c (b : Nat) (x : UInt8) (w : World) (hm : Mp w b) :
    Calls Try.prog 58 #[.map (some b), .int .u8 (x.toNat : Int)] w (RetO w.heap.size w (orig x)) := by
  have hbl := hm.lt
  have Hm := Lib.hid hm; clear hm
  go_enter Try.func58, Try.ntmps58
  go_wp2_with (at_range; refine wpList_range_own _ rfl _ 67 rfl 5 5 key8 Try.underlying67 _ b 3 _ rfl Hm.out ?_; intro w0 hrg0 hg0 hs0)
  go_frame
  go_loopw [6] (fun _ wr => OrigRel b w.heap.size x w wr) (fun _ wr => wr.rangeLeft b w.heap.size)
  case atStart => exact ⟨_, _, hrg0, Gone.start x, (Below.refl _ _).grown hg0 (Nat.le_refl _) (fun j hj => by cases hj)⟩
  case round =>
    obtain ⟨left, cnt, hrg, hG, hbel⟩ := hrel
    have HG := Lib.hid hG; clear hG
    go_wp2_with (at_next; refine wpList_next_ranges_ii _ rfl _ rfl 5 5 .u8 .u8 key8 Try.underlying5 Try.underlying5 b w.heap.size 3 _ _ _ rfl hrg ?_ ?_)
    · intro hc0 hl0
      have Ho := Lib.hid (HG.out.end_ hl0)
      clear hl0 hc0
      go_wp2
      go_ret2
      rw [Ho.out]
      exact ⟨rfl, hbel⟩
    · intro k c w1 cnt1 hwk hwc hlk hat hrg1 hlt hg1 hs1 hen
      obtain ⟨kk, cc, rfl, rfl, hkc⟩ := esD_entry hwk hwc hat
      have hb1 : Below w.heap.size w w1 := hbel.grown hg1 hbel.size (fun j hj => by injection hj with e; omega)
      have Hkc := Lib.hid hkc
      clear hkc hat hwk hwc hlk hs1 hg1
      by_cases hcx : cc = x
      · subst hcx
        have Ho := Lib.hid (orig_of Hkc.out)
        go_wp2
        go_ret2
        rw [Ho.out]
        exact ⟨rfl, hb1⟩
      · have hne : ((cc.toNat : Int) == (x.toNat : Int)) = false := by
          rw [beq_eq_false_iff_ne]
          intro e
          exact hcx (UInt8.toNat_inj.1 (by omega))
        have Hcx := Lib.hid (show cc ≠ x from hcx)
        clear hcx
        go_wp2
        go_roundw
        case rel => exact ⟨_, cnt1, hrg1, HG.out.step Hkc.out Hcx.out, hb1⟩
        case measure => rw [hrg1.left_eq, hrg.left_eq]; exact hlt
end Go.Proofs.Ytihfejjkkgnneaa
