/-
  varint.TakePair and the document's Pair: what each call returns and leaves.
-/
import Derived.Test.YtcmagegcolcalaaVp
namespace Go.Proofs.Ytcmagegcolcalaa
open Go.RowKit

theorem rb_len {w : World} {B A c n} {l : List UInt8} (h : Rb w B A l.length c l) (hn : n = l.length) : Rb w B A n c l := by subst hn; exact h

set_option maxRecDepth 100000 in
set_option maxHeartbeats 400000 in
/-- the document's Pair -/
theorem rpair_c (A : Option Addr) (n c : Nat) (l : List UInt8) (k v : ByteArray) (w : World) (hr : Rb w w.heap.size A n c l) (hn : n ≤ 500000) (hk : k.size ≤ 100000) (hv : v.size ≤ 100000) :
    Calls Try.prog 26 #[.slice A n c, .agg #[.string k, .string v]] w (RetB w.heap.size w (l ++ (fr k ++ fr v))) := by
  have hk1 := vb_small k.size (by omega)
  have hfk : (fr k).length ≤ 100010 := by rw [fr_len]; omega
  clear hk1
  have hl := hr.len
  have Hr := Lib.hid hr; have Hl := Lib.hid hl; clear hr hl
  go_enter Try.func26, Try.ntmps26
  go_wp2
  go_region_held3 (fun w' => w'.cell? ⟨w.heap.size, 0, none⟩ = some (.string k) ∧ w'.cell? ⟨w.heap.size, 1, none⟩ = some (.string v)) (go_keep)
    (first | (go_at_call 24; (with_reducible refine (rframe_c A n c l k _ ?_ ?_ ?_).mono ?_); exact ((Hr.out.alloc (Nat.le_refl _) _).more (by simp)); omega; exact hk; rintro e w1 ⟨A1, c1, rfl, hown1, hb1⟩; have hc0 : w1.cell? ⟨w.heap.size, 0, none⟩ = some (.string k) := (hb1.cell (by simp)).trans (by simp); have hc1 : w1.cell? ⟨w.heap.size, 1, none⟩ = some (.string v) := (hb1.cell (by simp)).trans (by simp); have hz1 : w.heap.size + 1 ≤ w1.heap.size := (by have := hb1.size; simpa using this)) | (go_at_call 24; (with_reducible refine (rframe_c A1 _ c1 (l ++ fr k) v _ ?_ ?_ ?_).mono ?_); exact (rb_len hown1.rb (List.length_append).symm); (rw [Hl.out]; omega); exact hv; rintro e w3 ⟨A3, c3, rfl, hown3, hb3⟩; have hf0 : w3.cell? ⟨w.heap.size, 0, none⟩ = some (.string k) := (hb3.cell (p := ⟨w.heap.size, 0, none⟩) hz1).trans hc0; have hf1 : w3.cell? ⟨w.heap.size, 1, none⟩ = some (.string v) := (hb3.cell (p := ⟨w.heap.size, 1, none⟩) hz1).trans hc1))
  go_wp2
  go_ret
  have hb1' : Below w.heap.size w w1 := ((Below.refl _ _).alloc (Nat.le_refl _) _).trans ⟨hb1.os, hb1.tape, hb1.output, hb1.size, fun i hi => hb1.block i (by show i < (w.alloc _).heap.size; rw [World.size_alloc]; omega)⟩
  have hown3' : Own w3 5 w.heap.size A3 c3 (l ++ (fr k ++ fr v)) := by
    have h := hown3.mono (base' := w.heap.size) (by show w.heap.size ≤ w1.heap.size; omega)
    rw [List.append_assoc] at h
    exact h
  exact ⟨A3, c3, ret_len (by simp), hown3', hb1'.trans ⟨hb3.os, hb3.tape, hb3.output, hb3.size, fun i hi => hb3.block i (by show i < w1.heap.size; omega)⟩⟩

/-- What TakePair comes to: key, value, rest, error. -/
def tpairS (l : List UInt8) (most : Int) : (List UInt8 × List UInt8) × List UInt8 × Nat :=
  if (frameS l most).2.2 = 0 then
    if (frameS (l.drop (frameS l most).2.1) most).2.2 = 0 then
      (((frameS l most).1, (frameS (l.drop (frameS l most).2.1) most).1), l.drop ((frameS l most).2.1 + (frameS (l.drop (frameS l most).2.1) most).2.1), 0)
    else (([], []), [], (frameS (l.drop (frameS l most).2.1) most).2.2)
  else (([], []), [], (frameS l most).2.2)
theorem tpairS_ok (l : List UInt8) (most : Int) (t t2 : List UInt8) (s s2 : Nat) (h : frameS l most = (t, s, 0)) (h2 : frameS (l.drop s) most = (t2, s2, 0)) : tpairS l most = ((t, t2), l.drop (s + s2), 0) := by
  unfold tpairS; rw [h]; dsimp only; rw [h2]; simp
theorem tpairS_err2 (l : List UInt8) (most : Int) (t : List UInt8) (s x : Nat) (h : frameS l most = (t, s, 0)) (h2 : frameS (l.drop s) most = ([], 0, x)) (hx : x = 2 ∨ x = 3 ∨ x = 5) : tpairS l most = (([], []), [], x) := by
  unfold tpairS; rw [h]; dsimp only; rw [h2]; dsimp only; rw [if_pos rfl, if_neg (by omega)]
theorem tpairS_err1 (l : List UInt8) (most : Int) (x : Nat) (h : frameS l most = ([], 0, x)) (hx : x = 2 ∨ x = 3 ∨ x = 5) : tpairS l most = (([], []), [], x) := by
  unfold tpairS; rw [h]; dsimp only; rw [if_neg (by omega)]

def RetP (base : Nat) (w : World) (t : (List UInt8 × List UInt8) × List UInt8 × Nat) (e : Ending) (w' : World) : Prop :=
  ∃ A c, e = .returned (.tuple #[.agg #[.string ⟨t.1.1.toArray⟩, .string ⟨t.1.2.toArray⟩], .slice A t.2.1.length c, .int .i64 (t.2.2 : Int)]) ∧ Own w' 5 base A c t.2.1 ∧ Below base w w'

set_option maxRecDepth 100000 in
/-- varint.TakePair -/
theorem takePair_c (A : Option Addr) (n c : Nat) (l : List UInt8) (most : Int) (w : World) (hr : Rb w w.heap.size A n c l) (hn : n ≤ 1000000) (hm : I64 most) :
    Calls Try.prog 21 #[.slice A n c, .int .i64 most] w (RetP w.heap.size w (tpairS l most)) := by
  have hl := hr.len
  rcases frameS_cases l most with ⟨t, s, hf, hs, ht⟩ | ⟨x, hf, hx⟩
  · obtain ⟨D, hD, hrD⟩ := bty.from_ hr (k := s) (by omega) (s : Int) rfl
    have hsn : s ≤ n := by omega
    rcases frameS_cases (l.drop s) most with ⟨t2, s2, hf2, hs2, ht2⟩ | ⟨x, hf2, hx⟩
    · have hs2n : s2 ≤ n - s := by rw [List.length_drop] at hs2; omega
      obtain ⟨D2, hD2, hrD2⟩ := bty.from_ hr (k := s + s2) (by omega) ((s : Int) + (s2 : Int)) (by omega)
      rw [tpairS_ok l most t t2 s s2 hf hf2]
      have Hr := Lib.hid hr; have Hf := Lib.hid hf; have HrD := Lib.hid hrD; have Hl := Lib.hid hl; have Hm := Lib.hid hm; have Hf2 := Lib.hid hf2; have HrD2 := Lib.hid hrD2; clear hr hf hrD hl hm hf2 hrD2
      go_enter Try.func21, Try.ntmps21
      go_wp2_with fail
      refine (frame_ok A n c _ l most _ (Hr.out.alloc (Nat.le_refl _) _) hn Hm.out t s Hf.out).mono ?_
      rintro e w' ⟨rfl, rfl⟩
      go_wp2_with fail
      refine (frame_ok D (n - s) (c - s) _ (l.drop s) most _ (HrD.out.alloc (Nat.le_refl _) _) (by omega) Hm.out t2 s2 Hf2.out).mono ?_
      rintro e w' ⟨rfl, rfl⟩
      go_wp2_with fail
      refine (grown_c D2 (n - (s + s2)) (c - (s + s2)) _ 0 _ ((HrD2.out.alloc (Nat.le_refl _) _).more (by simp)) (by omega) (by omega)).mono ?_
      rintro e w1 ⟨A1, c1, rfl, hown1, hb1⟩
      have hc0 : w1.cell? ⟨w.heap.size, 0, none⟩ = some (.string ⟨#[]⟩) := (hb1.cell (by simp)).trans (by simp)
      have hc1 : w1.cell? ⟨w.heap.size, 1, none⟩ = some (.string ⟨#[]⟩) := (hb1.cell (by simp)).trans (by simp)
      have hz0 : w1.frozen? ⟨w.heap.size, 0, none⟩ = false := (hb1.frozen (by simp)).trans (by simp)
      have hz1 : w1.frozen? ⟨w.heap.size, 1, none⟩ = false := (hb1.frozen (by simp)).trans (by simp)
      rw [World.size_alloc] at hown1 hb1
      have hsz : w.heap.size < w1.heap.size := by have := hb1.size; simp at this; omega
      go_wp2
      refine bodyPost_ret (v := .tuple #[.agg #[.string ⟨t.toArray⟩, .string ⟨t2.toArray⟩], .slice A1 (l.drop (s + s2)).length c1, .int .i64 0]) ?_ rfl ⟨A1, c1, rfl, ?_, ?_⟩
      · simp [results, Try.results21, go_sem, hc0, hc1]
      · exact (((hown1.setLow (by simp) _).setLow (by simp) _).mono (Nat.le_succ _))
      · exact (((((Below.refl _ _).alloc (Nat.le_refl _) _).trans (hb1.mono (Nat.le_succ _))).setCell (by simp) _).setCell (by simp) _)
    · rw [tpairS_err2 l most t s x hf hf2 hx]
      have Hr := Lib.hid hr; have Hf := Lib.hid hf; have HrD := Lib.hid hrD; have Hl := Lib.hid hl; have Hm := Lib.hid hm; have Hf2 := Lib.hid hf2; clear hr hf hrD hl hm hf2
      have hx1 : 2 ≤ x := by omega
      clear hx
      go_enter Try.func21, Try.ntmps21
      go_wp2_with fail
      refine (frame_ok A n c _ l most _ (Hr.out.alloc (Nat.le_refl _) _) hn Hm.out t s Hf.out).mono ?_
      rintro e w' ⟨rfl, rfl⟩
      go_wp2_with fail
      refine (frame_err D (n - s) (c - s) _ (l.drop s) most _ (HrD.out.alloc (Nat.le_refl _) _) (by omega) Hm.out x Hf2.out).mono ?_
      rintro e w' ⟨rfl, rfl⟩
      go_wp2
      exact bodyPost_ret (v := .tuple #[.agg #[.string ⟨#[]⟩, .string ⟨#[]⟩], .slice none 0 0, .int .i64 (x : Int)]) (by simp [results, Try.results21, go_sem]) rfl ⟨none, 0, rfl, Own.nil _ _ _, (Below.refl _ _).alloc (Nat.le_refl _) _⟩
  · rw [tpairS_err1 l most x hf hx]
    have Hr := Lib.hid hr; have Hf := Lib.hid hf; have Hm := Lib.hid hm; clear hr hf hl hm
    have hx1 : 2 ≤ x := by omega
    clear hx
    go_enter Try.func21, Try.ntmps21
    go_wp2_with fail
    refine (frame_err A n c _ l most _ (Hr.out.alloc (Nat.le_refl _) _) hn Hm.out x Hf.out).mono ?_
    rintro e w' ⟨rfl, rfl⟩
    go_wp2
    exact bodyPost_ret (v := .tuple #[.agg #[.string ⟨#[]⟩, .string ⟨#[]⟩], .slice none 0 0, .int .i64 (x : Int)]) (by simp [results, Try.results21, go_sem]) rfl ⟨none, 0, rfl, Own.nil _ _ _, (Below.refl _ _).alloc (Nat.le_refl _) _⟩
end Go.Proofs.Ytcmagegcolcalaa
